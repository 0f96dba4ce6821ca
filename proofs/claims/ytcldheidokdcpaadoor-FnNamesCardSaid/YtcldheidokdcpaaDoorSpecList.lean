/- The contract of the model's draw of a list of names, l2List. Condition: the code is at most 1048576 bytes long. -/
import Derived.Test.YtcldheidokdcpaaDoorSpecUnite
import Derived.Test.YtcldheidokdcpaaDoorDrawPick
namespace Go.Proofs.YtcldheidokdcpaaDoor
open Go Go.RowKit

/-- The texts that l2List draws. -/
def six : List ByteArray := [⟨#[118, 49]⟩, ⟨#[118, 50]⟩, ⟨#[118, 51]⟩, ⟨#[120]⟩, ⟨#[102, 49]⟩, ⟨#[118]⟩]
theorem six_size : ∀ x ∈ six, x.size ≤ 2 := by decide
theorem OwnsL.only {B g : Nat} {w w' : World} {v : Value} {xs : List ByteArray} (h : OwnsL B w v xs) (ho : Only g w w') (hg : g < B) : OwnsL B w' v xs :=
  World.ownsRow.kept h ho (by
    cases hv : v.ownBlock with
    | none => exact Or.inl rfl
    | some k =>
      refine Or.inr (fun e => ?_)
      have := (World.ownsRow.lt h k hv).1
      cases e; omega)
theorem Only.grown {g : Nat} {w w3 w4 : World} {row : Option Nat} (h : Only g w w3) (k : w3.grownBy w4 row) (hr : ∀ j, row = some j → w.heap.size ≤ j) : Only g w w4 :=
  ⟨k.os.trans h.os, k.tape.trans h.tape, k.output.trans h.output, Nat.le_trans h.size k.size, fun i hi hn =>
    (k.block i (Nat.lt_of_lt_of_le hi h.size) (fun e => by have := hr i e.symm; omega)).trans (h.block i hi hn)⟩
theorem Cur.grown {g n cap : Nat} {A : Option Addr} {w3 w4 : World} {row : Option Nat} (h : Cur w3 g A n cap) (k : w3.grownBy w4 row) (hr : row ≠ some g) : Cur w4 g A n cap := by
  have hl := h.lt
  obtain ⟨i, x, hi, hx⟩ := h
  exact ⟨i, x, hi, (k.block g hl (fun e => hr e.symm)).trans hx⟩

def ListPost (g : Nat) (A : Option Addr) (n cap : Nat) (w : World) (e : Ending) (w' : World) : Prop :=
  ∃ v out, e = .returned v ∧ OwnsL w.heap.size w' v out ∧ out.length ≤ 5 ∧ (∀ x ∈ out, x ∈ six) ∧ Cur w' g A n cap ∧ Only g w w'

set_option maxHeartbeats 1000000 in
theorem list_any (B g : Nat) (A : Option Addr) (zs : List Int) (cap : Nat) (w : World) (hs : Bytes w B A zs) (hg : B ≤ g) (hc : Cur w g A zs.length cap) (hn : zs.length ≤ 1048576) :
    Calls Tryd.prog 29 #[.pointer (some ⟨g, 0, none⟩)] w (ListPost g A zs.length cap w) := by
  obtain ⟨i0, hi, hz0, hz1, hz2⟩ := info_parts Tryd.info9u
  have HI := Lib.hid (And.intro hi (And.intro hz0 (And.intro hz1 hz2)))
  clear hi hz0 hz1 hz2
  have hgl := hc.lt
  have HS := Lib.hid hs
  have HN := Lib.hid hn
  have HBW := Lib.hid (show B ≤ w.heap.size by omega)
  have HBel := Lib.hid (below_small B g A zs cap 6 (w.alloc (.cells #[] 9)) (hs.alloc HBW.out _) hg (hc.alloc _) hn (by decide) (by decide))
  clear hs hn
  go_enter Tryd.func29, Tryd.ntmps29
  go_wp2_with (go_at_call 38; refine HBel.out.mono ?_; rintro e w1 ⟨m, rfl, hm0, hm1, hc1, ho1⟩)
  have H0 := Lib.hid (OwnsL.only (v := .slice (some ⟨w.heap.size, 0, none⟩) 0 0) (xs := []) (show OwnsL w.heap.size (w.alloc (.cells #[] 9)) (.slice (some ⟨w.heap.size, 0, none⟩) 0 0) [] from World.ownsRow_made w #[] 0 (Nat.le_refl _) (Nat.zero_le _) rfl) ho1 hgl)
  have HO1 := Lib.hid ((Only.alloc (Only.refl g w) (.cells #[] 9)).trans ho1)
  have HC1 := Lib.hid hc1
  clear hc1 ho1
  go_loopw [3, 5] (fun v i wr => ∃ (k : Nat) (out : List ByteArray), (k : Int) ≤ m ∧ i = .int .i64 (k : Int) ∧ out.length ≤ k ∧ Hid (∀ x ∈ out, x ∈ six) ∧ Hid (OwnsL w.heap.size wr v out) ∧ Hid (Cur wr g A zs.length cap) ∧ Hid (Only g w wr)) (fun _ i _ => m.toNat - (intOf i).toNat)
  case atStart => exact ⟨0, [], by omega, rfl, Nat.le_refl _, Lib.hid (fun x hx => by cases hx), H0, HC1, HO1⟩
  case round =>
    obtain ⟨k, out, hk, rfl, hol, H6, HO, HC, HX⟩ := hrel
    by_cases hlt : (k : Int) < m
    · have hgr := HC.out.lt
      have hsz := HX.out.size
      have HP := Lib.hid (pick_any B g wr.heap.size A zs cap 6 six (wr.alloc (.cells #[.string ⟨#[118, 49]⟩, .string ⟨#[118, 50]⟩, .string ⟨#[118, 51]⟩, .string ⟨#[120]⟩, .string ⟨#[102, 49]⟩, .string ⟨#[118]⟩] 9)) ((HS.out.only HX.out hg HBW.out).alloc (by omega) _) hg (HC.out.alloc _) HN.out (Row.new wr 9 (six.map Value.string)) (by omega) (by decide) (by decide))
      have C1 := Lib.hid (show out.length + 1 ≤ maxLen by unfold maxLen; omega)
      have C2 := Lib.hid (show (out.length + 1) * 16 ≤ 140737488355328 by omega)
      have HDL := Lib.hid (show ∀ x : ByteArray, (out ++ [x]).length ≤ k + 1 from fun x => by rw [List.length_append]; simp; omega)
      go_wp2_with (first
        | (go_at_call 30; refine HP.out.mono ?_; rintro e w2 ⟨x, hx6, rfl, hc2, ho2⟩
           have HO2 := Lib.hid (World.ownsRow.alloc (OwnsL.only (World.ownsRow.alloc HO.out (.cells #[.string ⟨#[118, 49]⟩, .string ⟨#[118, 50]⟩, .string ⟨#[118, 51]⟩, .string ⟨#[120]⟩, .string ⟨#[102, 49]⟩, .string ⟨#[118]⟩] 9)) ho2 hgl) (.cells #[.string x] 9))
           have HX2 := Lib.hid (((HX.out.alloc (.cells #[.string ⟨#[118, 49]⟩, .string ⟨#[118, 50]⟩, .string ⟨#[118, 51]⟩, .string ⟨#[120]⟩, .string ⟨#[102, 49]⟩, .string ⟨#[118]⟩] 9)).trans ho2).alloc (.cells #[.string x] 9))
           have HC2 := Lib.hid (hc2.alloc (.cells #[.string x] 9))
           have H62 := Lib.hid (show ∀ y ∈ out ++ [x], y ∈ six from fun y hy => by
             rcases List.mem_append.1 hy with h | h
             · exact H6.out y h
             · rw [List.mem_singleton] at h; rw [h]; exact hx6)
           have C4 := Lib.hid (show w.heap.size ≤ (w2.alloc (.cells #[.string x] 9)).heap.size from HX2.out.size)
           have HNW := Lib.hid (cell_new (W := w2) (x := x))
           have H1C := Lib.hid (one_new (x := x))
           clear hx6 hc2 ho2)
        | (at_builtin; (refine wpList_append_own _ rfl (.tmp 14) (.tmp 18) 24 rfl w.heap.size 9 i0 (.string ⟨#[]⟩) 1 16 Tryd.underlying24 HI.out.1 HI.out.2.1 HI.out.2.2.1 HI.out.2.2.2 rfl (by decide) u3 _ _ rfl HO2.out ⟨w2.heap.size, 0, none⟩ 1 1 [.string x] rfl rfl HNW.out H1C.out C1.out C2.out C4.out ?_); intro v1 w3 ho1 hg1 _
           have HO3 := Lib.hid (OwnsL.next ho1)
           have HX3 := Lib.hid (Only.grown HX2.out hg1 (fun j hj => (World.ownsRow.lt HO2.out j hj).1))
           have HC3 := Lib.hid (Cur.grown HC2.out hg1 (fun e => by have := (World.ownsRow.lt HO2.out g e).1; omega))
           clear ho1 hg1))
      go_roundw
      case rel => exact ⟨k + 1, _, by omega, by go_num, HDL.out _, H62, HO3, HC3, HX3⟩
      case measure => simp [intOf]; omega
    · go_wp2
      go_ret
      exact ⟨_, out, rfl, HO.out, by omega, H6.out, HC.out, HX.out⟩
end Go.Proofs.YtcldheidokdcpaaDoor
