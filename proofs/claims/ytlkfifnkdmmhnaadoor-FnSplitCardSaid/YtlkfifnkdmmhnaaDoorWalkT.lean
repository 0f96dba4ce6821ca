/- The contracts of the laws' marks on slices of strings. Conditions: the slice is a row of the call's own; fewer than 2^40 elements. -/
import Derived.Test.YtlkfifnkdmmhnaaDoorWalkS
namespace Go.Proofs.YtlkfifnkdmmhnaaDoor
open Go Go.RowKit

/-- The marks of the first n elements. -/
def mlist (n : Nat) : List ByteArray := (List.range n).map fun k => mt (k + 1)
theorem mlist_length (n : Nat) : (mlist n).length = n := by simp [mlist]
theorem mlist_at (n k : Nat) (h : k < n) : (mlist n)[k]? = some (mt (k + 1)) := by simp [mlist, h]
theorem mlist_succ (k : Nat) : mlist (k + 1) = mlist k ++ [mt (k + 1)] := by simp [mlist, List.range_succ]

theorem only_below {a w w' : World} {row : Option Nat} (h : a.grownBy w row) (hb : Below w.heap.size w w') : a.grownBy w' row :=
  ⟨hb.os.trans h.os, hb.tape.trans h.tape, hb.output.trans h.output, Nat.le_trans h.size hb.size, fun i hi hn => (hb.block i (Nat.lt_of_lt_of_le hi h.size)).trans (h.block i hi hn)⟩
theorem only_set {a w : World} {g : Nat} (h : a.grownBy w (some g)) (k : Nat) (u : Value) : a.grownBy (w.setCell ⟨g, k, none⟩ u) (some g) :=
  ⟨h.os, h.tape, h.output, by simpa [World.setCell] using h.size, fun i hi hne => (Below.heap_setCell w ⟨g, k, none⟩ u i (fun e => hne (by rw [e]))).trans (h.block i hi hne)⟩
theorem grown_of_below {w w' : World} (h : Below w.heap.size w w') : w.grownBy w' none := ⟨h.os, h.tape, h.output, h.size, fun k hk _ => h.block k hk⟩
theorem own_below {w w' : World} {B n : Nat} {e : TypeId} {v : Value} {xs : List Value} (h : w.ownsRow B e 1 v n xs) (hb : Below w.heap.size w w') : w'.ownsRow B e 1 v n xs :=
  h.kept (grown_of_below hb) (by cases hv : v.ownBlock <;> simp)

theorem mark_step {ys : List Value} {k : Nat} (hk : k < ys.length) (h : ys.take k = (mlist k).map Value.string) :
    (ys.set k (.string (mt (k + 1)))).take (k + 1) = (mlist (k + 1)).map Value.string := by
  rw [mlist_succ, List.map_append, ← h, take_nextS _ k (by rw [List.length_set]; exact hk), List.take_set_of_le (Nat.le_refl _), List.getElem_set_self]
  rfl

theorem mark_at (k : Nat) (h : k ≤ 1099511627776) (w : World) :
    Calls Tryd.prog 37 #[.int .i64 (1 + (k : Int))] w fun e w' => e = .returned (.string (mt (1 + k))) ∧ Below w.heap.size w w' := by
  have c := mark_text (1 + (k : Int)) (by omega) (by omega) w
  rw [show (1 + (k : Int)).toNat = 1 + k by omega] at c
  exact c
def MarkPost (B g n cap : Nat) (w : World) (e : Ending) (w' : World) : Prop :=
  e = .returned (.int .i64 (1 + (n : Int))) ∧ w'.ownsRow B 9 1 (.slice (some ⟨g, 0, none⟩) n cap) n ((mlist n).map Value.string) ∧ w.grownBy w' (some g)

set_option maxHeartbeats 1000000 in
theorem mark_any (B g n cap : Nat) (ys0 : List Value) (w : World) (ho : w.ownsRow B 9 1 (.slice (some ⟨g, 0, none⟩) n cap) n ys0) (hn : n ≤ 1099511627776) :
    Calls Tryd.prog 23 #[.slice (some ⟨g, 0, none⟩) n cap, .int .i64 1] w (MarkPost B g n cap w) := by
  have HO := Lib.hid ho
  clear ho
  go_enter Tryd.func23, Tryd.ntmps23
  go_wp2
  go_loopw [1, 5] (fun m i wr => ∃ (k : Nat) (ys : List Value), k ≤ n ∧ i = .int .i64 (k : Int) ∧ m = .int .i64 (1 + (k : Int)) ∧ Hid (ys.take k = (mlist k).map Value.string) ∧ Hid (wr.ownsRow B 9 1 (.slice (some ⟨g, 0, none⟩) n cap) n ys) ∧ Hid (w.grownBy wr (some g))) (fun _ i _ => n - (intOf i).toNat)
  case atStart => exact ⟨0, _, Nat.zero_le _, rfl, rfl, Lib.hid rfl, HO, Lib.hid (World.grownBy.refl w _)⟩
  case round =>
    obtain ⟨k, ys, hk, rfl, rfl, HY, HO2, HG⟩ := hrel
    by_cases hlt : k < n
    · have hyl : k < ys.length := by rw [HO2.out.1, Nat.mul_one]; exact hlt
      have HM := Lib.hid (mark_step hyl HY.out)
      have HC := Lib.hid (mark_at k (by omega) wr)
      have HYL := Lib.hid hyl
      clear hyl
      go_wp2_with (go_at_call 37; refine HC.out.mono ?_; rintro e w2 ⟨rfl, hb2⟩; have ho3 := own_below HO2.out hb2; have hd := (ho3.cellAt k (by rw [Nat.mul_one]; exact hlt)).trans (List.getElem?_eq_getElem HYL.out); have hf := ho3.frozenAt k; have HG3 := Lib.hid (only_below HG.out hb2); have HO3 := Lib.hid ho3; clear ho3 hb2; generalize ys[k] = y0 at hd)
      go_roundw
      case rel =>
        refine ⟨k + 1, _, by omega, by go_num, by go_num, HM, Lib.hid ?_, Lib.hid (only_set HG3.out k _)⟩
        rw [Nat.add_comm 1 k]
        exact (HO3.out.stored k (.string (mt (k + 1)))).1
      case measure => simp [intOf]; omega
    · have hk' : k = n := by omega
      have HE := Lib.hid (show ys = (mlist n).map Value.string by
        have h1 := HY.out
        have h2 := HO2.out.1
        rw [List.take_of_length_le (by omega), hk'] at h1
        exact h1)
      have HKN := Lib.hid hk'
      clear hk'
      go_wp2
      go_ret
      refine ⟨?_, ?_, HG.out⟩
      · have := HKN.out; subst this; rfl
      · rw [← HE.out]; exact HO2.out

theorem add_litS (g k : Nat) : (⟨g, 0, none⟩ : Addr).add k = ⟨g, 0 + k, none⟩ := by
  unfold Addr.add
  split <;> simp_all
theorem below_drew1 {B : Nat} {w w' : World} (h : Below B w w') : Below B w w'.drew := ⟨h.os, h.tape, h.output, h.size, h.block⟩
theorem keep_start {wr : World} {a : Addr} {x : Value} (h : wr.cell? a = some x) : wr.drew.cell? a = some x ∧ Hid (Below wr.heap.size wr wr.drew) := ⟨h, Lib.hid (below_drew1 (Below.refl _ _))⟩
theorem keep_step {wr X w2 : World} {a : Addr} {x : Value} (hg : a.block < wr.heap.size) (hb : Below X.heap.size X w2) (h : X.cell? a = some x ∧ Hid (Below wr.heap.size wr X)) : w2.cell? a = some x ∧ Hid (Below wr.heap.size wr w2) :=
  ⟨(hb.cell (p := a) (Nat.lt_of_lt_of_le hg h.2.out.size)).trans h.1, Lib.hid (h.2.out.trans (hb.mono h.2.out.size))⟩
def HeldPost (n : Nat) (w : World) (e : Ending) (w' : World) : Prop := e = .returned (.int .i64 (1 + (n : Int))) ∧ Below w.heap.size w w'

set_option maxHeartbeats 1000000 in
theorem held_any (g n cap : Nat) (w : World) (hs : Strs w (some ⟨g, 0, none⟩) (mlist n)) (hn : n ≤ 1099511627776) :
    Calls Tryd.prog 24 #[.slice (some ⟨g, 0, none⟩) n cap, .int .i64 1] w (HeldPost n w) := by
  have HS := Lib.hid hs
  clear hs
  go_enter Tryd.func24, Tryd.ntmps24
  go_wp2
  go_loopw [1, 5] (fun m i wr => ∃ (k : Nat), k ≤ n ∧ i = .int .i64 (k : Int) ∧ m = .int .i64 (1 + (k : Int)) ∧ Hid (Below w.heap.size w wr)) (fun _ i _ => n - (intOf i).toNat)
  case atStart => exact ⟨0, Nat.zero_le _, rfl, rfl, Lib.hid (Below.refl _ _)⟩
  case round =>
    obtain ⟨k, hk, rfl, rfl, HB⟩ := hrel
    by_cases hlt : k < n
    · have hk0 : 0 ≤ (k : Int) := by omega
      have hkn : (k : Int) < (n : Int) := by omega
      have hc : wr.cell? ⟨g, k, none⟩ = some (.string (mt (1 + k))) ∧ g < wr.heap.size := by
        obtain ⟨a, e, h1, h2⟩ := HS.out k (mt (k + 1)) (mlist_at n k hlt)
        obtain rfl := Option.some.inj e
        have h3 := (HB.out.cell (p := (⟨g, 0, none⟩ : Addr).add k) (by rw [block_add]; exact h2)).trans h1
        rw [add_litS, Nat.zero_add] at h3
        rw [Nat.add_comm 1 k]
        exact ⟨h3, Nat.lt_of_lt_of_le h2 HB.out.size⟩
      obtain ⟨hcell, hg⟩ := hc
      have HC := Lib.hid (fun (W : World) => mark_at k (by omega) W)
      go_wp2_with fail
      go_region_held3 (fun w' => w'.cell? ⟨g, k, none⟩ = some (.string (mt (1 + k))) ∧ Hid (Below wr.heap.size wr w'))
        (first | exact keep_start hcell | exact keep_step (a := ⟨g, k, none⟩) hg hb2 (by assumption))
        (first | (go_at_call 37; refine (HC.out _).mono ?_; rintro e w2 ⟨rfl, hb2⟩))
      all_goals
        have hx := ‹_ ∧ Hid (Below wr.heap.size wr w2)›
        have HX := Lib.hid (HB.out.trans (hx.2.out.mono HB.out.size))
        clear hx
        go_wp2
        go_roundw
        case rel => exact ⟨k + 1, by omega, by go_num, by go_num, HX⟩
        case measure => simp [intOf]; omega
    · have hk' : k = n := by omega
      have HKN := Lib.hid hk'
      clear hk'
      go_wp2
      go_ret
      refine ⟨?_, HB.out⟩
      have := HKN.out; subst this; rfl
end Go.Proofs.YtlkfifnkdmmhnaaDoor
