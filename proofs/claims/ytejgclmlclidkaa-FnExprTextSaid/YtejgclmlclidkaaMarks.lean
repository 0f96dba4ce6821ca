/- The contracts of the laws' marks on slices of strings. Conditions: the slice is a row of the call's own; fewer than 2^40 elements. -/
import Derived.Test.YtejgclmlclidkaaStrs
import Derived.Test.YtejgclmlclidkaaConv
import Derived.Deep.RegionHeld3
namespace Go.Proofs.Ytejgclmlclidkaa
open Go Go.RowKit

/-- The text of a mark. -/
def mt (m : Int) : ByteArray := ⟨(109 :: dz m.toNat).toArray⟩

set_option maxHeartbeats 400000 in
theorem mark_text (n : Int) (h0 : 0 < n) (h1 : n ≤ 9223372036854775807) (w : World) :
    Calls Try.prog 72 #[.int .i64 n] w fun e w' => e = .returned (.string (mt n)) ∧ Below w.heap.size w w' := by
  have HN := Lib.hid (dz_len n h0 h1)
  go_enter Try.func72, Try.ntmps72
  go_wp2
  go_loopw [0, 3] (fun m o wr => ∃ a : Int, ∃ l : List UInt8, 0 ≤ a ∧ a ≤ 9223372036854775807 ∧ dz a.toNat ++ l = dz n.toNat ∧ m = .int .i64 a ∧ o = .string ⟨l.toArray⟩ ∧ Below w.heap.size w wr) (fun m _ _ => (intOf m).toNat)
  case atStart => exact ⟨n, [], by omega, h1, by simp, rfl, rfl, Below.refl _ _⟩
  case round =>
    obtain ⟨a, l, hk0, hk1, hl, rfl, rfl, hb⟩ := hrel
    have hlen : l.length ≤ 21 := by
      have e := congrArg List.length hl
      have e2 := HN.out
      rw [List.length_append] at e
      omega
    have HL := Lib.hid hl
    clear hl
    by_cases hz : 0 < a
    · have hz3 : 0 ≤ a % 10 := by omega
      have hz4 : a % 10 < 10 := by omega
      have hs := Lib.hid hb.size
      have kc := fun (W : World) (v : Int) => conv_one W v
      go_wp2
      go_roundw
      case rel =>
        refine ⟨a / 10, UInt8.ofNat (48 + a % 10).toNat :: l, by omega, by omega, ?_, rfl, rfl, hb.alloc hs.out _⟩
        rw [← HL.out, dz_int a hz, List.append_assoc]
        rfl
      case measure => simp [intOf]; omega
    · obtain rfl : a = 0 := by omega
      go_wp2
      go_ret
      have e := HL.out
      simp [dz_zero] at e
      refine ⟨?_, hb⟩
      unfold mt
      rw [← e]; rfl
/-- The marks of n elements, from M on. -/
def mlist (M : Int) (n : Nat) : List ByteArray := (List.range n).map fun (k : Nat) => mt (M + (k : Int))
theorem mlist_length (M : Int) (n : Nat) : (mlist M n).length = n := by simp [mlist]
theorem mlist_at (M : Int) (n k : Nat) (h : k < n) : (mlist M n)[k]? = some (mt (M + (k : Int))) := by simp [mlist, h]
theorem mlist_succ (M : Int) (k : Nat) : mlist M (k + 1) = mlist M k ++ [mt (M + (k : Int))] := by simp [mlist, List.range_succ]

theorem only_below {a w w' : World} {row : Option Nat} (h : a.grownBy w row) (hb : Below w.heap.size w w') : a.grownBy w' row :=
  ⟨hb.os.trans h.os, hb.tape.trans h.tape, hb.output.trans h.output, Nat.le_trans h.size hb.size, fun i hi hn => (hb.block i (Nat.lt_of_lt_of_le hi h.size)).trans (h.block i hi hn)⟩
theorem only_set {a w : World} {g : Nat} (h : a.grownBy w (some g)) (k : Nat) (u : Value) : a.grownBy (w.setCell ⟨g, k, none⟩ u) (some g) :=
  ⟨h.os, h.tape, h.output, by simpa [World.setCell] using h.size, fun i hi hne => (Below.heap_setCell w ⟨g, k, none⟩ u i (fun e => hne (by rw [e]))).trans (h.block i hi hne)⟩
theorem grown_of_below {w w' : World} (h : Below w.heap.size w w') : w.grownBy w' none := ⟨h.os, h.tape, h.output, h.size, fun k hk _ => h.block k hk⟩
theorem own_below {w w' : World} {B n : Nat} {e : TypeId} {v : Value} {xs : List Value} (h : w.ownsRow B e 1 v n xs) (hb : Below w.heap.size w w') : w'.ownsRow B e 1 v n xs :=
  h.kept (grown_of_below hb) (by cases hv : v.ownBlock <;> simp)

theorem mark_step {M : Int} {ys : List Value} {k : Nat} (hk : k < ys.length) (h : ys.take k = (mlist M k).map Value.string) :
    (ys.set k (.string (mt (M + (k : Int))))).take (k + 1) = (mlist M (k + 1)).map Value.string := by
  rw [mlist_succ, List.map_append, ← h, take_nextS _ k (by rw [List.length_set]; exact hk), List.take_set_of_le (Nat.le_refl _), List.getElem_set_self]
  rfl

def MarkPost (M : Int) (B g n cap : Nat) (w : World) (e : Ending) (w' : World) : Prop :=
  e = .returned (.int .i64 (M + (n : Int))) ∧ w'.ownsRow B 9 1 (.slice (some ⟨g, 0, none⟩) n cap) n ((mlist M n).map Value.string) ∧ w.grownBy w' (some g)

set_option maxHeartbeats 1000000 in
theorem mark_any (M : Int) (hM0 : 1 ≤ M) (hM1 : M ≤ 4398046511104) (B g n cap : Nat) (ys0 : List Value) (w : World) (ho : w.ownsRow B 9 1 (.slice (some ⟨g, 0, none⟩) n cap) n ys0) (hn : n ≤ 1099511627776) :
    Calls Try.prog 44 #[.slice (some ⟨g, 0, none⟩) n cap, .int .i64 M] w (MarkPost M B g n cap w) := by
  have HO := Lib.hid ho
  clear ho
  go_enter Try.func44, Try.ntmps44
  go_wp2
  go_loopw [1, 5] (fun m i wr => ∃ (k : Nat) (ys : List Value), k ≤ n ∧ i = .int .i64 (k : Int) ∧ m = .int .i64 (M + (k : Int)) ∧ Hid (ys.take k = (mlist M k).map Value.string) ∧ Hid (wr.ownsRow B 9 1 (.slice (some ⟨g, 0, none⟩) n cap) n ys) ∧ Hid (w.grownBy wr (some g))) (fun _ i _ => n - (intOf i).toNat)
  case atStart => exact ⟨0, _, Nat.zero_le _, rfl, by go_num, Lib.hid rfl, HO, Lib.hid (World.grownBy.refl w _)⟩
  case round =>
    obtain ⟨k, ys, hk, rfl, rfl, HY, HO2, HG⟩ := hrel
    by_cases hlt : k < n
    · have hyl : k < ys.length := by rw [HO2.out.1, Nat.mul_one]; exact hlt
      have HM := Lib.hid (mark_step hyl HY.out)
      have HC := Lib.hid (mark_text (M + (k : Int)) (by omega) (by omega) wr)
      have HYL := Lib.hid hyl
      clear hyl
      go_wp2_with (go_at_call 72; refine HC.out.mono ?_; rintro e w2 ⟨rfl, hb2⟩; have ho3 := own_below HO2.out hb2; have hd := (ho3.cellAt k (by rw [Nat.mul_one]; exact hlt)).trans (List.getElem?_eq_getElem HYL.out); have hf := ho3.frozenAt k; have HG3 := Lib.hid (only_below HG.out hb2); have HO3 := Lib.hid ho3; clear ho3 hb2; generalize ys[k] = y0 at hd)
      go_roundw
      case rel => exact ⟨k + 1, _, by omega, by go_num, by go_num, HM, Lib.hid (HO3.out.stored k (.string (mt (M + (k : Int))))).1, Lib.hid (only_set HG3.out k _)⟩
      case measure => simp [intOf]; omega
    · have hk' : k = n := by omega
      have HE := Lib.hid (show ys = (mlist M n).map Value.string by
        have h1 := HY.out
        have h2 := HO2.out.1
        rw [List.take_of_length_le (by omega), hk'] at h1
        exact h1)
      have HKN := Lib.hid hk'
      clear hk'
      go_wp2
      go_ret
      refine ⟨?_, ?_, HG.out⟩
      · have := HKN.out; subst this; rfl
      · rw [← HE.out]; exact HO2.out

theorem add_litS (g k : Nat) : (⟨g, 0, none⟩ : Addr).add k = ⟨g, 0 + k, none⟩ := by
  unfold Addr.add
  split <;> simp_all
theorem below_drew1 {B : Nat} {w w' : World} (h : Below B w w') : Below B w w'.drew := ⟨h.os, h.tape, h.output, h.size, h.block⟩
theorem keep_start {wr : World} {a : Addr} {x : Value} (h : wr.cell? a = some x) : wr.drew.cell? a = some x ∧ Hid (Below wr.heap.size wr wr.drew) := ⟨h, Lib.hid (below_drew1 (Below.refl _ _))⟩
theorem keep_step {wr X w2 : World} {a : Addr} {x : Value} (hg : a.block < wr.heap.size) (hb : Below X.heap.size X w2) (h : X.cell? a = some x ∧ Hid (Below wr.heap.size wr X)) : w2.cell? a = some x ∧ Hid (Below wr.heap.size wr w2) :=
  ⟨(hb.cell (p := a) (Nat.lt_of_lt_of_le hg h.2.out.size)).trans h.1, Lib.hid (h.2.out.trans (hb.mono h.2.out.size))⟩
def HeldPost (M : Int) (n : Nat) (w : World) (e : Ending) (w' : World) : Prop := e = .returned (.int .i64 (M + (n : Int))) ∧ Below w.heap.size w w'

set_option maxHeartbeats 1000000 in
theorem held_any (M : Int) (hM0 : 1 ≤ M) (hM1 : M ≤ 4398046511104) (g n cap : Nat) (w : World) (hs : Strs w (some ⟨g, 0, none⟩) (mlist M n)) (hn : n ≤ 1099511627776) :
    Calls Try.prog 45 #[.slice (some ⟨g, 0, none⟩) n cap, .int .i64 M] w (HeldPost M n w) := by
  have HS := Lib.hid hs
  clear hs
  go_enter Try.func45, Try.ntmps45
  go_wp2
  go_loopw [1, 5] (fun m i wr => ∃ (k : Nat), k ≤ n ∧ i = .int .i64 (k : Int) ∧ m = .int .i64 (M + (k : Int)) ∧ Hid (Below w.heap.size w wr)) (fun _ i _ => n - (intOf i).toNat)
  case atStart => exact ⟨0, Nat.zero_le _, rfl, by go_num, Lib.hid (Below.refl _ _)⟩
  case round =>
    obtain ⟨k, hk, rfl, rfl, HB⟩ := hrel
    by_cases hlt : k < n
    · have hk0 : 0 ≤ (k : Int) := by omega
      have hkn : (k : Int) < (n : Int) := by omega
      have hc : wr.cell? ⟨g, k, none⟩ = some (.string (mt (M + (k : Int)))) ∧ g < wr.heap.size := by
        obtain ⟨a, e, h1, h2⟩ := HS.out k (mt (M + (k : Int))) (mlist_at M n k hlt)
        obtain rfl := Option.some.inj e
        have h3 := (HB.out.cell (p := (⟨g, 0, none⟩ : Addr).add k) (by rw [block_add]; exact h2)).trans h1
        rw [add_litS, Nat.zero_add] at h3
        exact ⟨h3, Nat.lt_of_lt_of_le h2 HB.out.size⟩
      obtain ⟨hcell, hg⟩ := hc
      have HC := Lib.hid (fun (W : World) => mark_text (M + (k : Int)) (by omega) (by omega) W)
      go_wp2_with fail
      go_region_held3 (fun w' => w'.cell? ⟨g, k, none⟩ = some (.string (mt (M + (k : Int)))) ∧ Hid (Below wr.heap.size wr w'))
        (first | exact keep_start hcell | exact keep_step (a := ⟨g, k, none⟩) hg hb2 (by assumption))
        (first | (go_at_call 72; refine (HC.out _).mono ?_; rintro e w2 ⟨rfl, hb2⟩))
      all_goals
        have hx := ‹_ ∧ Hid (Below wr.heap.size wr w2)›
        have HX := Lib.hid (HB.out.trans (hx.2.out.mono HB.out.size))
        clear hx
        go_wp2
        go_roundw
        case rel => exact ⟨k + 1, by omega, by go_num, by go_num, HX⟩
        case measure => simp [intOf]; omega
    · have hk' : k = n := by omega
      have HKN := Lib.hid hk'
      clear hk'
      go_wp2
      go_ret
      refine ⟨?_, HB.out⟩
      have := HKN.out; subst this; rfl
end Go.Proofs.Ytejgclmlclidkaa
