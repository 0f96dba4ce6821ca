/- The contracts of the laws' marks on slices of strings. Conditions: the slice is a row of the call's own; fewer than 2^40 elements. -/
import Derived.Test.YtegigjnlecpplaaStrs
import Derived.Test.YtegigjnlecpplaaConv
import Derived.Deep.RegionHeld3
namespace Go.Proofs.Ytegigjnlecpplaa
open Go Go.RowKit

/-- The text of a mark. -/
def mt (m : Int) : ByteArray := ⟨(109 :: dz m.toNat).toArray⟩

set_option maxHeartbeats 400000 in
theorem mark_text (n : Int) (h0 : 0 < n) (h1 : n ≤ 9223372036854775807) (w : World) :
    Calls Try.prog 66 #[.int .i64 n] w fun e w' => e = .returned (.string (mt n)) ∧ Below w.heap.size w w' := by
  have HN := Lib.hid (dz_len n h0 h1)
  go_enter Try.func66, Try.ntmps66
  go_wp2
  go_loopw [0, 3] (fun m o wr => ∃ a : Int, ∃ l : List UInt8, 0 ≤ a ∧ a ≤ 9223372036854775807 ∧ dz a.toNat ++ l = dz n.toNat ∧ m = .int .i64 a ∧ o = .string ⟨l.toArray⟩ ∧ Below w.heap.size w wr) (fun m _ _ => (intOf m).toNat)
  case atStart => exact ⟨n, [], by omega, h1, by simp, rfl, rfl, Below.refl _ _⟩
  case round =>
    obtain ⟨a, l, hk0, hk1, hl, rfl, rfl, hb⟩ := hrel
    have hlen : l.length ≤ 21 := by
      have e := congrArg List.length hl
      have e2 := HN.out
      rw [List.length_append] at e
      omega
    have HL := Lib.hid hl
    clear hl
    by_cases hz : 0 < a
    · have hz3 : 0 ≤ a % 10 := by omega
      have hz4 : a % 10 < 10 := by omega
      have hs := Lib.hid hb.size
      have kc := fun (W : World) (v : Int) => conv_one W v
      go_wp2
      go_roundw
      case rel =>
        refine ⟨a / 10, UInt8.ofNat (48 + a % 10).toNat :: l, by omega, by omega, ?_, rfl, rfl, hb.alloc hs.out _⟩
        rw [← HL.out, dz_int a hz, List.append_assoc]
        rfl
      case measure => simp [intOf]; omega
    · obtain rfl : a = 0 := by omega
      go_wp2
      go_ret
      have e := HL.out
      simp [dz_zero] at e
      refine ⟨?_, hb⟩
      unfold mt
      rw [← e]; rfl
/-- The marks of n elements, from M on. -/
def mlist (M : Int) (n : Nat) : List ByteArray := (List.range n).map fun (k : Nat) => mt (M + (k : Int))
theorem mlist_length (M : Int) (n : Nat) : (mlist M n).length = n := by simp [mlist]
theorem mlist_at (M : Int) (n k : Nat) (h : k < n) : (mlist M n)[k]? = some (mt (M + (k : Int))) := by simp [mlist, h]
theorem mlist_succ (M : Int) (k : Nat) : mlist M (k + 1) = mlist M k ++ [mt (M + (k : Int))] := by simp [mlist, List.range_succ]

theorem only_below {a w w' : World} {row : Option Nat} (h : a.grownBy w row) (hb : Below w.heap.size w w') : a.grownBy w' row :=
  ⟨hb.os.trans h.os, hb.tape.trans h.tape, hb.output.trans h.output, Nat.le_trans h.size hb.size, fun i hi hn => (hb.block i (Nat.lt_of_lt_of_le hi h.size)).trans (h.block i hi hn)⟩
theorem only_set {a w : World} {g : Nat} (h : a.grownBy w (some g)) (k : Nat) (u : Value) : a.grownBy (w.setCell ⟨g, k, none⟩ u) (some g) :=
  ⟨h.os, h.tape, h.output, by simpa [World.setCell] using h.size, fun i hi hne => (Below.heap_setCell w ⟨g, k, none⟩ u i (fun e => hne (by rw [e]))).trans (h.block i hi hne)⟩
theorem grown_of_below {w w' : World} (h : Below w.heap.size w w') : w.grownBy w' none := ⟨h.os, h.tape, h.output, h.size, fun k hk _ => h.block k hk⟩
theorem own_below {w w' : World} {B n : Nat} {e : TypeId} {v : Value} {xs : List Value} (h : w.ownsRow B e 1 v n xs) (hb : Below w.heap.size w w') : w'.ownsRow B e 1 v n xs :=
  h.kept (grown_of_below hb) (by cases hv : v.ownBlock <;> simp)

theorem mark_step {M : Int} {ys : List Value} {k : Nat} (hk : k < ys.length) (h : ys.take k = (mlist M k).map Value.string) :
    (ys.set k (.string (mt (M + (k : Int))))).take (k + 1) = (mlist M (k + 1)).map Value.string := by
  rw [mlist_succ, List.map_append, ← h, take_nextS _ k (by rw [List.length_set]; exact hk), List.take_set_of_le (Nat.le_refl _), List.getElem_set_self]
  rfl

def MarkPost (M : Int) (B g n cap : Nat) (w : World) (e : Ending) (w' : World) : Prop :=
  e = .returned (.int .i64 (M + (n : Int))) ∧ w'.ownsRow B 9 1 (.slice (some ⟨g, 0, none⟩) n cap) n ((mlist M n).map Value.string) ∧ w.grownBy w' (some g)

theorem add_litS (g k : Nat) : (⟨g, 0, none⟩ : Addr).add k = ⟨g, 0 + k, none⟩ := by
  unfold Addr.add
  split <;> simp_all
theorem below_drew1 {B : Nat} {w w' : World} (h : Below B w w') : Below B w w'.drew := ⟨h.os, h.tape, h.output, h.size, h.block⟩
theorem keep_start {wr : World} {a : Addr} {x : Value} (h : wr.cell? a = some x) : wr.drew.cell? a = some x ∧ Hid (Below wr.heap.size wr wr.drew) := ⟨h, Lib.hid (below_drew1 (Below.refl _ _))⟩
theorem keep_step {wr X w2 : World} {a : Addr} {x : Value} (hg : a.block < wr.heap.size) (hb : Below X.heap.size X w2) (h : X.cell? a = some x ∧ Hid (Below wr.heap.size wr X)) : w2.cell? a = some x ∧ Hid (Below wr.heap.size wr w2) :=
  ⟨(hb.cell (p := a) (Nat.lt_of_lt_of_le hg h.2.out.size)).trans h.1, Lib.hid (h.2.out.trans (hb.mono h.2.out.size))⟩
def HeldPost (M : Int) (n : Nat) (w : World) (e : Ending) (w' : World) : Prop := e = .returned (.int .i64 (M + (n : Int))) ∧ Below w.heap.size w w'

end Go.Proofs.Ytegigjnlecpplaa
