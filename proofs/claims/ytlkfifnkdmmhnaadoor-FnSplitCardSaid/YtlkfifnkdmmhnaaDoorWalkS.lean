/- The contracts of the laws' helpers for slices of strings: the comparison, the marks; and of the model's SplitByte. Conditions: as each says. -/
import Derived.Test.YtlkfifnkdmmhnaaDoorRows
import Derived.Test.YtlkfifnkdmmhnaaDoorNums
import Derived.Test.YtlkfifnkdmmhnaaDoorNumsD
import Derived.Test.YtlkfifnkdmmhnaaDoorWalkA
import Derived.WalkKit
import Derived.WalkSpells
import Derived.WalkLawsBesides
import Derived.Lib.Hide
import Derived.Deep.QuietTactic
import Derived.BigQuiet
import Derived.Deep.RegionHeld3
namespace Go.Proofs.YtlkfifnkdmmhnaaDoor
open Go Go.RowKit

/-- The slice at A reads as the strings xs. -/
def Strs (w : World) (A : Option Addr) (xs : List ByteArray) : Prop :=
  ∀ i x, xs[i]? = some x → ∃ a, A = some a ∧ w.cell? (a.add i) = some (.string x) ∧ a.block < w.heap.size
theorem block_add (a : Addr) (n : Nat) : (a.add n).block = a.block := by unfold Addr.add; split <;> rfl
theorem Strs.below {w w' : World} {A : Option Addr} {xs : List ByteArray} (h : Strs w A xs) (hb : Below w.heap.size w w') : Strs w' A xs := fun i x hx => by
  obtain ⟨a, e, hc, hl⟩ := h i x hx
  exact ⟨a, e, (hb.cell (p := a.add i) (by rw [block_add]; exact hl)).trans hc, Nat.lt_of_lt_of_le hl hb.size⟩
theorem Strs.at_ {w : World} {A : Option Addr} {xs : List ByteArray} (h : Strs w A xs) (k : Nat) (hk : k < xs.length) : ∃ a, A = some a ∧ w.cell? (a.add k) = some (.string xs[k]) ∧ a.block < w.heap.size :=
  h k xs[k] (List.getElem?_eq_getElem hk)

theorem take_nextS {α : Type} (l : List α) (k : Nat) (h : k < l.length) : l.take (k + 1) = l.take k ++ [l[k]] := by
  rw [List.take_succ_eq_append_getElem h]

theorem Strs.get {w : World} {A : Option Addr} {xs : List ByteArray} (h : Strs w A xs) (k : Nat) (hk : k < xs.length) :
    ∃ a x, A = some a ∧ w.cell? (a.add k) = some (.string x) ∧ x ∈ xs ∧ xs[k]? = some x ∧ xs.take (k + 1) = xs.take k ++ [x] ∧ a.block < w.heap.size := by
  obtain ⟨a, e, hc, hl⟩ := h.at_ k hk
  exact ⟨a, xs[k], e, hc, List.getElem_mem hk, List.getElem?_eq_getElem hk, take_nextS xs k hk, hl⟩

def EqPost (w : World) (e : Ending) (w' : World) : Prop := e = .returned (.bool true) ∧ ∃ q, w' = w.drewN q

set_option maxHeartbeats 1000000 in
theorem eq_same (A B : Option Addr) (xs : List ByteArray) (cap cap2 : Nat) (w : World) (hs : Strs w A xs) (hs2 : Strs w B xs) (hn : xs.length ≤ 140737488355328) :
    Calls Tryd.prog 22 #[.slice A xs.length cap, .slice B xs.length cap2] w (EqPost w) := by
  obtain ⟨n, hnn⟩ : ∃ n, n = xs.length := ⟨_, rfl⟩
  have HN := Lib.hid hnn
  have HS := Lib.hid hs
  have HS2 := Lib.hid hs2
  rw [← hnn]
  rw [← hnn] at hn
  clear hs hs2 hnn
  go_enter Tryd.func22, Tryd.ntmps22
  go_wp2
  go_loopw [5] (fun i wr => ∃ (k q : Nat), k ≤ n ∧ i = .int .i64 (k : Int) ∧ wr = w.drewN q) (fun i _ => n - (intOf i).toNat)
  case atStart => exact ⟨0, 0, Nat.zero_le _, rfl, by simp [World.drewN_zero]⟩
  case round =>
    obtain ⟨k, q, hk, rfl, rfl⟩ := hrel
    by_cases hlt : k < n
    · obtain ⟨a, x, rfl, hc, hmem, hx, -, -⟩ := HS.out.get k (by rw [← HN.out]; exact hlt)
      obtain ⟨b, y, rfl, hc2, -, hy, -, -⟩ := HS2.out.get k (by rw [← HN.out]; exact hlt)
      obtain rfl : x = y := Option.some.inj (hx.symm.trans hy)
      clear hmem hx hy
      have hk0 : 0 ≤ (k : Int) := by omega
      have hkn : (k : Int) < (n : Int) := by omega
      go_wp2
      go_quiet (fail)
      go_wp2
      go_roundw
      case rel => exact ⟨k + 1, _, by omega, by go_num, rfl⟩
      case measure => simp [intOf]; omega
    · go_wp2
      go_ret
      exact ⟨rfl, q, rfl⟩


/-- The text of a mark. -/
def mt (m : Nat) : ByteArray := ⟨(109 :: dz m).toArray⟩

set_option maxHeartbeats 400000 in
theorem mark_text (n : Int) (h0 : 0 < n) (h1 : n ≤ 9223372036854775807) (w : World) :
    Calls Tryd.prog 37 #[.int .i64 n] w fun e w' => e = .returned (.string (mt n.toNat)) ∧ Below w.heap.size w w' := by
  have HN := Lib.hid (dz_len n h0 h1)
  go_enter Tryd.func37, Tryd.ntmps37
  go_wp2
  go_loopw [0, 3] (fun m o wr => ∃ a : Int, ∃ l : List UInt8, 0 ≤ a ∧ a ≤ 9223372036854775807 ∧ dz a.toNat ++ l = dz n.toNat ∧ m = .int .i64 a ∧ o = .string ⟨l.toArray⟩ ∧ Below w.heap.size w wr) (fun m _ _ => (intOf m).toNat)
  case atStart => exact ⟨n, [], by omega, h1, by simp, rfl, rfl, Below.refl _ _⟩
  case round =>
    obtain ⟨a, l, hk0, hk1, hl, rfl, rfl, hb⟩ := hrel
    have hlen : l.length ≤ 21 := by
      have e := congrArg List.length hl
      have e2 := HN.out
      rw [List.length_append] at e
      omega
    have HL := Lib.hid hl
    clear hl
    by_cases hz : 0 < a
    · have hz3 : 0 ≤ a % 10 := by omega
      have hz4 : a % 10 < 10 := by omega
      have hs := Lib.hid hb.size
      have kc := fun (W : World) (v : Int) => conv_one W v
      go_wp2
      go_roundw
      case rel =>
        refine ⟨a / 10, UInt8.ofNat (48 + a % 10).toNat :: l, by omega, by omega, ?_, rfl, rfl, hb.alloc hs.out _⟩
        rw [← HL.out, dz_int a hz, List.append_assoc]
        rfl
      case measure => simp [intOf]; omega
    · obtain rfl : a = 0 := by omega
      go_wp2
      go_ret
      have e := HL.out
      simp [dz_zero] at e
      refine ⟨?_, hb⟩
      unfold mt
      rw [← e]; rfl
end Go.Proofs.YtlkfifnkdmmhnaaDoor
