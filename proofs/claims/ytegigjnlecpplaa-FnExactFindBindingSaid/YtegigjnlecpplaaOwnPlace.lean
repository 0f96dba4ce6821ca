/- The contracts of the program's own equalHeads and placeOf. No condition. -/
import Derived.Test.YtegigjnlecpplaaConn
import Derived.Test.YtegigjnlecpplaaPlaceKey
import Derived.Test.YtegigjnlecpplaaSpecSizes
namespace Go.Proofs.Ytegigjnlecpplaa
open Go Go.RowKit

def headsEq (a b : Ex) : Bool := decide (a.kind = b.kind) && (decide (a.name = b.name) && decide (a.args.length = b.args.length))
set_option maxHeartbeats 1000000 in
theorem own_heads (k k2 : Int) (s s2 : ByteArray) (A A2 : Option Addr) (n m c c2 : Nat) (w : World) :
    Calls Try.prog 74 #[.agg #[.int .i64 k, .string s, .slice A n c], .agg #[.int .i64 k2, .string s2, .slice A2 m c2]] w (RetPost (.bool (decide (k = k2) && (decide (s = s2) && decide (n = m)))) w) := by
  have HL := Lib.hid (fun (o o2 : Obj) => ((Below.refl w.heap.size w).alloc (Nat.le_refl _) o).alloc (by simp) o2)
  by_cases hk : k = k2
  · have h1 : (k == k2) = true := by simp [hk]
    by_cases hs : s = s2
    · have h2 := beq_yes hs
      by_cases hq : n = m
      · have h3 : ((n : Int) == (m : Int)) = true := by simp [hq]
        have HR := Lib.hid (show (decide (k = k2) && (decide (s = s2) && decide (n = m))) = true by simp [hk, hs, hq])
        clear hk hs hq
        go_enter Try.func74, Try.ntmps74
        go_wp2_with fail
        go_ret
        exact ⟨by rw [HR.out]; try rfl, HL.out _ _⟩
      · have h3 : ((n : Int) == (m : Int)) = false := by simp; omega
        have HR := Lib.hid (show (decide (k = k2) && (decide (s = s2) && decide (n = m))) = false by simp [hk, hs, hq])
        clear hk hs hq
        go_enter Try.func74, Try.ntmps74
        go_wp2_with fail
        go_ret
        exact ⟨by rw [HR.out]; try rfl, HL.out _ _⟩
    · have h2 := beq_no hs
      have HR := Lib.hid (show (decide (k = k2) && (decide (s = s2) && decide (n = m))) = false by simp [hk, hs])
      clear hk hs
      go_enter Try.func74, Try.ntmps74
      go_wp2_with fail
      go_ret
      exact ⟨by rw [HR.out]; try rfl, HL.out _ _⟩
  · have h1 : (k == k2) = false := by simp [hk]
    have HR := Lib.hid (show (decide (k = k2) && (decide (s = s2) && decide (n = m))) = false by simp [hk])
    clear hk
    go_enter Try.func74, Try.ntmps74
    go_wp2_with fail
    go_ret
    exact ⟨by rw [HR.out]; try rfl, HL.out _ _⟩
set_option maxHeartbeats 1000000 in
theorem own_place (g o n c : Nat) (w : World) (hn : 0 < n) (hn2 : n ≤ 9223372036854775807) :
    Calls Try.prog 76 #[.slice (some ⟨g, o, none⟩) n c] w (RetPost (.agg #[.pointer (some ⟨g, o, none⟩), .int .i64 (n : Int)]) w) := by
  have HL := Lib.hid (fun (o : Obj) => (Below.refl w.heap.size w).alloc (Nat.le_refl _) o)
  have hn3 : (0 : Int) < (n : Int) := by omega
  obtain ⟨i0, hi, hz0, hz1, hz2⟩ := info_parts Try.infoEx
  go_enter Try.func76, Try.ntmps76
  go_wp2_with fail
  refine bodyPost_ret (v := .agg #[.pointer (some ⟨g, o, none⟩), .int .i64 (n : Int)]) (by simp [results, Try.results76, go_sem]) rfl ?_
  exact ⟨rfl, HL.out _⟩
end Go.Proofs.Ytegigjnlecpplaa
