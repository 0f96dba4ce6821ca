/- The contracts of the model's l5Names and l5Within. Conditions: the list lies in memory; fewer than 2^40 elements; each of at most 1048576 bytes. -/
import Derived.Test.YtmndlhbgacgnlaaSpecDistinct
import Derived.Test.YtmndlhbgacgnlaaRuFind
namespace Go.Proofs.Ytmndlhbgacgnlaa
open Go Go.RowKit

def isNm (s : ByteArray) : Bool := nameL 97 122 s.data.toList
def allNm (xs : List ByteArray) : Bool := xs.all isNm
def within (xs all : List ByteArray) : Bool := xs.all (fun s => decide (0 ≤ idx all s))
theorem allNm_here {xs : List ByteArray} {k : Nat} {x : ByteArray} (h : xs[k]? = some x) : allNm (xs.drop k) = (isNm x && allNm (xs.drop (k + 1))) := by
  obtain ⟨h1, h2⟩ := List.getElem?_eq_some_iff.1 h
  rw [List.drop_eq_getElem_cons h1, h2, allNm, List.all_cons]; rfl
theorem within_here {xs all : List ByteArray} {k : Nat} {x : ByteArray} (h : xs[k]? = some x) : within (xs.drop k) all = (decide (0 ≤ idx all x) && within (xs.drop (k + 1)) all) := by
  obtain ⟨h1, h2⟩ := List.getElem?_eq_some_iff.1 h
  rw [List.drop_eq_getElem_cons h1, h2, within, List.all_cons]; rfl

set_option maxHeartbeats 1000000 in
theorem names_any (A : Option Addr) (xs : List ByteArray) (cap : Nat) (w : World) (hs : Strs w A xs) (hn : xs.length ≤ 1099511627776) (hz : ∀ x ∈ xs, x.size ≤ 1048576) :
    Calls Try.prog 160 #[.slice A xs.length cap] w fun e w' => e = .returned (.bool (allNm xs)) ∧ w = w' := by
  obtain ⟨n, hm⟩ : ∃ n, n = xs.length := ⟨_, rfl⟩
  rw [← hm] at hn ⊢
  have HN := Lib.hid hm
  have HS := Lib.hid hs
  have HZ := Lib.hid hz
  clear hs hm hz
  go_enter Try.func160, Try.ntmps160
  go_wp2_with fail
  go_loopw [3] (fun i wr => ∃ (k : Nat), k ≤ n ∧ i = .int .i64 (k : Int) ∧ Hid (allNm xs = allNm (xs.drop k)) ∧ wr = w) (fun i _ => n - (intOf i).toNat)
  case atStart => exact ⟨0, Nat.zero_le _, rfl, Lib.hid rfl, rfl⟩
  case round =>
    obtain ⟨k, hk, rfl, HK, rfl⟩ := hrel
    by_cases hlt : k < n
    · obtain ⟨a, e1, hca, hla⟩ := HS.out.at_ k (by rw [← HN.out]; exact hlt)
      have HG := Lib.hid (allNm_here (xs := xs) (k := k) (List.getElem?_eq_getElem (by rw [← HN.out]; exact hlt)))
      have hzx := HZ.out (xs[k]'(by rw [← HN.out]; exact hlt)) (List.getElem_mem _)
      subst e1
      generalize xs[k]'(by rw [← HN.out]; exact hlt) = x at *
      have HC := Lib.hid (isname_any x wr hzx)
      have hk0 : (0 : Int) ≤ (k : Int) := by omega
      have hkn : (k : Int) < (n : Int) := by omega
      cases hnm : isNm x
      · have HE := Lib.hid (show allNm xs = false by rw [HK.out, HG.out, hnm, Bool.false_and])
        have HNM := Lib.hid (show nameL 97 122 x.data.toList = false from hnm)
        clear hnm
        go_wp2_with (go_at_call 124; refine HC.out.mono ?_; rintro r w2 ⟨rfl, rfl⟩; rw [HNM.out])
        go_ret
        exact ⟨by rw [HE.out]; rfl, rfl⟩
      · have HE := Lib.hid (show allNm xs = allNm (xs.drop (k + 1)) by rw [HK.out, HG.out, hnm, Bool.true_and])
        have HNM := Lib.hid (show nameL 97 122 x.data.toList = true from hnm)
        clear hnm
        go_wp2_with (go_at_call 124; refine HC.out.mono ?_; rintro r w2 ⟨rfl, rfl⟩; rw [HNM.out])
        go_roundw
        case rel => exact ⟨k + 1, by omega, by go_num, HE, trivial⟩
        case measure => simp [intOf]; omega
    · have HE := Lib.hid (show allNm xs = true by rw [HK.out, List.drop_eq_nil_of_le (by rw [← HN.out]; omega)]; rfl)
      go_wp2
      go_ret
      exact ⟨by rw [HE.out]; rfl, rfl⟩

set_option maxHeartbeats 1000000 in
theorem within_any (A B : Option Addr) (xs ys : List ByteArray) (cap cap2 : Nat) (w : World) (hs : Strs w A xs) (hs2 : Strs w B ys) (hn : xs.length ≤ 1099511627776) (hm : ys.length ≤ 1099511627776) :
    Calls Try.prog 134 #[.slice A xs.length cap, .slice B ys.length cap2] w fun e w' => e = .returned (.bool (within xs ys)) ∧ w = w' := by
  obtain ⟨n, hl⟩ : ∃ n, n = xs.length := ⟨_, rfl⟩
  rw [← hl] at hn ⊢
  have HN := Lib.hid hl
  have HS := Lib.hid hs
  have HC := Lib.hid (fun (s : ByteArray) => idx_any B ys cap2 s w hs2 (by omega))
  generalize hq : ys.length = q at *
  clear hs hs2 hl hm hq
  go_enter Try.func134, Try.ntmps134
  go_wp2_with fail
  go_loopw [5] (fun i wr => ∃ (k : Nat), k ≤ n ∧ i = .int .i64 (k : Int) ∧ Hid (within xs ys = within (xs.drop k) ys) ∧ wr = w) (fun i _ => n - (intOf i).toNat)
  case atStart => exact ⟨0, Nat.zero_le _, rfl, Lib.hid rfl, rfl⟩
  case round =>
    obtain ⟨k, hk, rfl, HK, rfl⟩ := hrel
    by_cases hlt : k < n
    · obtain ⟨a, e1, hca, hla⟩ := HS.out.at_ k (by rw [← HN.out]; exact hlt)
      have HG := Lib.hid (within_here (xs := xs) (all := ys) (k := k) (List.getElem?_eq_getElem (by rw [← HN.out]; exact hlt)))
      subst e1
      generalize xs[k]'(by rw [← HN.out]; exact hlt) = x at *
      have hk0 : (0 : Int) ≤ (k : Int) := by omega
      have hkn : (k : Int) < (n : Int) := by omega
      have HCX := Lib.hid (HC.out x)
      by_cases hx : 0 ≤ idx ys x
      · have HE := Lib.hid (show within xs ys = within (xs.drop (k + 1)) ys by rw [HK.out, HG.out, decide_eq_true hx, Bool.true_and])
        generalize idx ys x = z at *
        go_wp2_with (go_at_call 108; refine HCX.out.mono ?_; rintro r w2 ⟨rfl, rfl⟩)
        go_roundw
        case rel => exact ⟨k + 1, by omega, by go_num, HE, trivial⟩
        case measure => simp [intOf]; omega
      · have HE := Lib.hid (show within xs ys = false by rw [HK.out, HG.out, decide_eq_false hx, Bool.false_and])
        generalize idx ys x = z at *
        have hx2 : z < 0 := by omega
        go_wp2_with (go_at_call 108; refine HCX.out.mono ?_; rintro r w2 ⟨rfl, rfl⟩)
        go_ret
        exact ⟨by rw [HE.out]; rfl, rfl⟩
    · have HE := Lib.hid (show within xs ys = true by rw [HK.out, List.drop_eq_nil_of_le (by rw [← HN.out]; omega)]; rfl)
      go_wp2
      go_ret
      exact ⟨by rw [HE.out]; rfl, rfl⟩
end Go.Proofs.Ytmndlhbgacgnlaa
