/- The contract of the model's IsValidProgram. Condition: nodes and letters together at most 1048576. -/
import Derived.Test.YtmndlhbgacgnlaaRuRule
namespace Go.Proofs.Ytmndlhbgacgnlaa
open Go Go.RowKit

set_option maxRecDepth 100000 in
set_option maxHeartbeats 4000000 in
theorem validp_any (l : List Ru) (v : Value) (bs : List Nat) (w : World) (hv : PrIs w v l bs) (hn : rusTot l ≤ 1048576) :
    Calls Try.prog 44 #[v] w (RetPost (.bool (validR l)) w) := by
  have hll := rusTot_ge l
  have HRU := Lib.hid (fun (k : Nat) (r : Ru) (hk : l[k]? = some r) (W : World) (hW : Below w.heap.size w W) => rule_any l k r _ bs W (hv.below hW) hk hn)
  obtain ⟨u, rfl, hu⟩ := id hv
  obtain ⟨A, q, rfl, hc1, hc2, -⟩ := id hu
  obtain ⟨m, hm⟩ : ∃ m, m = l.length := ⟨_, rfl⟩
  rw [← hm] at hc1 HRU hll ⊢
  have HM := Lib.hid hm
  have HB0 := Lib.hid ((Below.refl w.heap.size w).alloc (Nat.le_refl _) (.cells #[.slice A m q] 53))
  have HBX := Lib.hid (fun (W : World) (h : Below (w.alloc (.cells #[.slice A m q] 53)).heap.size (w.alloc (.cells #[.slice A m q] 53)) W) => pbox h)
  have HV := Lib.hid (show validR l = (rulesOk l 0 (l.drop 0) && decide (m ≤ 24)) by rw [hm]; rfl)
  clear hu hm hv hn
  generalize validR l = R at *
  go_enter Try.func44, Try.ntmps44
  go_wp2_with fail
  go_loopw [3] (fun i wr => ∃ (k : Nat), k ≤ m ∧ i = .int .i64 (k : Int) ∧ Hid (R = (rulesOk l k (l.drop k) && decide (m ≤ 24))) ∧ Hid (Below (w.alloc (.cells #[.slice A m q] 53)).heap.size (w.alloc (.cells #[.slice A m q] 53)) wr)) (fun i _ => m - (intOf i).toNat)
  case atStart => exact ⟨0, Nat.zero_le _, rfl, HV, Lib.hid (Below.refl _ _)⟩
  case round =>
    obtain ⟨k, hk, rfl, HK, HB⟩ := hrel
    have x0 := HBX.out wr HB.out
    have HL := Lib.hid (HB0.out.trans (HB.out.mono HB0.out.size))
    by_cases hlt : k < m
    · obtain ⟨r, hr⟩ : ∃ r, l[k]? = some r := ⟨_, List.getElem?_eq_getElem (by rw [← HM.out]; exact hlt)⟩
      have HG := Lib.hid (rulesOk_here (l := l) (j := k) hr)
      have HCALL := Lib.hid (HRU.out k r hr wr HL.out)
      clear hr
      cases hx : ruleOk l k r
      · rw [hx] at HCALL
        have HE := Lib.hid (show R = false by rw [HK.out, HG.out, hx]; simp)
        clear hx
        go_wp2_with (go_at_call 86; refine HCALL.out.mono ?_; rintro r w1 ⟨rfl, hb1⟩; have HB1 := Lib.hid (HB.out.trans (hb1.mono HB.out.size)); clear hb1)
        go_ret
        exact ⟨by rw [HE.out]; rfl, HB0.out.trans (HB1.out.mono HB0.out.size)⟩
      · rw [hx] at HCALL
        have HE := Lib.hid (show R = (rulesOk l (k + 1) (l.drop (k + 1)) && decide (m ≤ 24)) by rw [HK.out, HG.out, hx, Bool.true_and])
        clear hx
        go_wp2_with (go_at_call 86; refine HCALL.out.mono ?_; rintro r w1 ⟨rfl, hb1⟩; have HB1 := Lib.hid (HB.out.trans (hb1.mono HB.out.size)); clear hb1)
        go_roundw
        case rel => exact ⟨k + 1, by omega, by go_num, HE, HB1⟩
        case measure => simp [intOf]; omega
    · have hE : R = decide (m ≤ 24) := by rw [HK.out, List.drop_eq_nil_of_le (by rw [← HM.out]; omega), rulesOk, Bool.true_and]
      by_cases h24 : m ≤ 24
      · have h24i : (m : Int) ≤ 24 := by omega
        have HE := Lib.hid (show R = true by rw [hE, decide_eq_true h24])
        clear hE h24
        go_wp2
        go_ret
        exact ⟨by rw [HE.out]; rfl, HL.out⟩
      · have h24i : ¬ (m : Int) ≤ 24 := by omega
        have h24j : (24 : Int) < (m : Int) := by omega
        have HE := Lib.hid (show R = false by rw [hE, decide_eq_false h24])
        clear hE h24
        go_wp2
        go_ret
        exact ⟨by rw [HE.out]; rfl, HL.out⟩
end Go.Proofs.Ytmndlhbgacgnlaa
