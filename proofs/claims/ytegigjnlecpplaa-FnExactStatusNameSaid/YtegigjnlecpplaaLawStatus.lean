/- The law FnExactStatusName: at every number the program's function answers as its model. No condition. -/
import Derived.Test.YtegigjnlecpplaaRows
import Derived.WalkKit
import Derived.Lib.Hide
import Derived.ProofKit
import Derived.SizedLaws
import Derived.OpenShut
namespace Go.Proofs.Ytegigjnlecpplaa
open Go Go.RowKit Go.ChangeShapes Go.WideShapes Go.ChangeAt
open Go.ChangeMaps (open_string shut_string)

def nameC (n : Int) : ByteArray := if n = 0 then ⟨#[98, 97, 100]⟩ else if n = 1 then ⟨#[101, 110, 100, 101, 100]⟩ else if n = 2 then ⟨#[115, 116, 117, 99, 107]⟩ else if n = 3 then ⟨#[102, 117, 101, 108]⟩ else if n = 4 then ⟨#[108, 97, 114, 103, 101]⟩ else ⟨#[63]⟩
def NamePost (n : Int) (w : World) (e : Ending) (w2 : World) : Prop := e = .returned (.string (nameC n)) ∧ Below w.heap.size w w2
def TrueS (w : World) (e : Ending) (w' : World) : Prop := e = .returned (.bool true) ∧ Below w.heap.size w w'
set_option maxHeartbeats 2000000 in
theorem name_in (v lo hi : Int) (w : World) : Calls Try.prog 71 #[.int .i64 v, .int .i64 lo, .int .i64 hi] w fun e w2 => e = .returned (.bool (decide (lo ≤ v) && decide (v ≤ hi))) ∧ w = w2 := by
  by_cases h1 : lo ≤ v
  · by_cases h2 : v ≤ hi
    · have d1 : decide (v < lo) = false := by simp; omega
      have d2 : decide (hi < v) = false := by simp; omega
      have e1 : decide (lo ≤ v) = true := by simp [h1]
      have e2 : decide (v ≤ hi) = true := by simp [h2]
      have HE := Lib.hid (show (decide (lo ≤ v) && decide (v ≤ hi)) = true by simp [h1, h2])
      go_enter Try.func71, Try.ntmps71
      go_wp2_with fail
      go_ret
      first | exact ⟨rfl, rfl⟩ | exact ⟨by rw [HE.out]; rfl, rfl⟩
    · have e1 : decide (lo ≤ v) = true := by simp [h1]
      have e2 : decide (v ≤ hi) = false := by simp [h2]
      have HE := Lib.hid (show (decide (lo ≤ v) && decide (v ≤ hi)) = false by simp [h2])
      go_enter Try.func71, Try.ntmps71
      go_wp2_with fail
      go_ret
      first | exact ⟨rfl, rfl⟩ | exact ⟨by rw [HE.out]; rfl, rfl⟩
  · have e1 : decide (lo ≤ v) = false := by simp [h1]
    have HE := Lib.hid (show (decide (lo ≤ v) && decide (v ≤ hi)) = false by simp [h1])
    go_enter Try.func71, Try.ntmps71
    go_wp2_with fail
    go_ret
    first | exact ⟨rfl, rfl⟩ | exact ⟨by rw [HE.out]; rfl, rfl⟩
set_option maxHeartbeats 4000000 in
theorem name_any (n : Int) (w : World) : Calls Try.prog 37 #[.int .i64 n] w (NamePost n w) := by
  have HI := Lib.hid (name_in n 0 4 w)
  by_cases h : 0 ≤ n ∧ n ≤ 4
  · have hb : (decide (0 ≤ n) && decide (n ≤ 4)) = true := by simp [h.1, h.2]
    rw [hb] at HI
    have HB := Lib.hid (fun o => (Below.refl w.heap.size w).alloc (Nat.le_refl _) o)
    obtain rfl | rfl | rfl | rfl | rfl : n = 0 ∨ n = 1 ∨ n = 2 ∨ n = 3 ∨ n = 4 := by omega
    all_goals
      clear h hb
      go_enter Try.func37, Try.ntmps37
      go_wp2_with fail
      go_at_call 71
      refine HI.out.mono ?_
      rintro r w2 ⟨rfl, rfl⟩
      go_wp2_with fail
      go_ret
      exact ⟨rfl, HB.out _⟩
  · have hb : (decide (0 ≤ n) && decide (n ≤ 4)) = false := by
      rw [Bool.and_eq_false_iff]
      simp
      omega
    rw [hb] at HI
    have HN := Lib.hid (show nameC n = ⟨#[63]⟩ by
      unfold nameC
      rw [if_neg (by omega), if_neg (by omega), if_neg (by omega), if_neg (by omega), if_neg (by omega)])
    clear h hb
    go_enter Try.func37, Try.ntmps37
    go_wp2_with fail
    go_at_call 71
    refine HI.out.mono ?_
    rintro r w2 ⟨rfl, rfl⟩
    go_wp2_with fail
    go_ret
    exact ⟨by rw [HN.out]; rfl, Below.refl _ _⟩
set_option maxHeartbeats 4000000 in
theorem own_name (n : Int) (w : World) : Calls Try.prog 38 #[.int .i64 n] w (NamePost n w) := by
  have HB := Lib.hid (fun o => (Below.refl w.heap.size w).alloc (Nat.le_refl _) o)
  have HR := Lib.hid (Below.refl w.heap.size w)
  by_cases h : 0 ≤ n ∧ n ≤ 4
  · obtain rfl | rfl | rfl | rfl | rfl : n = 0 ∨ n = 1 ∨ n = 2 ∨ n = 3 ∨ n = 4 := by omega
    all_goals
      clear h
      go_enter Try.func38, Try.ntmps38
      go_wp2_with fail
      go_ret
      first
      | exact ⟨rfl, HR.out⟩
      | exact ⟨rfl, HB.out _⟩
  · have HN := Lib.hid (show nameC n = ⟨#[63]⟩ by
      unfold nameC
      rw [if_neg (by omega), if_neg (by omega), if_neg (by omega), if_neg (by omega), if_neg (by omega)])
    by_cases h0 : n < 0
    · clear h
      go_enter Try.func38, Try.ntmps38
      go_wp2_with fail
      go_ret
      first
      | exact ⟨by rw [HN.out]; rfl, HR.out⟩
      | exact ⟨by rw [HN.out]; rfl, HB.out _⟩
    · have h1 : 5 ≤ n := by omega
      have h2 : decide (n < 0) = false := by simp; omega
      have h3 : decide (n ≥ 5) = true := by simp; omega
      clear h h0
      go_enter Try.func38, Try.ntmps38
      go_wp2_with fail
      go_ret
      first
      | exact ⟨by rw [HN.out]; rfl, HR.out⟩
      | exact ⟨by rw [HN.out]; rfl, HB.out _⟩
set_option maxHeartbeats 2000000 in
theorem lawstatus (n : Int) (w : World) : Calls Try.prog 9 #[.int .i64 n] w (TrueS w) := by
  have HM := Lib.hid (name_any n w)
  have HO := Lib.hid (fun W => own_name n W)
  obtain ⟨N, hN⟩ : ∃ N, N = nameC n := ⟨_, rfl⟩
  unfold NamePost at HM HO
  rw [← hN] at HM HO
  clear hN
  have hbe : (N.toList == N.toList) = true := by simp
  go_enter Try.func9, Try.ntmps9
  go_wp2_with fail
  go_at_call 37
  refine HM.out.mono ?_
  rintro r w1 ⟨rfl, hb1⟩
  have HB1 := Lib.hid hb1
  clear hb1
  go_wp2_with fail
  go_at_call 38
  refine (HO.out _).mono ?_
  rintro r w2 ⟨rfl, hb2⟩
  have HB2 := Lib.hid (HB1.out.trans (hb2.mono HB1.out.size))
  clear hb2
  go_wp2_with fail
  go_ret
  exact ⟨rfl, HB2.out⟩

theorem ownS : ownKnob Try.prog.godebug = none := by kernel_rfl
set_option maxRecDepth 100000 in
theorem liftedStatus (os : Os) (started : os.Started) (H : Type) (enc : TypeId × Value → H) :
    ReturnsInHanded {} Try.checked os 9 .any (Rows.fnExactStatusNameSpec.pre6 enc Try.prog Try.f9 Rows.fnExactStatusNameRow.domain false) (Rows.fnExactStatusNameSpec.post enc Try.prog Try.f9 false true false false) := by
  refine returnsInHanded_of_change_sized (C := Try.checked) ownS started (by kernel_rfl) Try.func9
    (ChangeSpec.witness6 (enc := enc) (C := Try.checked) false ⟨#[], #[.int .i64 0], []⟩ 8 (by kernel_rfl) (by kernel_rfl) (by kernel_rfl) (by kernel_rfl)) ?_
  intro W base args ds gs before hval0 hW _ hsz0 _
  clear hsz0
  have hval : ∀ (j : Nat) t v, Try.f9.params[j]? = some t → args[j]? = some v → Value.okWide Try.prog W .any base t v := hval0
  have hW' := hW
  obtain ⟨p, q, hA0, hV, rfl, _, _⟩ := hW
  have hA : DataW.TrodAll enc Try.prog W 0 (fun _ => true) true Try.f9.params.toList args.toList ds p := hA0
  rw [Try.params9] at hA hval
  obtain ⟨v0, d0, rfl, rfl, h0⟩ := trodAll_one hA
  obtain ⟨rfl, rfl⟩ := trodVars_none hV
  obtain ⟨n, rfl, rfl, rfl, wn⟩ := open_int Try.underlying3 (hval 0 3 v0 rfl rfl) h0
  clear hA0 hval0
  simp only [List.append_nil] at hW'
  refine (lawstatus n W).mono fun e W' ⟨he, hnx⟩ => ?_
  subst he
  refine ⟨_, rfl, _, _, _, [], [], [], hW', ?_, ?_, rfl, hnx.frame _, fun h => by cases h⟩
  · exact trodAll_mk1 (shut_bool Try.underlying4 _)
  · exact trodAll_mk1 (shut_int Try.underlying3 wn)

/-- The law FnExactStatusName. -/
theorem statusname_holds : Rows.FnExactStatusNameSaid :=
  OpenClaim.holds_of_wide 9 Try.f9 rfl rfl rfl rfl rfl rfl rfl ⟨rfl, rfl, rfl, rfl, rfl⟩ rfl rfl rfl rfl rfl (by kernel_rfl) Try.func9 (by kernel_rfl)
    (of_decide_eq_true (by kernel_rfl)) (by unfold Func.isWrapper; first | (rw [if_pos (by decide +kernel)]; kernel_rfl) | (rw [if_neg (by decide +kernel)]; exact ⟨rfl, rfl⟩))
    (fun os started H enc _ => liftedStatus os started H enc)
end Go.Proofs.Ytegigjnlecpplaa
