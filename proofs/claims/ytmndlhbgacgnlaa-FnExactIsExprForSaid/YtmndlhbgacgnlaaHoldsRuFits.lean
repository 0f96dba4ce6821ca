/- The laws FnExactIsExprFor, each from a contract of the program's own function. Conditions: those contracts; the reach of the form. -/
import Derived.Test.YtmndlhbgacgnlaaHoldsRu
import Derived.Test.YtmndlhbgacgnlaaLawRuFits
import Derived.ProofKit
import Derived.SizedLaws
import Derived.OpenShut
namespace Go.Proofs.Ytmndlhbgacgnlaa
open Go Go.ChangeShapes Go.WideShapes Go.ChangeAt Go.RowKit
open Go.ChangeMaps (open_string shut_string)

/-- What the program's own IsExprFor gives. -/
def OwnIsExprFor : Prop := ∀ (l : List Ru) (e : Ex) (v v2 : Value) (bs b2 : List Nat) (W : World), PrIs W v l bs → ExIs W v2 e b2 → Thawed W (bs ++ b2) → rusTot l ≤ 1048576 → exTot e ≤ 1048576 → Calls Try.prog 43 #[v, v2] W (RetPost (.bool (exFor l e)) W)
set_option maxRecDepth 100000 in
theorem liftedIsExprFor (hO : OwnIsExprFor) (os : Os) (started : os.Started) (H : Type) (enc : TypeId × Value → H) :
    ReturnsInHanded {} Try.checked os 7 .any (Rows.fnExactIsExprForSpec.pre6 enc Try.prog Try.f7 Rows.fnExactIsExprForRow.domain false) (Rows.fnExactIsExprForSpec.post enc Try.prog Try.f7 false true false false) := by
  refine returnsInHanded_of_change_sized (C := Try.checked) own started (by kernel_rfl) Try.func7
    (ChangeSpec.witness6 (enc := enc) (C := Try.checked) false ⟨#[], #[.agg #[.slice none 0 0], .agg #[.int .i64 0, .string ⟨#[]⟩, .slice none 0 0]], []⟩ 8 (by kernel_rfl) (by kernel_rfl) (by kernel_rfl) (by kernel_rfl)) ?_
  intro W base args ds gs before hval0 hW _ hsz0 _
  clear hsz0
  have hval : ∀ (j : Nat) t v, Try.f7.params[j]? = some t → args[j]? = some v → Value.okWide Try.prog W .any base t v := hval0
  have hW' := hW
  obtain ⟨p, q, hA0, hV, rfl, _, _⟩ := hW
  have hA : DataW.TrodAll enc Try.prog W 0 (fun _ => true) true Try.f7.params.toList args.toList ds p := hA0
  rw [Try.params7] at hA hval
  obtain ⟨v0, v1, d0, d1, p0, p1, rfl, rfl, rfl, h0, h1⟩ := trodAll_two hA
  obtain ⟨rfl, rfl⟩ := trodVars_none hV
  clear hA0 hval0
  simp only [List.append_nil] at hW'
  have hlt : ∀ x ∈ p0 ++ p1, x.block < W.heap.size := fun x hx => by simpa using hW'.lt x hx
  have hargs0 : ∀ (W' : World), Below W.heap.size W W' → DataW.Trod enc Try.prog W' 0 (fun b => decide (b < W.heap.size)) true 48 v0 d0 p0 :=
    fun W' hn => Below.trod laidOut (by kernel_rfl) (of_decide_eq_true (by kernel_rfl)) h0 hn (fun x hx => hlt x (by simp [hx]))
  have hargs1 : ∀ (W' : World), Below W.heap.size W W' → DataW.Trod enc Try.prog W' 0 (fun b => decide (b < W.heap.size)) true 42 v1 d1 p1 :=
    fun W' hn => Below.trod laidOut (by kernel_rfl) (of_decide_eq_true (by kernel_rfl)) h1 hn (fun x hx => hlt x (by simp [hx]))
  obtain ⟨l0, bs0, he0⟩ := read_prog (hval 0 48 v0 rfl rfl) h0
  obtain ⟨e1, bs1, he1⟩ := read_ex (hval 1 42 v1 rfl rfl) h1
  have h : Calls Try.prog 7 #[v0, v1] W (TrueX W) := lawfits l0 e1 v0 v1 bs0 bs1 W he0 he1 (fun x y b2 b3 W2 h2 h3 hf ht ht2 => hO l0 e1 x y b2 b3 W2 h2 h3 hf ht ht2)
  refine h.mono fun e W' ⟨he, hnx⟩ => ?_
  subst he
  refine ⟨_, rfl, _, _, _, [], p0 ++ p1, [], hW', ?_, ?_, rfl, hnx.frame _, fun h => by cases h⟩
  · exact trodAll_mk1 (shut_bool Try.underlying4 _)
  · exact trodAll_mk2 (hargs0 _ hnx) (hargs1 _ hnx)

/-- The law FnExactIsExprFor. -/
theorem exactIsExprFor_holds (hO : OwnIsExprFor) : Rows.FnExactIsExprForSaid :=
  OpenClaim.holds_of_wide 7 Try.f7 rfl rfl rfl rfl rfl rfl rfl ⟨rfl, rfl, rfl, rfl, rfl⟩ rfl rfl rfl rfl rfl (by kernel_rfl) Try.func7 (by kernel_rfl)
    (of_decide_eq_true (by kernel_rfl)) (by unfold Func.isWrapper; first | (rw [if_pos (by decide +kernel)]; kernel_rfl) | (rw [if_neg (by decide +kernel)]; exact ⟨rfl, rfl⟩))
    (fun os started H enc _ => liftedIsExprFor hO os started H enc)
end Go.Proofs.Ytmndlhbgacgnlaa
