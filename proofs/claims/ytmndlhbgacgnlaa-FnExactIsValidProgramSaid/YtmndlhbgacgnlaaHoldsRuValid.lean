/- The laws FnExactIsValidProgram, each from a contract of the program's own function. Conditions: those contracts; the reach of the form. -/
import Derived.Test.YtmndlhbgacgnlaaRuOpen
import Derived.Test.YtmndlhbgacgnlaaLawRuValid
import Derived.Test.YtmndlhbgacgnlaaHoldsBase
import Derived.ProofKit
import Derived.SizedLaws
import Derived.OpenShut
namespace Go.Proofs.Ytmndlhbgacgnlaa
open Go Go.ChangeShapes Go.WideShapes Go.ChangeAt Go.RowKit
open Go.ChangeMaps (open_string shut_string)

/-- What the program's own IsValidProgram gives. -/
def OwnIsValidProgram : Prop := ∀ (l : List Ru) (v : Value) (bs : List Nat) (W : World), PrIs W v l bs → Thawed W bs → rusTot l ≤ 1048576 → Calls Try.prog 45 #[v] W (RetPost (.bool (validR l)) W)
set_option maxRecDepth 100000 in
theorem liftedIsValidProgram (hO : OwnIsValidProgram) (os : Os) (started : os.Started) (H : Type) (enc : TypeId × Value → H) :
    ReturnsInHanded {} Try.checked os 8 .any (Rows.fnExactIsValidProgramSpec.pre6 enc Try.prog Try.f8 Rows.fnExactIsValidProgramRow.domain false) (Rows.fnExactIsValidProgramSpec.post enc Try.prog Try.f8 false true false false) := by
  refine returnsInHanded_of_change_sized (C := Try.checked) own started (by kernel_rfl) Try.func8
    (ChangeSpec.witness6 (enc := enc) (C := Try.checked) false ⟨#[], #[.agg #[.slice none 0 0]], []⟩ 8 (by kernel_rfl) (by kernel_rfl) (by kernel_rfl) (by kernel_rfl)) ?_
  intro W base args ds gs before hval0 hW _ hsz0 _
  clear hsz0
  have hval : ∀ (j : Nat) t v, Try.f8.params[j]? = some t → args[j]? = some v → Value.okWide Try.prog W .any base t v := hval0
  have hW' := hW
  obtain ⟨p, q, hA0, hV, rfl, _, _⟩ := hW
  have hA : DataW.TrodAll enc Try.prog W 0 (fun _ => true) true Try.f8.params.toList args.toList ds p := hA0
  rw [Try.params8] at hA hval
  obtain ⟨v0, d0, rfl, rfl, h0⟩ := trodAll_one hA
  obtain ⟨rfl, rfl⟩ := trodVars_none hV
  clear hA0 hval0
  simp only [List.append_nil] at hW'
  have hlt : ∀ x ∈ p, x.block < W.heap.size := fun x hx => by simpa using hW'.lt x hx
  have hargs0 : ∀ (W' : World), Below W.heap.size W W' → DataW.Trod enc Try.prog W' 0 (fun b => decide (b < W.heap.size)) true 48 v0 d0 p :=
    fun W' hn => Below.trod laidOut (by kernel_rfl) (of_decide_eq_true (by kernel_rfl)) h0 hn (fun x hx => hlt x (by simp [hx]))
  obtain ⟨l0, bs0, he0⟩ := read_prog (hval 0 48 v0 rfl rfl) h0
  have h : Calls Try.prog 8 #[v0] W (TrueX W) := lawvalidp l0 v0 bs0 W he0 (fun v2 b2 W2 h2 hf ht => hO l0 v2 b2 W2 h2 hf ht)
  refine h.mono fun e W' ⟨he, hnx⟩ => ?_
  subst he
  refine ⟨_, rfl, _, _, _, [], p, [], hW', ?_, ?_, rfl, hnx.frame _, fun h => by cases h⟩
  · exact trodAll_mk1 (shut_bool Try.underlying4 _)
  · exact trodAll_mk1 (hargs0 _ hnx)

/-- The law FnExactIsValidProgram. -/
theorem exactIsValidProgram_holds (hO : OwnIsValidProgram) : Rows.FnExactIsValidProgramSaid :=
  OpenClaim.holds_of_wide 8 Try.f8 rfl rfl rfl rfl rfl rfl rfl ⟨rfl, rfl, rfl, rfl, rfl⟩ rfl rfl rfl rfl rfl (by kernel_rfl) Try.func8 (by kernel_rfl)
    (of_decide_eq_true (by kernel_rfl)) (by unfold Func.isWrapper; first | (rw [if_pos (by decide +kernel)]; kernel_rfl) | (rw [if_neg (by decide +kernel)]; exact ⟨rfl, rfl⟩))
    (fun os started H enc _ => liftedIsValidProgram hO os started H enc)
end Go.Proofs.Ytmndlhbgacgnlaa
