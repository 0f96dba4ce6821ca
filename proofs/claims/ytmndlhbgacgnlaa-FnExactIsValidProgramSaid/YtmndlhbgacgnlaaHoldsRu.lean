/- The laws FnExactFunctionKind, FnExactFunctionArity, FnExactConArity, FnExactFindRule, each from a contract of the program's own function. Conditions: those contracts; the reach of the form. -/
import Derived.Test.YtmndlhbgacgnlaaRuOpen
import Derived.Test.YtmndlhbgacgnlaaLawRu
import Derived.ProofKit
import Derived.SizedLaws
import Derived.OpenShut
namespace Go.Proofs.Ytmndlhbgacgnlaa
open Go Go.ChangeShapes Go.WideShapes Go.ChangeAt Go.RowKit
open Go.ChangeMaps (open_string shut_string)

theorem own : ownKnob Try.prog.godebug = none := by kernel_rfl
theorem laidOut : laidOutB Try.prog = true := by kernel_rfl

/-- What the program's own ConArity gives. -/
def OwnConArity : Prop := ∀ (l : List Ru) (s : ByteArray) (v : Value) (bs : List Nat) (W : World), PrIs W v l bs → rusTot l ≤ 1048576 → Calls Try.prog 40 #[v, .string s] W (RetPost (.int .i64 (conR s l)) W)
set_option maxRecDepth 100000 in
theorem liftedConArity (hO : OwnConArity) (os : Os) (started : os.Started) (H : Type) (enc : TypeId × Value → H) :
    ReturnsInHanded {} Try.checked os 6 .any (Rows.fnExactConAritySpec.pre6 enc Try.prog Try.f6 Rows.fnExactConArityRow.domain false) (Rows.fnExactConAritySpec.post enc Try.prog Try.f6 false true false false) := by
  refine returnsInHanded_of_change_sized (C := Try.checked) own started (by kernel_rfl) Try.func6
    (ChangeSpec.witness6 (enc := enc) (C := Try.checked) false ⟨#[], #[.agg #[.slice none 0 0], .string ⟨#[]⟩], []⟩ 8 (by kernel_rfl) (by kernel_rfl) (by kernel_rfl) (by kernel_rfl)) ?_
  intro W base args ds gs before hval0 hW _ hsz0 _
  clear hsz0
  have hval : ∀ (j : Nat) t v, Try.f6.params[j]? = some t → args[j]? = some v → Value.okWide Try.prog W .any base t v := hval0
  have hW' := hW
  obtain ⟨p, q, hA0, hV, rfl, _, _⟩ := hW
  have hA : DataW.TrodAll enc Try.prog W 0 (fun _ => true) true Try.f6.params.toList args.toList ds p := hA0
  rw [Try.params6] at hA hval
  obtain ⟨v0, v1, d0, d1, p0, p1, rfl, rfl, rfl, h0, h1⟩ := trodAll_two hA
  obtain ⟨rfl, rfl⟩ := trodVars_none hV
  obtain ⟨s1, rfl, rfl, rfl, hs1⟩ := open_string Try.underlying9 (hval 1 9 v1 rfl rfl) h1
  clear hA0 hval0
  simp only [List.append_nil] at hW'
  have hlt : ∀ x ∈ p0, x.block < W.heap.size := fun x hx => by simpa using hW'.lt x hx
  have hargs0 : ∀ (W' : World), Below W.heap.size W W' → DataW.Trod enc Try.prog W' 0 (fun b => decide (b < W.heap.size)) true 48 v0 d0 p0 :=
    fun W' hn => Below.trod laidOut (by kernel_rfl) (of_decide_eq_true (by kernel_rfl)) h0 hn (fun x hx => hlt x (by simp [hx]))
  obtain ⟨l0, bs0, he0⟩ := read_prog (hval 0 48 v0 rfl rfl) h0
  have h : Calls Try.prog 6 #[v0, .string s1] W (TrueX W) := lawcon l0 v0 bs0 s1 W he0 (fun v2 b2 W2 h2 ht => hO l0 s1 v2 b2 W2 h2 ht)
  refine h.mono fun e W' ⟨he, hnx⟩ => ?_
  subst he
  refine ⟨_, rfl, _, _, _, [], p0, [], hW', ?_, ?_, rfl, hnx.frame _, fun h => by cases h⟩
  · exact trodAll_mk1 (shut_bool Try.underlying4 _)
  · have h2 := trodAll_mk2 (hargs0 _ hnx) (shut_string (enc := enc) (sp := fun b => decide (b < W.heap.size)) Try.underlying9 hs1)
    simp only [List.append_nil] at h2
    exact h2

/-- The law FnExactConArity. -/
theorem exactConArity_holds (hO : OwnConArity) : Rows.FnExactConAritySaid :=
  OpenClaim.holds_of_wide 6 Try.f6 rfl rfl rfl rfl rfl rfl rfl ⟨rfl, rfl, rfl, rfl, rfl⟩ rfl rfl rfl rfl rfl (by kernel_rfl) Try.func6 (by kernel_rfl)
    (of_decide_eq_true (by kernel_rfl)) (by unfold Func.isWrapper; first | (rw [if_pos (by decide +kernel)]; kernel_rfl) | (rw [if_neg (by decide +kernel)]; exact ⟨rfl, rfl⟩))
    (fun os started H enc _ => liftedConArity hO os started H enc)

end Go.Proofs.Ytmndlhbgacgnlaa
