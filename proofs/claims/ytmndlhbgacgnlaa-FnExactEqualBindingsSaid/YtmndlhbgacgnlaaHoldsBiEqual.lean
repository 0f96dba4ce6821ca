/- The law FnExactEqualBindings, from a contract of the program's own function. Conditions: that contract; the reach of the form. -/
import Derived.Test.YtmndlhbgacgnlaaHoldsBase
import Derived.Test.YtmndlhbgacgnlaaBiOpen
import Derived.Test.YtmndlhbgacgnlaaLawBiEqual
import Derived.ProofKit
import Derived.SizedLaws
import Derived.OpenShut
namespace Go.Proofs.Ytmndlhbgacgnlaa
open Go Go.ChangeShapes Go.WideShapes Go.ChangeAt Go.RowKit
open Go.ChangeMaps (open_string shut_string)

/-- What the program's own EqualBindings gives. -/
def OwnEqualBindings : Prop := ∀ (l m : List Bi) (v v2 : Value) (bs b2 : List Nat) (W : World), BlIs W v l bs → BlIs W v2 m b2 → (∀ x ∈ bs ++ b2, ∀ o, W.frozen? ⟨x, o, none⟩ = false) → bisTot l ≤ 1048576 → bisTot m ≤ 1048576 → Calls Try.prog 51 #[v, v2] W (RetPost (.bool (eqBl l m)) W)
set_option maxRecDepth 100000 in
theorem liftedEqualBindings (hO : OwnEqualBindings) (os : Os) (started : os.Started) (H : Type) (enc : TypeId × Value → H) :
    ReturnsInHanded {} Try.checked os 10 .any (Rows.fnExactEqualBindingsSpec.pre6 enc Try.prog Try.f10 Rows.fnExactEqualBindingsRow.domain false) (Rows.fnExactEqualBindingsSpec.post enc Try.prog Try.f10 false true false false) := by
  refine returnsInHanded_of_change_sized (C := Try.checked) own started (by kernel_rfl) Try.func10
    (ChangeSpec.witness6 (enc := enc) (C := Try.checked) false ⟨#[], #[.slice none 0 0, .slice none 0 0], []⟩ 8 (by kernel_rfl) (by kernel_rfl) (by kernel_rfl) (by kernel_rfl)) ?_
  intro W base args ds gs before hval0 hW _ hsz0 _
  clear hsz0
  have hval : ∀ (j : Nat) t v, Try.f10.params[j]? = some t → args[j]? = some v → Value.okWide Try.prog W .any base t v := hval0
  have hW' := hW
  obtain ⟨p, q, hA0, hV, rfl, _, _⟩ := hW
  have hA : DataW.TrodAll enc Try.prog W 0 (fun _ => true) true Try.f10.params.toList args.toList ds p := hA0
  rw [Try.params10] at hA hval
  obtain ⟨v0, v1, d0, d1, p0, p1, rfl, rfl, rfl, h0, h1⟩ := trodAll_two hA
  obtain ⟨rfl, rfl⟩ := trodVars_none hV
  clear hA0 hval0
  simp only [List.append_nil] at hW'
  have hlt : ∀ x ∈ p0 ++ p1, x.block < W.heap.size := fun x hx => by simpa using hW'.lt x hx
  have hargs0 : ∀ (W' : World), Below W.heap.size W W' → DataW.Trod enc Try.prog W' 0 (fun b => decide (b < W.heap.size)) true 62 v0 d0 p0 :=
    fun W' hn => Below.trod laidOut (by kernel_rfl) (of_decide_eq_true (by kernel_rfl)) h0 hn (fun x hx => hlt x (by simp [hx]))
  have hargs1 : ∀ (W' : World), Below W.heap.size W W' → DataW.Trod enc Try.prog W' 0 (fun b => decide (b < W.heap.size)) true 62 v1 d1 p1 :=
    fun W' hn => Below.trod laidOut (by kernel_rfl) (of_decide_eq_true (by kernel_rfl)) h1 hn (fun x hx => hlt x (by simp [hx]))
  obtain ⟨l0, bs0, he0⟩ := read_binds (hval 0 62 v0 rfl rfl) h0
  obtain ⟨l1, bs1, he1⟩ := read_binds (hval 1 62 v1 rfl rfl) h1
  have h : Calls Try.prog 10 #[v0, v1] W (TrueX W) := lawequalb l0 l1 v0 v1 bs0 bs1 W he0 he1 (fun x y b2 b3 W2 h2 h3 hf ht ht2 => hO l0 l1 x y b2 b3 W2 h2 h3 hf ht ht2)
  refine h.mono fun e W' ⟨he, hnx⟩ => ?_
  subst he
  refine ⟨_, rfl, _, _, _, [], p0 ++ p1, [], hW', ?_, ?_, rfl, hnx.frame _, fun h => by cases h⟩
  · exact trodAll_mk1 (shut_bool Try.underlying4 _)
  · exact trodAll_mk2 (hargs0 _ hnx) (hargs1 _ hnx)

/-- The law FnExactEqualBindings. -/
theorem exactEqualBindings_holds (hO : OwnEqualBindings) : Rows.FnExactEqualBindingsSaid :=
  OpenClaim.holds_of_wide 10 Try.f10 rfl rfl rfl rfl rfl rfl rfl ⟨rfl, rfl, rfl, rfl, rfl⟩ rfl rfl rfl rfl rfl (by kernel_rfl) Try.func10 (by kernel_rfl)
    (of_decide_eq_true (by kernel_rfl)) (by unfold Func.isWrapper; first | (rw [if_pos (by decide +kernel)]; kernel_rfl) | (rw [if_neg (by decide +kernel)]; exact ⟨rfl, rfl⟩))
    (fun os started H enc _ => liftedEqualBindings hO os started H enc)
end Go.Proofs.Ytmndlhbgacgnlaa
