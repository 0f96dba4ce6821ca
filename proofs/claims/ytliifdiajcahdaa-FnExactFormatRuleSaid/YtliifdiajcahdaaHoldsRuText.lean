/- The laws FnExactFormatRule, each from a contract of the program's own function. Conditions: those contracts; the reach of the form. -/
import Derived.Test.YtliifdiajcahdaaRuOpen
import Derived.Test.YtliifdiajcahdaaLawRuText
import Derived.Test.YtliifdiajcahdaaHoldsText
import Derived.ProofKit
import Derived.SizedLaws
import Derived.OpenShut
namespace Go.Proofs.Ytliifdiajcahdaa
open Go Go.ChangeShapes Go.WideShapes Go.ChangeAt Go.RowKit
open Go.Deep Go.Joins
open Go.ChangeMaps (open_string shut_string)

set_option maxRecDepth 100000 in
/-- An argument that was read as data is a rule in memory. -/
theorem read_rul {H : Type} {enc : TypeId × Value → H} {w : World} {b0 : Nat} {v : Value} {d : DataW H} {p : List MemPlace} (hv : Value.okWide Try.prog w .any b0 55 v) (h : DataW.Trod enc Try.prog w 0 (fun _ => true) true 55 v d p) :
    ∃ r bs, RuIs w v r bs := by
  obtain ⟨cs, rfl, hsz⟩ := okWide_struct Try.underlying55 hv
  obtain ⟨q0, q1, q2, q3, q4, q5, q6, rfl⟩ : ∃ q0 q1 q2 q3 q4 q5 q6, cs = #[q0, q1, q2, q3, q4, q5, q6] := by
    obtain ⟨l⟩ := cs
    obtain ⟨a, b, c, d, e, f, g, rfl⟩ := len_seven (l := l) (by simpa using hsz.trans cellsRL)
    exact ⟨a, b, c, d, e, f, g, rfl⟩
  obtain ⟨fuel, hf⟩ := h
  obtain ⟨r, bs, rfl, rfl, rfl, rfl, hr⟩ := read_rule (by simpa [Value.cells] using hf)
  exact ⟨r, bs, hr⟩

/-- What the program's own FormatRule gives. -/
def OwnFormatRule : Prop := ∀ (r : Ru) (v : Value) (bs : List Nat) (W : World), RuIs W v r bs → ruTot r ≤ 1048576 → Calls Try.prog 30 #[v] W (RetPost (.string (ruStr r)) W)
set_option maxRecDepth 100000 in
theorem liftedFormatRule (hO : OwnFormatRule) (os : Os) (started : os.Started) (H : Type) (enc : TypeId × Value → H) :
    ReturnsInHanded {} Try.checked os 7 .any (Rows.fnExactFormatRuleSpec.pre6 enc Try.prog Try.f7 Rows.fnExactFormatRuleRow.domain false) (Rows.fnExactFormatRuleSpec.post enc Try.prog Try.f7 false true false false) := by
  refine returnsInHanded_of_change_sized (C := Try.checked) own started (by kernel_rfl) Try.func7
    (ChangeSpec.witness6 (enc := enc) (C := Try.checked) false ⟨#[], #[.agg #[.string ⟨#[]⟩, .string ⟨#[]⟩, .slice none 0 0, .slice none 0 0, .int .i64 0, .string ⟨#[]⟩, .slice none 0 0]], []⟩ 8 (by kernel_rfl) (by kernel_rfl) (by kernel_rfl) (by kernel_rfl)) ?_
  intro W base args ds gs before hval0 hW _ hsz0 _
  clear hsz0
  have hval : ∀ (j : Nat) t v, Try.f7.params[j]? = some t → args[j]? = some v → Value.okWide Try.prog W .any base t v := hval0
  have hW' := hW
  obtain ⟨p, q, hA0, hV, rfl, _, _⟩ := hW
  have hA : DataW.TrodAll enc Try.prog W 0 (fun _ => true) true Try.f7.params.toList args.toList ds p := hA0
  rw [Try.params7] at hA hval
  obtain ⟨v0, d0, rfl, rfl, h0⟩ := trodAll_one hA
  obtain ⟨rfl, rfl⟩ := trodVars_none hV
  clear hA0 hval0
  simp only [List.append_nil] at hW'
  have hlt : ∀ x ∈ p, x.block < W.heap.size := fun x hx => by simpa using hW'.lt x hx
  have hargs0 : ∀ (W' : World), Below W.heap.size W W' → DataW.Trod enc Try.prog W' 0 (fun b => decide (b < W.heap.size)) true 55 v0 d0 p :=
    fun W' hn => Below.trod laidOut (by kernel_rfl) (of_decide_eq_true (by kernel_rfl)) h0 hn (fun x hx => hlt x (by simp [hx]))
  obtain ⟨l0, bs0, he0⟩ := read_rul (hval 0 55 v0 rfl rfl) h0
  have h : Calls Try.prog 7 #[v0] W (TrueX W) := lawrutext l0 v0 bs0 W he0 (fun v2 b2 W2 h2 ht => hO l0 v2 b2 W2 h2 ht)
  refine h.mono fun e W' ⟨he, hnx⟩ => ?_
  subst he
  refine ⟨_, rfl, _, _, _, [], p, [], hW', ?_, ?_, rfl, hnx.frame _, fun h => by cases h⟩
  · exact trodAll_mk1 (shut_bool Try.underlying4 _)
  · exact trodAll_mk1 (hargs0 _ hnx)

/-- The law FnExactFormatRule. -/
theorem exactFormatRule_holds (hO : OwnFormatRule) : Rows.FnExactFormatRuleSaid :=
  OpenClaim.holds_of_wide 7 Try.f7 rfl rfl rfl rfl rfl rfl rfl ⟨rfl, rfl, rfl, rfl, rfl⟩ rfl rfl rfl rfl rfl (by kernel_rfl) Try.func7 (by kernel_rfl)
    (of_decide_eq_true (by kernel_rfl)) (by unfold Func.isWrapper; first | (rw [if_pos (by decide +kernel)]; kernel_rfl) | (rw [if_neg (by decide +kernel)]; exact ⟨rfl, rfl⟩))
    (fun os started H enc _ => liftedFormatRule hO os started H enc)
end Go.Proofs.Ytliifdiajcahdaa
