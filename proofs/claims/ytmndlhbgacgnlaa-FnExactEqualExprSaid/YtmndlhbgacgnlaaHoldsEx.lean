/- The laws FnExactSizeOf, FnExactDepthOf, FnExactCallsOf, FnExactIsValidExpr, FnExactIsData, FnExactVarsOf, FnExactEqualExpr, each from a contract of the program's own function: for every input the program's function answers as its model, leaves its arguments as they were, and hands back memory of its own. Conditions: those contracts; the reach of the form. -/
import Derived.Test.YtmndlhbgacgnlaaExOpen
import Derived.Test.YtmndlhbgacgnlaaLawSizes
import Derived.Test.YtmndlhbgacgnlaaLawEqual
import Derived.Test.YtmndlhbgacgnlaaLawVars
import Derived.ProofKit
import Derived.SizedLaws
import Derived.OpenShut
namespace Go.Proofs.Ytmndlhbgacgnlaa
open Go Go.ChangeShapes Go.WideShapes Go.ChangeAt Go.RowKit

theorem own : ownKnob Try.prog.godebug = none := by kernel_rfl
theorem laidOut : laidOutB Try.prog = true := by kernel_rfl

/-- What the program's own SizeOf gives. -/
def OwnSizeOf : Prop := ∀ (e : Ex) (v : Value) (bs : List Nat) (W : World), ExIs W v e bs → exTot e ≤ 1048576 → Calls Try.prog 13 #[v] W (RetPost (.int .i64 (exSize e : Int)) W)
/-- What the program's own DepthOf gives. -/
def OwnDepthOf : Prop := ∀ (e : Ex) (v : Value) (bs : List Nat) (W : World), ExIs W v e bs → exTot e ≤ 1048576 → Calls Try.prog 14 #[v] W (RetPost (.int .i64 (exDepth e : Int)) W)
/-- What the program's own CallsOf gives. -/
def OwnCallsOf : Prop := ∀ (e : Ex) (v : Value) (bs : List Nat) (W : World), ExIs W v e bs → exTot e ≤ 1048576 → Calls Try.prog 20 #[v] W (RetPost (.int .i64 (exCalls e : Int)) W)
/-- What the program's own IsValidExpr gives. -/
def OwnIsValidExpr : Prop := ∀ (e : Ex) (v : Value) (bs : List Nat) (W : World), ExIs W v e bs → exTot e ≤ 1048576 → Calls Try.prog 15 #[v] W (RetPost (.bool (exValid e)) W)
/-- What the program's own IsData gives. -/
def OwnIsData : Prop := ∀ (e : Ex) (v : Value) (bs : List Nat) (W : World), ExIs W v e bs → exTot e ≤ 1048576 → Calls Try.prog 24 #[v] W (RetPost (.bool (exIsData e)) W)
/-- What the program's own VarsOf gives. -/
def OwnVarsOf : Prop := ∀ (e : Ex) (v : Value) (bs : List Nat) (W : World), ExIs W v e bs → exTot e ≤ 1048576 → Calls Try.prog 18 #[v] W (NamesPost (exVars [] e) W)
/-- What the program's own EqualExpr gives. -/
def OwnEqualExpr : Prop := ∀ (e e2 : Ex) (v v2 : Value) (bs bs2 : List Nat) (W : World), ExIs W v e bs → ExIs W v2 e2 bs2 → (∀ x ∈ bs ++ bs2, ∀ o, W.frozen? ⟨x, o, none⟩ = false) → exTot e ≤ 1048576 → exTot e2 ≤ 1048576 → Calls Try.prog 26 #[v, v2] W (RetPost (.bool (exEq e e2)) W)
set_option maxRecDepth 100000 in
theorem liftedEqualExpr (hO : OwnEqualExpr) (os : Os) (started : os.Started) (H : Type) (enc : TypeId × Value → H) :
    ReturnsInHanded {} Try.checked os 5 .any (Rows.fnExactEqualExprSpec.pre6 enc Try.prog Try.f5 Rows.fnExactEqualExprRow.domain false) (Rows.fnExactEqualExprSpec.post enc Try.prog Try.f5 false true false false) := by
  refine returnsInHanded_of_change_sized (C := Try.checked) own started (by kernel_rfl) Try.func5
    (ChangeSpec.witness6 (enc := enc) (C := Try.checked) false ⟨#[], #[.agg #[.int .i64 0, .string ⟨#[]⟩, .slice none 0 0], .agg #[.int .i64 0, .string ⟨#[]⟩, .slice none 0 0]], []⟩ 8 (by kernel_rfl) (by kernel_rfl) (by kernel_rfl) (by kernel_rfl)) ?_
  intro W base args ds gs before hval0 hW _ hsz0 _
  clear hsz0
  have hval : ∀ (j : Nat) t v, Try.f5.params[j]? = some t → args[j]? = some v → Value.okWide Try.prog W .any base t v := hval0
  have hW' := hW
  obtain ⟨p, q, hA0, hV, rfl, _, _⟩ := hW
  have hA : DataW.TrodAll enc Try.prog W 0 (fun _ => true) true Try.f5.params.toList args.toList ds p := hA0
  rw [Try.params5] at hA hval
  obtain ⟨v0, v1, d0, d1, p0, p1, rfl, rfl, rfl, h0, h1⟩ := trodAll_two hA
  obtain ⟨rfl, rfl⟩ := trodVars_none hV
  clear hA0 hval0
  simp only [List.append_nil] at hW'
  have hlt : ∀ x ∈ p0 ++ p1, x.block < W.heap.size := fun x hx => by simpa using hW'.lt x hx
  have hargs0 : ∀ (W' : World), Below W.heap.size W W' → DataW.Trod enc Try.prog W' 0 (fun b => decide (b < W.heap.size)) true 42 v0 d0 p0 :=
    fun W' hn => Below.trod laidOut (by kernel_rfl) (of_decide_eq_true (by kernel_rfl)) h0 hn (fun x hx => hlt x (by simp [hx]))
  have hargs1 : ∀ (W' : World), Below W.heap.size W W' → DataW.Trod enc Try.prog W' 0 (fun b => decide (b < W.heap.size)) true 42 v1 d1 p1 :=
    fun W' hn => Below.trod laidOut (by kernel_rfl) (of_decide_eq_true (by kernel_rfl)) h1 hn (fun x hx => hlt x (by simp [hx]))
  obtain ⟨e0, bs0, he0⟩ := read_ex (hval 0 42 v0 rfl rfl) h0
  obtain ⟨e1, bs1, he1⟩ := read_ex (hval 1 42 v1 rfl rfl) h1
  have h : Calls Try.prog 5 #[v0, v1] W (TrueX W) := lawequal e0 e1 v0 v1 bs0 bs1 W he0 he1 (fun v2 v3 b2 b3 W2 h2 h3 hf ht ht2 => hO e0 e1 v2 v3 b2 b3 W2 h2 h3 hf ht ht2)
  refine h.mono fun e W' ⟨he, hnx⟩ => ?_
  subst he
  refine ⟨_, rfl, _, _, _, [], p0 ++ p1, [], hW', ?_, ?_, rfl, hnx.frame _, fun h => by cases h⟩
  · exact trodAll_mk1 (shut_bool Try.underlying4 _)
  · exact trodAll_mk2 (hargs0 _ hnx) (hargs1 _ hnx)

/-- The law FnExactEqualExpr. -/
theorem exactEqualExpr_holds (hO : OwnEqualExpr) : Rows.FnExactEqualExprSaid :=
  OpenClaim.holds_of_wide 5 Try.f5 rfl rfl rfl rfl rfl rfl rfl ⟨rfl, rfl, rfl, rfl, rfl⟩ rfl rfl rfl rfl rfl (by kernel_rfl) Try.func5 (by kernel_rfl)
    (of_decide_eq_true (by kernel_rfl)) (by unfold Func.isWrapper; first | (rw [if_pos (by decide +kernel)]; kernel_rfl) | (rw [if_neg (by decide +kernel)]; exact ⟨rfl, rfl⟩))
    (fun os started H enc _ => liftedEqualExpr hO os started H enc)
end Go.Proofs.Ytmndlhbgacgnlaa
