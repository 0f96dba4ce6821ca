/- The law FnExactJoin holds: for every slice of strings and every separator the program's Join answers as its model and leaves its argument as it was. No condition but the reach of the form. -/
import Derived.Test.YtlkfifnkdmmhnabRows
import Derived.Test.YtlkfifnkdmmhnabWalkC
import Derived.ProofKit
import Derived.SizedLaws
import Derived.OpenShut
namespace Go.Proofs.Ytlkfifnkdmmhnab
open Go Go.ChangeShapes Go.WideShapes Go.ChangeAt Go.RowKit
open Go.ChangeMaps (open_string shut_string)

theorem own : ownKnob Try.prog.godebug = none := by kernel_rfl
theorem laidOut : laidOutB Try.prog = true := by kernel_rfl
theorem cells9 : Try.prog.cellsOf 9 = 1 := by kernel_rfl
theorem bytes9 : Try.prog.bytesOf 9 = 16 := by kernel_rfl
theorem cell_lt {w : World} {a : Addr} {v : Value} (h : w.cell? a = some v) : a.block < w.heap.size := by
  rcases Nat.lt_or_ge a.block w.heap.size with h' | h'
  · exact h'
  · simp [World.cell?, Array.getElem?_eq_none h'] at h

/-- The law at every slice that was read. -/
theorem law_any (A : Option Addr) (xs : List ByteArray) (cap : Nat) (s : ByteArray) (w : World) (hs : Strs w A xs) (hn : xs.length ≤ 8796093022208) (hx : ∀ x ∈ xs, x.size ≤ 9223372036854775807) :
    Calls Try.prog 3 #[.slice A xs.length cap, .string s] w (TrueEnd w) := by
  by_cases h : s.size ≤ 1048576
  · exact law_short A xs cap s w hs hn hx h
  · exact law_long A xs.length cap s w (by omega)
theorem strs_of (W : World) (a : Addr) (ss : List ByteArray) (len : Nat) (hcell : ∀ i, i < ss.length → W.cell? (a.add i) = some (.string (ss.getD i ByteArray.empty))) : Strs W (some a) (ss.take len) := by
  intro i x hx
  rw [List.getElem?_take] at hx
  split at hx
  · have hi : i < ss.length := (List.getElem?_eq_some_iff.1 hx).1
    have h := hcell i hi
    have e : ss.getD i ByteArray.empty = x := by rw [List.getD, hx]; rfl
    rw [e] at h
    exact ⟨a, rfl, h, by have := cell_lt h; rw [block_add] at this; exact this⟩
  · cases hx

set_option maxRecDepth 100000 in
theorem lifted (os : Os) (started : os.Started) (H : Type) (enc : TypeId × Value → H) :
    ReturnsInHanded {} Try.checked os 3 .any (Rows.fnExactJoinSpec.pre6 enc Try.prog Try.f3 Rows.fnExactJoinRow.domain false) (Rows.fnExactJoinSpec.post enc Try.prog Try.f3 false true false false) := by
  refine returnsInHanded_of_change_sized (C := Try.checked) own started (by kernel_rfl) Try.func3
    (ChangeSpec.witness6 (enc := enc) (C := Try.checked) false ⟨#[], #[.slice none 0 0, .string ⟨#[]⟩], []⟩ 8 (by kernel_rfl) (by kernel_rfl) (by kernel_rfl) (by kernel_rfl)) ?_
  intro W base args ds gs before hval0 hW _ hsz0 _
  have hsz : (DataW.weightsEach Try.prog (Try.f3.params.toList ++ Rows.fnExactJoinSpec.plain.varTypes Try.prog) (ds ++ gs)).all (· ≤ reachBytes) = true := hsz0
  clear hsz0
  have hval : ∀ (j : Nat) t v, Try.f3.params[j]? = some t → args[j]? = some v → Value.okWide Try.prog W .any base t v := hval0
  have hW' := hW
  obtain ⟨p, q, hA0, hV, rfl, _, _⟩ := hW
  have hA : DataW.TrodAll enc Try.prog W 0 (fun _ => true) true Try.f3.params.toList args.toList ds p := hA0
  rw [Try.params3] at hA hval hsz
  obtain ⟨v0, v1, d0, d1, p0, p1, rfl, rfl, rfl, h0, h1⟩ := trodAll_two hA
  obtain ⟨rfl, rfl⟩ := trodVars_none hV
  obtain ⟨s, rfl, rfl, rfl, hs⟩ := open_string Try.underlying9 (hval 1 9 v1 rfl rfl) h1
  obtain ⟨a0, len, cap, rfl⟩ := okWide_slice Try.underlying22 (hval 0 22 v0 rfl rfl)
  have h0k := h0
  obtain ⟨fuel, hf⟩ := h0
  clear hA0 hval0
  simp only [List.append_nil] at hW'
  have hlt : ∀ x ∈ p0, x.block < W.heap.size := fun x hx => by simpa using hW'.lt x hx
  have hargs : ∀ (W' : World), Below W.heap.size W W' → DataW.Trod enc Try.prog W' 0 (fun b => decide (b < W.heap.size)) true 22 (.slice a0 len cap) d0 p0 :=
    fun W' hn => Below.trod laidOut (by kernel_rfl) (of_decide_eq_true (by kernel_rfl)) h0k hn hlt
  have fin : ∀ e W', TrueEnd W e W' → ∃ v, e = Ending.returned v ∧ Rows.fnExactJoinSpec.post enc Try.checked.prog Try.f3 false true false false W #[.slice a0 len cap, .string s] v W' := by
    intro e W' ⟨he, hnx⟩
    subst he
    refine ⟨_, rfl, _, _, _, [], p0, [], hW', ?_, ?_, rfl, hnx.frame _, fun h => by cases h⟩
    · exact trodAll_mk1 (shut_bool Try.underlying4 _)
    · have h2 := trodAll_mk2 (hargs _ hnx) (shut_string (enc := enc) (sp := fun b => decide (b < W.heap.size)) Try.underlying9 hs)
      rw [List.append_nil] at h2
      exact h2
  rcases open_strings Try.underlying22 Try.underlying9 cells9 hf with ⟨hcs, hx⟩ | ⟨a, len', cap', ss, hcs, _, hl, hm, hz, hx, hcell, hws⟩
  · simp [Value.cells] at hcs
    obtain ⟨rfl, rfl, rfl⟩ := hcs
    exact (law_any none [] 0 s W (fun i x hx => by simp at hx) (by decide) (fun x hx => by cases hx)).mono fin
  · simp [Value.cells] at hcs
    obtain ⟨rfl, rfl, rfl⟩ := hcs
    simp only [Prod.mk.injEq] at hx
    obtain ⟨rfl, rfl⟩ := hx
    simp only [if_true] at hz
    have hreach : len * 16 ≤ 140737488351232 := by
      have := sized_slice hsz (j := 0) (t := 22) (e := 9) rfl rfl Try.underlying22
      rw [bytes9] at this
      simp only [strs, List.length_map, List.length_take, List.length_drop, reachBytes] at this
      omega
    have hxl : (ss.take len).length = len := by rw [List.length_take]; omega
    have h := law_any (some a) (ss.take len) cap s W (strs_of W a ss len hcell) (by rw [hxl]; omega) (fun x hx => by
      have := hws x (List.mem_of_mem_take hx)
      unfold maxLen at this
      omega)
    rw [hxl] at h
    exact h.mono fin

/-- The law FnExactJoin. -/
theorem exactJoin_holds : Rows.FnExactJoinSaid :=
  OpenClaim.holds_of_wide 3 Try.f3 rfl rfl rfl rfl rfl rfl rfl ⟨rfl, rfl, rfl, rfl, rfl⟩ rfl rfl rfl rfl rfl (by kernel_rfl) Try.func3 (by kernel_rfl)
    (of_decide_eq_true (by kernel_rfl)) (by unfold Func.isWrapper; first | (rw [if_pos (by decide +kernel)]; kernel_rfl) | (rw [if_neg (by decide +kernel)]; exact ⟨rfl, rfl⟩))
    (fun os started H enc _ => lifted os started H enc)
#print axioms exactJoin_holds
end Go.Proofs.Ytlkfifnkdmmhnab
