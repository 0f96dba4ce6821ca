/- A part of the proof of the seat's statement: HoldsPrograms. Condition: as each says. -/
import Derived.Test.YtiaknfnhmoinpaaGreatLawPrograms
import Derived.ProofKit
import Derived.SizedLaws
import Derived.OpenShut
set_option maxHeartbeats 8000000
namespace Go.Proofs.YtiaknfnhmoinpaaGreat
open Go Go.ChangeShapes Go.WideShapes Go.ChangeAt Go.WideMaps Go.WideElems Go.RowKit
theorem ownS : ownKnob Tryz.prog.godebug = none := by kernel_rfl
theorem laidOutS : laidOutB Tryz.prog = true := by kernel_rfl
theorem cellsU8 : Tryz.prog.cellsOf 5 = 1 := by kernel_rfl
theorem u8_bounds {z : Int} (h : (Lit.int .u8 z).wf = true) : 0 ≤ z ∧ z ≤ 255 := by
 have e1 : IntKind.u8.min = 0 := rfl
 have e2 : IntKind.u8.max = 255 := rfl
 simp [Lit.wf, e1, e2] at h
 omega
theorem bytes_read {W : World} {a : Addr} {zs : List Int} (len : Nat) (hcell : ∀ i, i < zs.length → W.cell? (a.add i) = some (.int .u8 (zs.getD i 0))) (hw : ∀ z ∈ zs, (Lit.int .u8 z).wf = true) : Bytes W W.heap.size (some a) (zs.take len) := by
 intro i z hz
 rw [List.getElem?_take] at hz
 split at hz
 · have hi : i < zs.length := (List.getElem?_eq_some_iff.1 hz).1
   have h := hcell i hi
   have e : zs.getD i 0 = z := by rw [List.getD, hz]; rfl
   rw [e] at h
   have hb := u8_bounds (hw z (List.mem_of_getElem? hz))
   exact ⟨a, rfl, h, hb.1, hb.2, by have := World.block_lt_of_cell? W _ h; rw [block_add] at this; exact this⟩
 cases hz
theorem programs_long (A : Option Addr) (n cap : Nat) (w : World) (h : 1048576 < (n : Int)) : Calls Tryz.prog 3 #[.slice A n cap] w (TrueP w) := by
 have HB := zH (bigP_yes A n cap w h)
 clear h
 go_enter Tryz.func3, Tryz.ntmps3
 go_wp2_with fail
 go_at_call 4
 refine HB.out.mono ?_
 rintro e w' ⟨rfl, rfl⟩
 go_wp2_with fail
 go_ret
 exact ⟨rfl, wB _ _⟩
theorem programs_walk (A : Option Addr) (zs : List Int) (cap : Nat) (W : World) (hs : Bytes W W.heap.size A zs) : Calls Tryz.prog 3 #[.slice A zs.length cap] W (TrueP W) := by
 by_cases h : zs.length ≤ 1048576
 · exact law_programs A zs cap W hs h
 exact programs_long A zs.length cap W (by omega)
set_option maxRecDepth 100000 in
theorem liftedPrograms (os : Os) (started : os.Started) (H : Type) (enc : TypeId × Value → H) :
 ReturnsInHanded {} Tryz.checked os 3 .any (Rows.fnProgramsSpec.pre6 enc Tryz.prog Tryz.f3 Rows.fnProgramsRow.domain false) (Rows.fnProgramsSpec.post enc Tryz.prog Tryz.f3 false true false false) := by
 refine returnsInHanded_of_change_sized (C := Tryz.checked) ownS started (by kernel_rfl) Tryz.func3
  (ChangeSpec.witness6 (enc := enc) (C := Tryz.checked) false ⟨#[], #[.slice none 0 0], []⟩ 8 (by kernel_rfl) (by kernel_rfl) (by kernel_rfl) (by kernel_rfl)) ?_
 intro W base args ds gs before hval0 hW _ hsz0 _
 clear hsz0
 have hval : ∀ (j : Nat) t v, Tryz.f3.params[j]? = some t → args[j]? = some v → Value.okWide Tryz.prog W .any base t v := hval0
 have hW' := hW
 obtain ⟨p, q, hA0, hV, rfl, _, _⟩ := hW
 have hA : DataW.TrodAll enc Tryz.prog W 0 (fun _ => true) true Tryz.f3.params.toList args.toList ds p := hA0
 rw [Tryz.params3] at hA hval
 obtain ⟨v0, d0, rfl, rfl, h0⟩ := trodAll_one hA
 obtain ⟨rfl, rfl⟩ := trodVars_none hV
 obtain ⟨a0, len, cap, rfl⟩ := okWide_slice Tryz.underlying22 (hval 0 22 v0 rfl rfl)
 have h0k := h0
 obtain ⟨fuel, hf⟩ := h0
 clear hA0 hval0
 simp only [List.append_nil] at hW'
 have hlt : ∀ x ∈ p, x.block < W.heap.size := fun x hx => by simpa using hW'.lt x hx
 have hargs : ∀ (W' : World), Below W.heap.size W W' → DataW.Trod enc Tryz.prog W' 0 (fun b => decide (b < W.heap.size)) true 22 (.slice a0 len cap) d0 p :=
  fun W' hn => Below.trod laidOutS (by kernel_rfl) (of_decide_eq_true (by kernel_rfl)) h0k hn hlt
 have fin : ∀ e W', TrueP W e W' → ∃ v, e = Ending.returned v ∧ Rows.fnProgramsSpec.post enc Tryz.checked.prog Tryz.f3 false true false false W #[.slice a0 len cap] v W' := by
  intro e W' ⟨he, hnx⟩
  subst he
  refine ⟨_, rfl, _, _, _, [], p, [], hW', ?_, ?_, rfl, hnx.frame _, fun h => by cases h⟩
  · exact trodAll_mk1 (shut_bool Tryz.underlying4 _)
  exact trodAll_mk1 (hargs _ hnx)
 rcases open_ints Tryz.underlying22 Tryz.underlying5 cellsU8 hf with ⟨hcs, hx⟩ | ⟨a, len', cap', zs, hcs, _, hl, hmx, hz, hx, hcell, hwz⟩
 · simp [Value.cells] at hcs
   obtain ⟨rfl, rfl, rfl⟩ := hcs
   exact (programs_walk none [] 0 W (fun i z hz => by simp at hz)).mono fin
 simp [Value.cells] at hcs
 obtain ⟨rfl, rfl, rfl⟩ := hcs
 simp only [if_true] at hz
 have hzl : (zs.take len).length = len := by rw [List.length_take]; omega
 have h := programs_walk (some a) (zs.take len) cap W (bytes_read len hcell hwz)
 rw [hzl] at h
 exact h.mono fin
theorem programs_holds : Rows.FnProgramsSaid :=
 OpenClaim.holds_of_wide 3 Tryz.f3 rfl rfl rfl rfl rfl rfl rfl ⟨rfl, rfl, rfl, rfl, rfl⟩ rfl rfl rfl rfl rfl (by kernel_rfl) Tryz.func3 (by kernel_rfl)
  (of_decide_eq_true (by kernel_rfl)) (by unfold Func.isWrapper; first | (rw [if_pos (by decide +kernel)]; kernel_rfl) | (rw [if_neg (by decide +kernel)]; exact ⟨rfl, rfl⟩))
  (fun os started H enc _ => liftedPrograms os started H enc)
end Go.Proofs.YtiaknfnhmoinpaaGreat
