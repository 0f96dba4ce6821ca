/- The walk of the law FnExactFormatProgram, from a contract of the program's own function where no string shares the memory of the program. Conditions: that contract; the argument lies in memory. Two closed facts of the program that every last step wants. No condition. The laws FnExactFormatProgram, each from a contract of the program's own function. Conditions: those contracts; the reach of the form. -/
import Derived.Test.YtmndlhbgacgnlaaGreatThaw
import Derived.Test.YtmndlhbgacgnlaaGreatSpecPrText
import Derived.Test.YtmndlhbgacgnlaaGreatExOpen
import Derived.ProofKit
import Derived.SizedLaws
import Derived.OpenShut
import Derived.Test.YtmndlhbgacgnlaaGreatRuOpen
namespace Go.Proofs.YtmndlhbgacgnlaaGreat
open Go Go.RowKit

set_option maxRecDepth 100000 in
set_option maxHeartbeats 4000000 in
theorem lawprtext (l : List Ru) (v : Value) (bs : List Nat) (w : World) (hv : PrIs w v l bs)
    (hO : ∀ (v2 : Value) (b2 : List Nat) (W : World), PrIs W v2 l b2 → Thawed W b2 → rusTot l ≤ 1048576 → Calls Tryz.prog 25 #[v2] W (RetPost (.string (prStr l)) W)) :
    Calls Tryz.prog 4 #[v] w (TrueX w) := by
  have HZ := Lib.hid (fun (W : World) (hb : Below w.heap.size w W) => sz_prog l v bs W 1048576 (hv.below hb) (by omega) (by omega))
  have HC := Lib.hid (fun (ht : rusTot l ≤ 1048576) (W : World) (hb : Below w.heap.size w W) => copy_prog l v bs W (hv.below hb) ht)
  have HO := Lib.hid hO
  have HP := Lib.hid (fun (ht : rusTot l ≤ 1048576) (v2 : Value) (b2 : List Nat) (W : World) (h : PrIs W v2 l b2) => show Calls Tryz.prog 23 #[v2] W (RetPost (.string (prStr l)) W) from spec_prtext l v2 b2 W h ht)
  clear hO
  obtain ⟨u, rfl, hu⟩ := hv
  obtain ⟨A, c, rfl, -⟩ := id hu
  clear hu
  have HQ := Lib.hid (fun (v6 : Value) (b6 b4 : List Nat) (v4 : Value) (W : World) (ht : rusTot l ≤ 1048576) (h4 : PrIs W v4 l b4) (h6 : PrIs W v6 l b6) => eq_prog l v4 v6 b4 b6 W h4 h6 ht)
  generalize prStr l = R at *
  obtain ⟨n, hn⟩ : ∃ n, n = l.length := ⟨_, rfl⟩
  have HB0 := Lib.hid ((Below.refl w.heap.size w).alloc (Nat.le_refl _) (.cells #[.slice A n c] 46))
  have HBX := Lib.hid (fun (W : World) (h : Below (w.alloc (.cells #[.slice A n c] 46)).heap.size (w.alloc (.cells #[.slice A n c] 46)) W) => lbox h)
  rw [← hn] at HZ HC ⊢
  have HNN := Lib.hid hn
  clear hn
  go_enter Tryz.func4, Tryz.ntmps4
  go_wp2_with fail
  go_at_call 22
  refine (HZ.out _ HB0.out).mono ?_
  rintro r w1 ⟨z, rfl, hb1, hz⟩
  have HB1 := Lib.hid hb1
  clear hb1 HZ
  rcases hz with ⟨rfl, -⟩ | ⟨hz0, hz⟩
  · go_wp2_with fail
    go_ret
    exact ⟨rfl, box_low HB1.out⟩
  have hsz : rusTot l ≤ 1048576 := by omega
  have HSZ := Lib.hid hsz
  clear hz hsz
  have x0 := HBX.out w1 HB1.out
  go_wp2_with fail
  go_at_call 24
  refine (HC.out HSZ.out w1 (box_low HB1.out)).mono ?_
  rintro r w2 ⟨v2, b2, rfl, hs2, -, hb2⟩
  have HB2 := Lib.hid (HB1.out.trans (hb2.mono HB1.out.size))
  have HS2 := Lib.hid hs2
  clear hs2 hb2 x0
  go_wp2_with fail
  go_at_call 23
  refine (HP.out HSZ.out _ b2 w2 HS2.out).mono ?_
  rintro r w3 ⟨rfl, hb3⟩
  have HB3 := Lib.hid (HB2.out.trans (hb3.mono HB2.out.size))
  clear hb3 HS2
  have x0 := HBX.out w3 HB3.out
  go_wp2_with fail
  go_at_call 24
  refine (HC.out HSZ.out w3 (box_low HB3.out)).mono ?_
  rintro r w4 ⟨v4, b4, rfl, hs4, hm4, hb4⟩
  obtain ⟨u4, rfl, hu4⟩ := id hs4
  obtain ⟨A4, c4, rfl, -⟩ := id hu4
  rw [← HNN.out]
  have hs4' := hs4.below ((Below.refl w4.heap.size w4).alloc (Nat.le_refl _) (.cells #[.slice A4 n c4] 26))
  rw [← HNN.out] at hs4'
  have HS4 := Lib.hid hs4'
  have HM4 := Lib.hid (mine_thawed (hm4.keeps (keeps_below ((Below.refl w4.heap.size w4).alloc (Nat.le_refl _) (.cells #[.slice A4 n c4] 26)) _)))
  have HB4 := Lib.hid (HB3.out.trans (hb4.mono HB3.out.size))
  clear hs4 hs4' hu4 hb4 hm4 x0
  go_wp2_with fail
  go_at_call 25
  refine (HO.out _ b4 _ HS4.out HM4.out HSZ.out).mono ?_
  rintro r w5 ⟨rfl, hb5⟩
  have y0 := pbox hb5
  have hl5 : w4.heap.size < w5.heap.size := by have := hb5.size; simp at this; omega
  have HB5 := Lib.hid (HB4.out.trans ((box_low hb5).mono HB4.out.size))
  have HS5 := Lib.hid (HS4.out.below hb5)
  clear hb5 HS4
  have x0 := HBX.out w5 HB5.out
  have H2 := Lib.hid (And.intro x0 y0)
  have HLT := Lib.hid (show (⟨w.heap.size, 0, none⟩ : Addr).block < w5.heap.size ∧ (⟨w4.heap.size, 0, none⟩ : Addr).block < w5.heap.size from ⟨by have := HB5.out.size; simp at this; show w.heap.size < _; omega, hl5⟩)
  have HC5 := Lib.hid (fun (W : World) (h : Below w5.heap.size w5 W) => HC.out HSZ.out W (box_low (HB5.out.trans (h.mono HB5.out.size))))
  have HE5 := Lib.hid (fun (v6 : Value) (b6 : List Nat) (W : World) (h : Below w5.heap.size w5 W) (h6 : PrIs W v6 l b6) => HQ.out v6 b6 b4 _ W HSZ.out (HS5.out.below h) h6)
  skip
  all_goals
    go_wp2_with fail
    go_region_held3 (fun X => X.cell? ⟨w.heap.size, 0, none⟩ = some (.slice A n c) ∧ X.cell? ⟨w4.heap.size, 0, none⟩ = some (.slice A4 n c4) ∧ Hid (Below w5.heap.size w5 X))
      (first | exact kept2_start H2 | exact kept2_step HLT hb6 (by assumption) | exact kept2_step HLT hb7 (by assumption))
      (first
        | (go_at_call 24; have hh := (‹_ ∧ _ ∧ Hid (Below w5.heap.size w5 _)›).2.2.out; refine (HC5.out _ hh).mono ?_; rintro r w6 ⟨v6, b6, rfl, hs6, -, hb6⟩; clear hh)
        | (go_at_call 26; have hh := (‹_ ∧ _ ∧ Hid (Below w5.heap.size w5 w6)›).2.2.out; refine (HE5.out _ b6 _ hh hs6).mono ?_; clear hh; rintro r w7 ⟨rfl, hb7⟩))
    all_goals
      have hx := (‹_ ∧ _ ∧ Hid (Below w5.heap.size w5 w7)›).2.2.out
      have HX7 := Lib.hid (box_low (HB5.out.trans (hx.mono HB5.out.size)))
      clear hx
      go_wp2_with fail
      go_ret
      exact ⟨rfl, HX7.out⟩
end Go.Proofs.YtmndlhbgacgnlaaGreat

namespace Go.Proofs.YtmndlhbgacgnlaaGreat
open Go Go.ChangeShapes Go.WideShapes Go.ChangeAt Go.RowKit

theorem own : ownKnob Tryz.prog.godebug = none := by kernel_rfl
theorem laidOut : laidOutB Tryz.prog = true := by kernel_rfl
end Go.Proofs.YtmndlhbgacgnlaaGreat

namespace Go.Proofs.YtmndlhbgacgnlaaGreat
open Go Go.ChangeShapes Go.WideShapes Go.ChangeAt Go.RowKit
open Go.ChangeMaps (open_string shut_string)

/-- What the program's own FormatProgram gives. -/
def OwnFormatProgram : Prop := ∀ (l : List Ru) (v : Value) (bs : List Nat) (W : World), PrIs W v l bs → Thawed W bs → rusTot l ≤ 1048576 → Calls Tryz.prog 25 #[v] W (RetPost (.string (prStr l)) W)
set_option maxRecDepth 100000 in
theorem liftedFormatProgram (hO : OwnFormatProgram) (os : Os) (started : os.Started) (H : Type) (enc : TypeId × Value → H) :
    ReturnsInHanded {} Tryz.checked os 4 .any (Rows.fnExactFormatProgramSpec.pre6 enc Tryz.prog Tryz.f4 Rows.fnExactFormatProgramRow.domain false) (Rows.fnExactFormatProgramSpec.post enc Tryz.prog Tryz.f4 false true false false) := by
  refine returnsInHanded_of_change_sized (C := Tryz.checked) own started (by kernel_rfl) Tryz.func4
    (ChangeSpec.witness6 (enc := enc) (C := Tryz.checked) false ⟨#[], #[.agg #[.slice none 0 0]], []⟩ 8 (by kernel_rfl) (by kernel_rfl) (by kernel_rfl) (by kernel_rfl)) ?_
  intro W base args ds gs before hval0 hW _ hsz0 _
  clear hsz0
  have hval : ∀ (j : Nat) t v, Tryz.f4.params[j]? = some t → args[j]? = some v → Value.okWide Tryz.prog W .any base t v := hval0
  have hW' := hW
  obtain ⟨p, q, hA0, hV, rfl, _, _⟩ := hW
  have hA : DataW.TrodAll enc Tryz.prog W 0 (fun _ => true) true Tryz.f4.params.toList args.toList ds p := hA0
  rw [Tryz.params4] at hA hval
  obtain ⟨v0, d0, rfl, rfl, h0⟩ := trodAll_one hA
  obtain ⟨rfl, rfl⟩ := trodVars_none hV
  clear hA0 hval0
  simp only [List.append_nil] at hW'
  have hlt : ∀ x ∈ p, x.block < W.heap.size := fun x hx => by simpa using hW'.lt x hx
  have hargs0 : ∀ (W' : World), Below W.heap.size W W' → DataW.Trod enc Tryz.prog W' 0 (fun b => decide (b < W.heap.size)) true 46 v0 d0 p :=
    fun W' hn => Below.trod laidOut (by kernel_rfl) (of_decide_eq_true (by kernel_rfl)) h0 hn (fun x hx => hlt x (by simp [hx]))
  obtain ⟨l0, bs0, he0⟩ := read_prog (hval 0 46 v0 rfl rfl) h0
  have h : Calls Tryz.prog 4 #[v0] W (TrueX W) := lawprtext l0 v0 bs0 W he0 (fun v2 b2 W2 h2 hf ht => hO l0 v2 b2 W2 h2 hf ht)
  refine h.mono fun e W' ⟨he, hnx⟩ => ?_
  subst he
  refine ⟨_, rfl, _, _, _, [], p, [], hW', ?_, ?_, rfl, hnx.frame _, fun h => by cases h⟩
  · exact trodAll_mk1 (shut_bool Tryz.underlying4 _)
  · exact trodAll_mk1 (hargs0 _ hnx)

/-- The law FnExactFormatProgram. -/
theorem exactFormatProgram_holds (hO : OwnFormatProgram) : Rows.FnExactFormatProgramSaid :=
  OpenClaim.holds_of_wide 4 Tryz.f4 rfl rfl rfl rfl rfl rfl rfl ⟨rfl, rfl, rfl, rfl, rfl⟩ rfl rfl rfl rfl rfl (by kernel_rfl) Tryz.func4 (by kernel_rfl)
    (of_decide_eq_true (by kernel_rfl)) (by unfold Func.isWrapper; first | (rw [if_pos (by decide +kernel)]; kernel_rfl) | (rw [if_neg (by decide +kernel)]; exact ⟨rfl, rfl⟩))
    (fun os started H enc _ => liftedFormatProgram hO os started H enc)
end Go.Proofs.YtmndlhbgacgnlaaGreat
