/- The contract of the model's FormatRule. Condition: nodes and letters of the rule together at most 1048576. The text of a program as plain data; and its length. No condition. The contract of the model's FormatProgram. Condition: nodes and letters of the program together at most 1048576. -/
import Derived.Test.YtmndlhbgacgnlaaGreatOwnRuText
import Derived.Test.YtmndlhbgacgnlaaGreatRuText
import Derived.Test.YtmndlhbgacgnlaaGreatValidEq
import Derived.Test.YtmndlhbgacgnlaaGreatRuValid
namespace Go.Proofs.YtmndlhbgacgnlaaGreat
open Go Go.RowKit Go.Sort

def joinStr (xs : List ByteArray) : ByteArray := ⟨(Lib.join (listsS xs) [44]).toArray⟩
theorem joinStr_size {xs : List ByteArray} (ht : totS xs + xs.length ≤ 2097152) : (joinStr xs).size ≤ 4398046511104 := by
  have h1 := joined_le xs ⟨#[44]⟩ xs.length (Nat.le_refl _) ht (by decide)
  rw [List.take_length] at h1
  have h9 : (joinStr xs).size = (Lib.join (listsS xs) [44]).length := by show (List.toArray _).size = _; simp
  rw [h9]; exact h1
theorem join_spec (A : Option Addr) (xs : List ByteArray) (c : Nat) (w : World) (hs : Strs w A xs) (ht : totS xs + xs.length ≤ 2097152) : Calls Tryz.prog 78 #[.slice A xs.length c, .string ⟨#[44]⟩] w (RetPost (.string (joinStr xs)) w) :=
  spec_join A xs c ⟨#[44]⟩ w hs ht (by decide)
theorem OwnsL.on {B : Nat} {w w2 : World} {v : Value} {xs : List ByteArray} (h : OwnsL B w v xs) (hb : Below w.heap.size w w2) : OwnsL B w2 v xs := row_on h (fun g e => hb.block g (h.lt g e).2)
theorem par_join (a : ByteArray) (xs : List ByteArray) (t : ByteArray) : ((a ++ ⟨#[40]⟩) ++ joinStr xs) ++ (⟨#[41]⟩ ++ t) = (a ++ parS xs) ++ t := by
  apply ByteArray.ext
  simp [ByteArray.data_append, parS, joinStr]

set_option maxRecDepth 100000 in
set_option maxHeartbeats 4000000 in
theorem spec_rutext (r : Ru) (v : Value) (b : List Nat) (w : World) (hv : RuIs w v r b) (hz : ruTot r ≤ 1048576) :
    Calls Tryz.prog 53 #[v] w (RetPost (.string (ruStr r)) w) := by
  obtain ⟨v1, v2, u, b1, b2, b3, rfl, h1, h2, rfl, h3, h4, h5⟩ := hv
  obtain ⟨A1, c1, rfl⟩ := h3.slice
  obtain ⟨A2, c2, rfl⟩ := h4.slice
  obtain ⟨A3, q3, c3, rfl⟩ := his_slice0 h5
  obtain ⟨-, hc1, hc2, hs1, -⟩ := h3.strs
  obtain ⟨-, hc3, hc4, hs2, -⟩ := h4.strs
  have hl : r.vars.length ≤ 1048576 ∧ r.params.length ≤ 1048576 := by unfold ruTot ssTot at hz; omega
  have HL := Lib.hid hl
  have HZ := Lib.hid hz
  have HH := Lib.hid h5
  obtain ⟨W0, hW0⟩ : ∃ W0, W0 = w.alloc (.cells #[.string r.name, .string r.con, .slice A1 r.vars.length c1, .slice A2 r.params.length c2, .int .i64 r.body.kind, .string r.body.name, .slice A3 q3 c3] 34) := ⟨_, rfl⟩
  have hlow : Below w.heap.size w W0 := by rw [hW0]; exact (Below.refl _ w).alloc (Nat.le_refl _) _
  have hbx : Box7 W0 w.heap.size 34 (.string r.name) (.string r.con) (.slice A1 r.vars.length c1) (.slice A2 r.params.length c2) (.int .i64 r.body.kind) (.string r.body.name) (.slice A3 q3 c3) := by rw [hW0]; exact heap_alloc_new w _
  have HLW := Lib.hid hlow
  have HBX := Lib.hid (fun (W : World) (hb : Below W0.heap.size W0 W) => (show Box7 W w.heap.size 34 (.string r.name) (.string r.con) (.slice A1 r.vars.length c1) (.slice A2 r.params.length c2) (.int .i64 r.body.kind) (.string r.body.name) (.slice A3 q3 c3) from (hb.block _ hbx.lt).trans hbx).cells)
  have HS1 := Lib.hid (fun (W : World) (hb : Below W0.heap.size W0 W) => (hs1.below hlow).below hb)
  have HS2 := Lib.hid (fun (W : World) (hb : Below W0.heap.size W0 W) => (hs2.below hlow).below hb)
  have HW0 := Lib.hid hW0
  have hsz : W0.heap.size = w.heap.size + 1 := by rw [hW0]; simp
  have HSZ := Lib.hid hsz
  have HMK := Lib.hid (show Below W0.heap.size W0 (W0.alloc (.cells #[] 9)) ∧ OwnsL W0.heap.size (W0.alloc (.cells #[] 9)) (.slice (some ⟨w.heap.size + 1, 0, none⟩) 0 0) [] from ⟨(Below.refl _ _).alloc (Nat.le_refl _) _, by rw [← hsz]; exact World.ownsRow_lit W0 #[] 0 (Nat.le_refl _) (by unfold maxLen; omega) rfl⟩)
  clear hl hz h3 h4 h5 hs1 hs2 hW0 hlow hbx hc1 hc3 hsz
  have HFIN : Hid (∀ (W : World) (A8 : Option Addr) (c8 : Nat), Below W0.heap.size W0 W → Strs W A8 (argTexts r) → ∀ (d : Nat) (os : Array Obj), Calls Tryz.prog 78 #[.slice A8 (argTexts r).length c8, .string ⟨#[44]⟩] (grow (redrawn W d) os) fun e w' => e = .returned (.string (joinStr (argTexts r))) ∧ ∃ p : Regrown, w' = grow (redrawn W p.d) p.os) :=
    Lib.hid (fun W A8 c8 hb hst d os => Calls.regrown_of ((join_spec A8 (argTexts r) c8 (grow (redrawn W d) os) (hst.below (below_regrown W d os)) (argTexts_le HZ.out)).mono (fun _ _ h => h)))
  have HEXP : Hid (∀ (W : World), Below W0.heap.size W0 W → ∀ (d : Nat) (os : Array Obj), Calls Tryz.prog 79 #[.agg #[.int .i64 r.body.kind, .string r.body.name, .slice A3 q3 c3]] (grow (redrawn W d) os) fun e w' => e = .returned (.string (exFmt r.body)) ∧ ∃ p : Regrown, w' = grow (redrawn W p.d) p.os) :=
    Lib.hid (fun W hb d os => Calls.regrown_of ((format_any r.body _ b3 (grow (redrawn W d) os) (((HH.out.below HLW.out).below hb).below (below_regrown W d os)) (by have := HZ.out; unfold ruTot at this; omega)).mono (fun _ _ h => h)))
  have hps := joinStr_size (argTexts_le HZ.out)
  have hns : r.name.size ≤ 1048576 := by have := HZ.out; unfold ruTot at this; omega
  have hes := exFmt_size r.body
  obtain ⟨p1, hp1⟩ : ∃ x : ByteArray, x = r.name ++ ⟨#[40]⟩ := ⟨_, rfl⟩
  obtain ⟨p2, hp2⟩ : ∃ x : ByteArray, x = p1 ++ joinStr (argTexts r) := ⟨_, rfl⟩
  obtain ⟨p3, hp3⟩ : ∃ x : ByteArray, x = p2 ++ ⟨#[41, 32, 61, 32]⟩ := ⟨_, rfl⟩
  obtain ⟨p4, hp4⟩ : ∃ x : ByteArray, x = p3 ++ exFmt r.body := ⟨_, rfl⟩
  have hq1 : p1.size = r.name.size + 1 := by rw [hp1]; exact ByteArray.size_append
  have hq2 : p2.size = p1.size + (joinStr (argTexts r)).size := by rw [hp2]; exact ByteArray.size_append
  have hq3 : p3.size = p2.size + 4 := by rw [hp3]; exact ByteArray.size_append
  have hA1 : ∀ W, (Op.stringOp .add r.name ⟨#[40]⟩).run Tryz.prog W = .ok (.string p1) W := fun W => by
    rw [hp1]; exact run_string_add_sum W r.name ⟨#[40]⟩ (by show _ + 1 ≤ _; omega)
  have hA2 : ∀ W, (Op.stringOp .add p1 (joinStr (argTexts r))).run Tryz.prog W = .ok (.string p2) W := fun W => by
    rw [hp2]; exact run_string_add_sum W p1 (joinStr (argTexts r)) (by omega)
  have hA3 : ∀ W, (Op.stringOp .add p2 ⟨#[41, 32, 61, 32]⟩).run Tryz.prog W = .ok (.string p3) W := fun W => by
    rw [hp3]; exact run_string_add_sum W p2 ⟨#[41, 32, 61, 32]⟩ (by show _ + 4 ≤ _; omega)
  have hA4 : ∀ W, (Op.stringOp .add p3 (exFmt r.body)).run Tryz.prog W = .ok (.string p4) W := fun W => by
    rw [hp4]; exact run_string_add_sum W p3 (exFmt r.body) (by omega)
  have HRE := Lib.hid (show ruStr r = p4 by
    rw [hp4, hp3, hp2, hp1]
    unfold ruStr
    congr 1
    exact (par_join r.name (argTexts r) eqStr).symm)
  clear hps hns hes hq1 hq2 hq3 hp1 hp2 hp3 hp4
  have HAT := Lib.hid (argTexts_le HZ.out)
  by_cases hcon : r.con.size = 0
  · have HXS := Lib.hid (show argTexts r = [] ++ r.params by unfold argTexts; rw [if_pos hcon])
    have hbe := empty_yes hcon
    clear hcon
    go_enter Tryz.func53, Tryz.ntmps53
    go_wp2_with (at_builtin; rw [← HW0.out]; (refine wpList_append_strs rfl (.tmp 33) (.tmp 35) rfl W0.heap.size (.slice (some ⟨w.heap.size + 1, 0, none⟩) 0 0) [] rfl HMK.out.2 A2 r.params c2 rfl (HS2.out _ HMK.out.1) (by have := HL.out; simp; omega) HMK.out.1.size ?_); intro v8 w8 ho8 hg8; have HO8 := Lib.hid ho8; have HB8 := Lib.hid (OwnsL.grown HMK.out.1 HMK.out.2 hg8); clear ho8 hg8)
    rw [← HXS.out] at HO8
    obtain ⟨A8, c8, rfl, hc8, hst⟩ := rt_end HO8.out
    have hP := HFIN.out w8 A8 c8 HB8.out hst
    have hE := HEXP.out w8 HB8.out
    obtain ⟨y0, y1, y2, y3, y4, y5, y6⟩ := HBX.out w8 HB8.out
    have s0 := fun d os => cell_regrown y0 d os
    have s4 := fun d os => cell_regrown y4 d os
    have s5 := fun d os => cell_regrown y5 d os
    have s6 := fun d os => cell_regrown y6 d os
    generalize (argTexts r).length = my at *
    clear hst hc8
    refine wp_region_quiet_below (by kernel_rfl) (by kernel_rfl) ?_
    repeat (quiet_step (first | exact hP _ _ | exact hE _ _))
    refine wpQuiet_nil ?_
    intro _ hw'
    obtain ⟨⟨dq, osq⟩, hw''⟩ := hw'
    subst hw''
    have hlo := HLW.out.trans ((HB8.out.trans ((below_regrown w8 dq osq).mono HB8.out.size)).mono HLW.out.size)
    go_wp2
    go_ret
    exact ⟨by rw [HRE.out]; rfl, hlo⟩
  · have HXS := Lib.hid (show argTexts r = ([] ++ [patStr r]) ++ r.params by unfold argTexts; rw [if_neg hcon]; rfl)
    have hbe := empty_not hcon
    clear hcon
    by_cases hv0 : r.vars.length = 0
    · have hvi : (r.vars.length : Int) ≤ 0 := by omega
      have hvj : decide ((0 : Int) < (r.vars.length : Int)) = false := decide_eq_false (by omega)
      have HPS := Lib.hid (show patStr r = r.con by unfold patStr; rw [if_pos hv0])
      have HM2 := Lib.hid (HMK.out.1.alloc HMK.out.1.size (.cells #[.string r.con] 9))
      have HO2 := Lib.hid (show OwnsL W0.heap.size ((W0.alloc (.cells #[] 9)).alloc (.cells #[.string r.con] 9)) (.slice (some ⟨w.heap.size + 1, 0, none⟩) 0 0) [] from World.ownsRow.alloc HMK.out.2 _)
      have HONE := Lib.hid (show Strs ((W0.alloc (.cells #[] 9)).alloc (.cells #[.string r.con] 9)) (some ⟨w.heap.size + 1 + 1, 0, none⟩) [r.con] from by
        have h9 := strs_one (W0.alloc (.cells #[] 9)) r.con
        rw [World.size_alloc, HSZ.out] at h9
        exact h9)
      rw [HPS.out] at HXS
      clear hv0
      go_enter Tryz.func53, Tryz.ntmps53
      go_wp2_with (first
        | (at_builtin; rw [← HW0.out]; (refine wpList_append_strs rfl (.tmp 28) (.tmp 31) rfl W0.heap.size (.slice (some ⟨w.heap.size + 1, 0, none⟩) 0 0) [] rfl HO2.out (some ⟨w.heap.size + 1 + 1, 0, none⟩) [r.con] 1 rfl HONE.out (by simp) HM2.out.size ?_); intro v7 w7 ho7 hg7; have HO7 := Lib.hid ho7; have HB7 := Lib.hid (OwnsL.grown HM2.out HO2.out hg7); clear ho7 hg7; obtain ⟨z0, z1, z2, z3, z4, z5, z6⟩ := HBX.out w7 HB7.out)
        | (at_builtin; (refine wpList_append_strs rfl (.tmp 33) (.tmp 35) rfl W0.heap.size v7 ([] ++ [r.con]) rfl HO7.out A2 r.params c2 rfl (HS2.out _ HB7.out) (by have := HL.out; simp; omega) HB7.out.size ?_); intro v8 w8 ho8 hg8; have HO8 := Lib.hid ho8; have HB8 := Lib.hid (OwnsL.grown HB7.out HO7.out hg8); clear ho8 hg8))
      rw [← HXS.out] at HO8
      obtain ⟨A8, c8, rfl, hc8, hst⟩ := rt_end HO8.out
      have hP := HFIN.out w8 A8 c8 HB8.out hst
      have hE := HEXP.out w8 HB8.out
      obtain ⟨y0, y1, y2, y3, y4, y5, y6⟩ := HBX.out w8 HB8.out
      have s0 := fun d os => cell_regrown y0 d os
      have s4 := fun d os => cell_regrown y4 d os
      have s5 := fun d os => cell_regrown y5 d os
      have s6 := fun d os => cell_regrown y6 d os
      generalize (argTexts r).length = my at *
      clear hst hc8
      refine wp_region_quiet_below (by kernel_rfl) (by kernel_rfl) ?_
      repeat (quiet_step (first | exact hP _ _ | exact hE _ _))
      refine wpQuiet_nil ?_
      intro _ hw'
      obtain ⟨⟨dq, osq⟩, hw''⟩ := hw'
      subst hw''
      have hlo := HLW.out.trans ((HB8.out.trans ((below_regrown w8 dq osq).mono HB8.out.size)).mono HLW.out.size)
      go_wp2
      go_ret
      exact ⟨by rw [HRE.out]; rfl, hlo⟩
    · have hvi : (0 : Int) < (r.vars.length : Int) := by omega
      have HPS := Lib.hid (show patStr r = r.con ++ parS r.vars by unfold patStr; rw [if_neg hv0])
      have htv : totS r.vars + r.vars.length ≤ 2097152 := by have := HZ.out; unfold ruTot ssTot at this; rw [totS_totN]; omega
      have HJV := Lib.hid (fun (W : World) (hb : Below W0.heap.size W0 W) => join_spec A1 r.vars c1 W (HS1.out W hb) htv)
      have hjz := joinStr_size htv
      have hcs : r.con.size ≤ 1048576 := by have := HZ.out; unfold ruTot at this; omega
      obtain ⟨a1, ha1⟩ : ∃ x : ByteArray, x = r.con ++ ⟨#[40]⟩ := ⟨_, rfl⟩
      obtain ⟨a2, ha2⟩ : ∃ x : ByteArray, x = a1 ++ joinStr r.vars := ⟨_, rfl⟩
      obtain ⟨a3, ha3⟩ : ∃ x : ByteArray, x = a2 ++ ⟨#[41]⟩ := ⟨_, rfl⟩
      have hz1 : a1.size = r.con.size + 1 := by rw [ha1]; exact ByteArray.size_append
      have hz2 : a2.size = a1.size + (joinStr r.vars).size := by rw [ha2]; exact ByteArray.size_append
      have hB1 : ∀ W, (Op.stringOp .add r.con ⟨#[40]⟩).run Tryz.prog W = .ok (.string a1) W := fun W => by
        rw [ha1]; exact run_string_add_sum W r.con ⟨#[40]⟩ (by show _ + 1 ≤ _; omega)
      have hB2 : ∀ W, (Op.stringOp .add a1 (joinStr r.vars)).run Tryz.prog W = .ok (.string a2) W := fun W => by
        rw [ha2]; exact run_string_add_sum W a1 (joinStr r.vars) (by omega)
      have hB3 : ∀ W, (Op.stringOp .add a2 ⟨#[41]⟩).run Tryz.prog W = .ok (.string a3) W := fun W => by
        rw [ha3]; exact run_string_add_sum W a2 ⟨#[41]⟩ (by show _ + 1 ≤ _; omega)
      have HPE := Lib.hid (show patStr r = a3 by
        rw [HPS.out, ha3, ha2, ha1]
        apply ByteArray.ext
        simp [ByteArray.data_append, parS, joinStr])
      rw [HPE.out] at HXS
      clear hv0 htv hjz hcs ha1 ha2 ha3 hz1 hz2
      go_enter Tryz.func53, Tryz.ntmps53
      go_wp2_with fail
      rw [← HW0.out]
      obtain ⟨V0, hV0⟩ : ∃ V0, V0 = W0.alloc (.cells #[] 9) := ⟨_, rfl⟩
      rw [← hV0] at HMK ⊢
      clear hV0
      obtain ⟨x0, x1, x2, x3, x4, x5, x6⟩ := HBX.out V0 HMK.out.1
      go_region_law
        (first
        | (go_simp; go_at_call 78; refine (HJV.out V0.drew HMK.out.1.drew).mono ?_; rintro e w2 ⟨rfl, hb2⟩; have HB2 := Lib.hid (HMK.out.1.drew.trans (hb2.mono HMK.out.1.drew.size)); have HOJ := Lib.hid (show OwnsL W0.heap.size (w2.alloc (.cells #[.string a3] 9)) (.slice (some ⟨w.heap.size + 1, 0, none⟩) 0 0) [] from World.ownsRow.alloc (OwnsL.on (OwnsL.on HMK.out.2 (Below.refl _ _).drew) hb2) _); have HBJ := Lib.hid (HB2.out.alloc HB2.out.size (.cells #[.string a3] 9)); have HONE := Lib.hid (strs_one w2 a3); clear hb2; obtain ⟨y0, y1, y2, y3, y4, y5, y6⟩ := HBX.out w2 HB2.out)
        | (refine step_append_strs (by rfl) (.tmp 14) (.tmp 23) (by rfl) W0.heap.size (.slice (some ⟨w.heap.size + 1, 0, none⟩) 0 0) [] (by rfl) HOJ.out (some ⟨w2.heap.size, 0, none⟩) [a3] 1 (by rfl) HONE.out (by simp) HBJ.out.size ?_; intro v7 w7 ho7 hg7; have HO7 := Lib.hid ho7; have HB7 := Lib.hid (OwnsL.grown HBJ.out HOJ.out hg7); clear ho7 hg7))
      all_goals
        obtain ⟨z0, z1, z2, z3, z4, z5, z6⟩ := HBX.out w7 HB7.out
        go_wp2_with (at_builtin; (refine wpList_append_strs rfl (.tmp 33) (.tmp 35) rfl W0.heap.size v7 ([] ++ [a3]) rfl HO7.out A2 r.params c2 rfl (HS2.out _ HB7.out) (by have := HL.out; simp; omega) HB7.out.size ?_); intro v8 w8 ho8 hg8; have HO8 := Lib.hid ho8; have HB8 := Lib.hid (OwnsL.grown HB7.out HO7.out hg8); clear ho8 hg8)
        rw [← HXS.out] at HO8
        obtain ⟨A8, c8, rfl, hc8, hst⟩ := rt_end HO8.out
        have hP := HFIN.out w8 A8 c8 HB8.out hst
        have hE := HEXP.out w8 HB8.out
        obtain ⟨y0, y1, y2, y3, y4, y5, y6⟩ := HBX.out w8 HB8.out
        have s0 := fun d os => cell_regrown y0 d os
        have s4 := fun d os => cell_regrown y4 d os
        have s5 := fun d os => cell_regrown y5 d os
        have s6 := fun d os => cell_regrown y6 d os
        generalize (argTexts r).length = my at *
        clear hst hc8
        refine wp_region_quiet_below (by kernel_rfl) (by kernel_rfl) ?_
        repeat (quiet_step (first | exact hP _ _ | exact hE _ _))
        refine wpQuiet_nil ?_
        intro _ hw'
        obtain ⟨⟨dq, osq⟩, hw''⟩ := hw'
        subst hw''
        have hlo := HLW.out.trans ((HB8.out.trans ((below_regrown w8 dq osq).mono HB8.out.size)).mono HLW.out.size)
        go_wp2
        go_ret
        exact ⟨by rw [HRE.out]; rfl, hlo⟩
end Go.Proofs.YtmndlhbgacgnlaaGreat

namespace Go.Proofs.YtmndlhbgacgnlaaGreat
open Go Go.RowKit

def nlStr : ByteArray := ⟨#[10]⟩
/-- The lines of the rules, behind what stands there. -/
def linesOf (acc : ByteArray) : List Ru → ByteArray
  | [] => acc
  | r :: t => linesOf (acc ++ (ruStr r ++ nlStr)) t
def prStr (l : List Ru) : ByteArray := if validR l then linesOf ⟨#[]⟩ l else ⟨#[]⟩
theorem linesOf_snoc : ∀ (a : List Ru) (acc : ByteArray) (r : Ru), linesOf acc (a ++ [r]) = linesOf acc a ++ (ruStr r ++ nlStr) := by
  intro a
  induction a with
  | nil => intro acc r; rfl
  | cons x t ih => intro acc r; rw [List.cons_append, linesOf, ih, linesOf]
theorem linesOf_size : ∀ (l : List Ru) (acc : ByteArray), (∀ r ∈ l, ruTot r ≤ 1048576) → (linesOf acc l).size ≤ acc.size + l.length * 4194305 := by
  intro l
  induction l with
  | nil => intro acc _; simp [linesOf]
  | cons r t ih =>
    intro acc h
    rw [linesOf]
    have h1 := ih (acc ++ (ruStr r ++ nlStr)) (fun x hx => h x (by simp [hx]))
    have h2 := ruStr_size (h r (by simp))
    rw [ByteArray.size_append, ByteArray.size_append] at h1
    have h3 : nlStr.size = 1 := rfl
    rw [List.length_cons, Nat.add_mul]
    omega
theorem validR_len {l : List Ru} (h : validR l = true) : l.length ≤ 24 := by
  unfold validR at h
  simp only [Bool.and_eq_true, decide_eq_true_eq] at h
  exact h.2
end Go.Proofs.YtmndlhbgacgnlaaGreat

namespace Go.Proofs.YtmndlhbgacgnlaaGreat
open Go Go.RowKit

theorem acc_size {l : List Ru} (k : Nat) (hz : rusTot l ≤ 1048576) (h24 : l.length ≤ 24) : (linesOf ⟨#[]⟩ (l.take k)).size ≤ 104857600 := by
  have h1 := linesOf_size (l.take k) ⟨#[]⟩ (fun r hr => by have := rusTot_mem (List.mem_of_mem_take hr); omega)
  have h2 : (l.take k).length ≤ 24 := by rw [List.length_take]; omega
  have h3 : (⟨#[]⟩ : ByteArray).size = 0 := rfl
  have h4 : (l.take k).length * 4194305 ≤ 24 * 4194305 := Nat.mul_le_mul_right _ h2
  omega
theorem app_assoc (a b c : ByteArray) : (a ++ b) ++ c = a ++ (b ++ c) := by
  apply ByteArray.ext
  simp [ByteArray.data_append]

set_option maxRecDepth 100000 in
set_option maxHeartbeats 4000000 in
theorem spec_prtext (l : List Ru) (v : Value) (bs : List Nat) (w : World) (hv : PrIs w v l bs) (hz : rusTot l ≤ 1048576) :
    Calls Tryz.prog 23 #[v] w (RetPost (.string (prStr l)) w) := by
  have hll := rusTot_ge l
  have HVAL := Lib.hid (fun (W : World) (hW : Below w.heap.size w W) => validp_any l v bs W (hv.below hW) hz)
  have HRU := Lib.hid (fun (r : Ru) (hm : r ∈ l) (v2 : Value) (b2 : List Nat) (W : World) (h2 : RuIs W v2 r b2) => spec_rutext r v2 b2 W h2 (by have := rusTot_mem hm; omega))
  have HPR := Lib.hid (show prStr l = if validR l then linesOf ⟨#[]⟩ l else ⟨#[]⟩ from rfl)
  have HVL := Lib.hid (fun (h : validR l = true) => validR_len h)
  have HRS := Lib.hid (fun (r : Ru) (hm : r ∈ l) => ruStr_size (r := r) (by have := rusTot_mem hm; omega))
  have HAC := Lib.hid (fun (k : Nat) (h24 : l.length ≤ 24) => acc_size (l := l) k hz h24)
  obtain ⟨u, rfl, hu⟩ := id hv
  obtain ⟨A, c, rfl, hc1, hc2, -⟩ := id hu
  obtain ⟨m, hm⟩ : ∃ m, m = l.length := ⟨_, rfl⟩
  have HU := Lib.hid hu
  rw [← hm] at hc1 HU hll HVAL HVL HAC ⊢
  have HM := Lib.hid hm
  have HB0 := Lib.hid ((Below.refl w.heap.size w).alloc (Nat.le_refl _) (.cells #[.slice A m c] 26))
  have HBX := Lib.hid (fun (W : World) (h : Below (w.alloc (.cells #[.slice A m c] 26)).heap.size (w.alloc (.cells #[.slice A m c] 26)) W) => pbox h)
  have hmi : (m : Int) ≤ 1048576 := by omega
  clear hu hm hv hz hll
  generalize prStr l = R at *
  cases hva : validR l
  · rw [hva] at HPR HVAL
    have HE := Lib.hid (show R = ⟨#[]⟩ by rw [HPR.out]; rfl)
    clear hva
    go_enter Tryz.func23, Tryz.ntmps23
    go_wp2_with fail
    go_loopw [3, 4] (fun out i wr => out = .string ⟨#[]⟩ ∧ i = .int .i64 0 ∧ Hid (Below (w.alloc (.cells #[.slice A m c] 26)).heap.size (w.alloc (.cells #[.slice A m c] 26)) wr)) (fun _ _ _ => 0)
    case atStart => exact ⟨rfl, rfl, Lib.hid (Below.refl _ _)⟩
    case round =>
      obtain ⟨rfl, rfl, HB⟩ := hrel
      have x0 := HBX.out wr HB.out
      have HL := Lib.hid (HB0.out.trans (HB.out.mono HB0.out.size))
      have HC := Lib.hid (HVAL.out wr HL.out)
      by_cases h0 : 0 < m
      · have h0i : (0 : Int) < (m : Int) := by omega
        clear h0
        go_wp2_with (go_at_call 8; refine HC.out.mono ?_; rintro e w1 ⟨rfl, hb1⟩; have HB1 := Lib.hid (HB.out.trans (hb1.mono HB.out.size)); clear hb1)
        go_ret
        exact ⟨by rw [HE.out]; rfl, HB0.out.trans (HB1.out.mono HB0.out.size)⟩
      · have h0j : m = 0 := by omega
        subst h0j
        go_wp2
        go_ret
        exact ⟨by rw [HE.out]; rfl, HL.out⟩
  · rw [hva] at HPR HVAL
    have h24 := HVL.out hva
    have HE := Lib.hid (show R = linesOf ⟨#[]⟩ l by rw [HPR.out]; rfl)
    clear hva
    go_enter Tryz.func23, Tryz.ntmps23
    go_wp2_with fail
    go_loopw [3, 4] (fun out i wr => ∃ (k : Nat), k ≤ m ∧ out = .string (linesOf ⟨#[]⟩ (l.take k)) ∧ i = .int .i64 (k : Int) ∧ Hid (Below (w.alloc (.cells #[.slice A m c] 26)).heap.size (w.alloc (.cells #[.slice A m c] 26)) wr)) (fun _ i _ => m - (intOf i).toNat)
    case atStart => exact ⟨0, Nat.zero_le _, rfl, rfl, Lib.hid (Below.refl _ _)⟩
    case round =>
      obtain ⟨k, hk, rfl, rfl, HB⟩ := hrel
      have x0 := HBX.out wr HB.out
      have HL := Lib.hid (HB0.out.trans (HB.out.mono HB0.out.size))
      have HC := Lib.hid (HVAL.out wr HL.out)
      by_cases hlt : k < m
      · obtain ⟨g, o, r, v1, v2, y, b, hA⟩ := HU.out.get k (by rw [← HM.out]; exact hlt)
        obtain rfl := hA.eq
        have hgw := hA.lt
        obtain ⟨b1, b2, b3, -, -, -, h3, h4, h5⟩ := hA.is.parts
        obtain ⟨A1, c1, rfl⟩ := h3.slice
        obtain ⟨A2, c2, rfl⟩ := h4.slice
        obtain ⟨A3, q3, c3, rfl⟩ := his_slice0 h5
        have HCE := Lib.hid (fun (W : World) (hW : Below w.heap.size w W) => hA.cells.of (w' := W) (fun mm _ _ => hW.cell (p := ⟨g, mm, none⟩) hgw))
        have HRT := Lib.hid (fun (W : World) (hW : Below w.heap.size w W) => HRU.out r hA.mem _ b W (hA.is.below hW))
        have hs1 := HAC.out k h24
        have hs2 := HRS.out r hA.mem
        have htk := take_ru l k r hA.get
        obtain ⟨p1, hp1⟩ : ∃ x : ByteArray, x = linesOf ⟨#[]⟩ (l.take k) ++ ruStr r := ⟨_, rfl⟩
        have hp2 : linesOf ⟨#[]⟩ (l.take (k + 1)) = p1 ++ nlStr := by rw [htk, linesOf_snoc, hp1, app_assoc]
        have hq1 : p1.size = (linesOf ⟨#[]⟩ (l.take k)).size + (ruStr r).size := by rw [hp1]; exact ByteArray.size_append
        have hA1 : ∀ W, (Op.stringOp .add (linesOf ⟨#[]⟩ (l.take k)) (ruStr r)).run Tryz.prog W = .ok (.string p1) W := fun W => by
          rw [hp1]; exact run_string_add_sum W _ _ (by omega)
        have hA2 : ∀ W, (Op.stringOp .add p1 ⟨#[10]⟩).run Tryz.prog W = .ok (.string (linesOf ⟨#[]⟩ (l.take (k + 1)))) W := fun W => by
          rw [hp2]; exact run_string_add_sum W p1 ⟨#[10]⟩ (by show _ + 1 ≤ _; omega)
        have hk0 : (0 : Int) ≤ (k : Int) := by omega
        have hkn : (k : Int) < (m : Int) := by omega
        clear hA h3 h4 h5 hs1 hs2 htk hp1 hp2 hq1
        generalize linesOf ⟨#[]⟩ (l.take k) = acc at *
        generalize hac2 : linesOf ⟨#[]⟩ (l.take (k + 1)) = acc2 at *
        have HAC2 := Lib.hid hac2
        generalize ruStr r = rs at *
        clear hac2
        go_wp2_with (first
          | (go_at_call 8; refine HC.out.mono ?_; rintro e w1 ⟨rfl, hb1⟩; have HB1 := Lib.hid (HB.out.trans (hb1.mono HB.out.size)); clear hb1; have z0 := HBX.out w1 HB1.out; obtain ⟨e0, e1, e2, e3, e4, e5, e6⟩ := HCE.out w1 (HB0.out.trans (HB1.out.mono HB0.out.size)))
          | (go_at_call 53; refine (HRT.out w1 (HB0.out.trans (HB1.out.mono HB0.out.size))).mono ?_; rintro e w2 ⟨rfl, hb2⟩; have HB2 := Lib.hid (HB1.out.trans (hb2.mono HB1.out.size)); clear hb2))
        go_roundw
        case rel => exact ⟨k + 1, by omega, by rw [HAC2.out], by go_num, HB2⟩
        case measure => simp [intOf]; omega
      · have hE2 : linesOf ⟨#[]⟩ (l.take k) = R := by rw [HE.out, List.take_of_length_le (by rw [← HM.out]; omega)]
        rw [hE2]
        clear hE2
        go_wp2
        go_ret
        exact ⟨rfl, HL.out⟩
end Go.Proofs.YtmndlhbgacgnlaaGreat
