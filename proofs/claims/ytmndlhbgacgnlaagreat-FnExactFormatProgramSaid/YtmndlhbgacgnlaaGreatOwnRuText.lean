/- The contract of the program's own Join. Conditions: at most 1048576 elements and bytes in all, and a separator of at most 1048576 bytes. The contracts of the program's own textOfPattern and FormatRule. Condition: nodes and letters of the rule together at most 1048576. -/
import Derived.Test.YtmndlhbgacgnlaaGreatOwnText
import Derived.Test.YtmndlhbgacgnlaaGreatExOpen
import Derived.Test.YtmndlhbgacgnlaaGreatShelf
import Derived.Test.YtmndlhbgacgnlaaGreatRuText
import Derived.Test.YtmndlhbgacgnlaaGreatRuLight
import Derived.Test.YtmndlhbgacgnlaaGreatAppStrs
import Derived.Lib.QuietBelow
namespace Go.Proofs.YtmndlhbgacgnlaaGreat
open Go Go.RowKit

theorem add_litJ (g o k : Nat) : (⟨g, o, none⟩ : Addr).add k = ⟨g, o + k, none⟩ := add_litO g o k

set_option maxHeartbeats 400000 in
theorem own_join : OwnJoin := by
  intro A xs c s w hs hc ht hsep
  have hlen := joined_le xs s xs.length (Nat.le_refl _) ht hsep
  rw [List.take_length] at hlen
  by_cases h0 : xs = []
  · subst h0
    have HP := Lib.hid (show JoinPost [] s w (.returned (.string ⟨#[]⟩)) w from ⟨rfl, Below.refl _ _⟩)
    have HA := Lib.hid (Tryz.strings_Join_none A c s w)
    clear hs hc ht hsep hlen
    show Calls Tryz.prog 112 #[.slice A 0 c, .string s] w _
    go_enter Tryz.func112, Tryz.ntmps112
    go_wp2_with (go_at_call 129; refine HA.out.mono ?_; rintro e w' ⟨rfl, hb⟩; rw [hb])
    go_ret
    exact HP.out
  · have hl : 0 < xs.length := List.length_pos_iff.2 h0
    obtain ⟨a, rfl, hcell, -⟩ := hs.at_ 0 hl
    obtain ⟨g, o, hgo, hlt⟩ : ∃ g o, a = ⟨g, o, none⟩ ∧ g < w.heap.size := by
      have hz : a.add 0 = a := by
        obtain ⟨b, o, q⟩ := a
        unfold Addr.add
        split <;> simp_all
      rw [hz] at hcell
      have h := spot_none hcell
      exact ⟨_, _, h.1, h.2⟩
    subst hgo
    have HA := Lib.hid (Tryz.strings_Join g o c xs s w (fun j x hx => by
      obtain ⟨a, e, hcell, -⟩ := hs j x hx
      obtain rfl := Option.some.inj e
      rw [add_litJ] at hcell
      exact hcell) hlt (by omega) hc (by unfold listsS at hlen; omega))
    clear hs hlt hc ht hsep hlen hcell hl h0
    go_enter Tryz.func112, Tryz.ntmps112
    go_wp2_with (go_at_call 129; refine HA.out.mono ?_; rintro e w' ⟨rfl, hb⟩)
    go_ret
    exact ⟨rfl, hb⟩
theorem own_format_any : ∀ (e : Ex) (v : Value) (bs : List Nat) (W : World), ExIs W v e bs → exTot e ≤ 1048576 → Calls Tryz.prog 83 #[v] W (RetPost (.string (exFmt e)) W) :=
  fun e v bs W hv hb => own_format own_join e v bs W hv (by have := (tot_size (exSize e)).1 e (Nat.le_refl _); omega)
end Go.Proofs.YtmndlhbgacgnlaaGreat

namespace Go.Proofs.YtmndlhbgacgnlaaGreat
open Go Go.RowKit Go.Sort

set_option maxHeartbeats 1000000 in
theorem own_pat (r : Ru) (A : Option Addr) (c : Nat) (w : World) (hs : Strs w A r.vars) (hc : r.vars.length ≤ c) (hz : ruTot r ≤ 1048576) :
    Calls Tryz.prog 81 #[.string r.con, .slice A r.vars.length c] w (RetPost (.string (patStr r)) w) := by
  have ht : totS r.vars + r.vars.length ≤ 2097152 := by unfold ruTot ssTot at hz; rw [totS_totN]; omega
  have HP := Lib.hid (own_inpar own_join A r.vars c w hs hc ht)
  have hps := parS_size r.vars
  have HE := Lib.hid (show patStr r = if r.vars.length = 0 then r.con else r.con ++ parS r.vars from rfl)
  obtain ⟨p, hp⟩ : ∃ x : ByteArray, x = r.con ++ parS r.vars := ⟨_, rfl⟩
  have hA1 : ∀ W, (Op.stringOp .add r.con (parS r.vars)).run Tryz.prog W = .ok (.string p) W := fun W => by
    rw [hp]; exact run_string_add_sum W r.con (parS r.vars) (by unfold ruTot at hz; omega)
  rw [← hp] at HE
  generalize parS r.vars = P at *
  generalize r.vars.length = m at *
  clear hs hc hz ht hps hp
  by_cases h0 : m = 0
  · subst h0
    go_enter Tryz.func81, Tryz.ntmps81
    go_wp2_with fail
    go_ret
    exact ⟨by rw [HE.out]; rfl, Below.refl _ _⟩
  · have hz : ((m : Int) == 0) = false := by simpa using h0
    rw [if_neg h0] at HE
    clear h0
    go_enter Tryz.func81, Tryz.ntmps81
    go_wp2_with (go_at_call 82; refine HP.out.mono ?_; rintro e w1 ⟨rfl, hb1⟩; have HB1 := Lib.hid hb1; clear hb1)
    go_ret
    exact ⟨by rw [HE.out]; rfl, HB1.out⟩

/-- What is known when the texts of the arguments are at hand. -/
theorem rt_end {W0 W : World} {v : Value} {xs : List ByteArray} (ho : OwnsL W0.heap.size W v xs) : ∃ A c, v = .slice A xs.length c ∧ xs.length ≤ c ∧ Strs W A xs := by
  obtain ⟨A8, c8, rfl, hst⟩ := ho.shape
  refine ⟨A8, c8, rfl, ?_, hst⟩
  rcases ho.2 with ⟨h0, -⟩ | ⟨g, cap, cur, h0, -, -, hn, -⟩
  · simp only [Value.slice.injEq] at h0; omega
  · simp only [Value.slice.injEq] at h0; omega

set_option maxRecDepth 100000 in
set_option maxHeartbeats 4000000 in
theorem own_rutext (r : Ru) (v : Value) (b : List Nat) (w : World) (hv : RuIs w v r b) (hz : ruTot r ≤ 1048576) :
    Calls Tryz.prog 55 #[v] w (RetPost (.string (ruStr r)) w) := by
  obtain ⟨v1, v2, u, b1, b2, b3, rfl, h1, h2, rfl, h3, h4, h5⟩ := hv
  obtain ⟨A1, c1, rfl⟩ := h3.slice
  obtain ⟨A2, c2, rfl⟩ := h4.slice
  obtain ⟨A3, q3, c3, rfl⟩ := his_slice0 h5
  obtain ⟨-, hc1, hc2, hs1, -⟩ := h3.strs
  obtain ⟨-, hc3, hc4, hs2, -⟩ := h4.strs
  have hl : r.vars.length ≤ 1048576 ∧ r.params.length ≤ 1048576 := by unfold ruTot ssTot at hz; omega
  have HL := Lib.hid hl
  have HZ := Lib.hid hz
  have HH := Lib.hid h5
  have HC1 := Lib.hid hc1
  have HK := Lib.hid (fun (W : World) => flat_kind r.name r.con r.body.name A1 A2 A3 r.vars.length c1 r.params.length c2 q3 c3 r.body.kind W)
  have HR := Lib.hid (show ruStr r = ((r.name ++ parS (argTexts r)) ++ eqStr) ++ exFmt r.body from rfl)
  obtain ⟨W0, hW0⟩ : ∃ W0, W0 = w.alloc (.cells #[.string r.name, .string r.con, .slice A1 r.vars.length c1, .slice A2 r.params.length c2, .int .i64 r.body.kind, .string r.body.name, .slice A3 q3 c3] 34) := ⟨_, rfl⟩
  have hlow : Below w.heap.size w W0 := by rw [hW0]; exact (Below.refl _ w).alloc (Nat.le_refl _) _
  have hbx : Box7 W0 w.heap.size 34 (.string r.name) (.string r.con) (.slice A1 r.vars.length c1) (.slice A2 r.params.length c2) (.int .i64 r.body.kind) (.string r.body.name) (.slice A3 q3 c3) := by rw [hW0]; exact heap_alloc_new w _
  have HLW := Lib.hid hlow
  have HBX := Lib.hid (fun (W : World) (hb : Below W0.heap.size W0 W) => (show Box7 W w.heap.size 34 (.string r.name) (.string r.con) (.slice A1 r.vars.length c1) (.slice A2 r.params.length c2) (.int .i64 r.body.kind) (.string r.body.name) (.slice A3 q3 c3) from (hb.block _ hbx.lt).trans hbx).cells)
  have HS1 := Lib.hid (fun (W : World) (hb : Below W0.heap.size W0 W) => (hs1.below hlow).below hb)
  have HS2 := Lib.hid (fun (W : World) (hb : Below W0.heap.size W0 W) => (hs2.below hlow).below hb)
  have HW0 := Lib.hid hW0
  clear hl hz h3 h4 h5 hs1 hs2 hW0 hlow hbx hc1 hc3
  -- the last region, for both ways
  have HFIN : Hid (∀ (W : World) (A8 : Option Addr) (c8 : Nat), Below W0.heap.size W0 W → (argTexts r).length ≤ c8 → Strs W A8 (argTexts r) → ∀ (d : Nat) (os : Array Obj), Calls Tryz.prog 82 #[.slice A8 (argTexts r).length c8] (grow (redrawn W d) os) fun e w' => e = .returned (.string (parS (argTexts r))) ∧ ∃ p : Regrown, w' = grow (redrawn W p.d) p.os) :=
    Lib.hid (fun W A8 c8 hb hc hst d os => Calls.regrown_of ((own_inpar own_join A8 (argTexts r) c8 (grow (redrawn W d) os) (hst.below (below_regrown W d os)) hc (argTexts_le HZ.out)).mono (fun _ _ h => h)))
  have HEXP : Hid (∀ (W : World), Below W0.heap.size W0 W → ∀ (d : Nat) (os : Array Obj), Calls Tryz.prog 83 #[.agg #[.int .i64 r.body.kind, .string r.body.name, .slice A3 q3 c3]] (grow (redrawn W d) os) fun e w' => e = .returned (.string (exFmt r.body)) ∧ ∃ p : Regrown, w' = grow (redrawn W p.d) p.os) :=
    Lib.hid (fun W hb d os => Calls.regrown_of ((own_format_any r.body _ b3 (grow (redrawn W d) os) (((HH.out.below HLW.out).below hb).below (below_regrown W d os)) (by have := HZ.out; unfold ruTot at this; omega)).mono (fun _ _ h => h)))
  have hps := parS_size (argTexts r)
  have hat := argTexts_le HZ.out
  have hns : r.name.size ≤ 1048576 := by have := HZ.out; unfold ruTot at this; omega
  have hes := exFmt_size r.body
  obtain ⟨p1, hp1⟩ : ∃ x : ByteArray, x = r.name ++ parS (argTexts r) := ⟨_, rfl⟩
  obtain ⟨p2, hp2⟩ : ∃ x : ByteArray, x = p1 ++ eqStr := ⟨_, rfl⟩
  obtain ⟨p3, hp3⟩ : ∃ x : ByteArray, x = p2 ++ exFmt r.body := ⟨_, rfl⟩
  have hq1 : p1.size = r.name.size + (parS (argTexts r)).size := by rw [hp1]; exact ByteArray.size_append
  have hq2 : p2.size = p1.size + 3 := by rw [hp2]; exact ByteArray.size_append
  have hA1 : ∀ W, (Op.stringOp .add r.name (parS (argTexts r))).run Tryz.prog W = .ok (.string p1) W := fun W => by
    rw [hp1]; exact run_string_add_sum W r.name (parS (argTexts r)) (by omega)
  have hA2 : ∀ W, (Op.stringOp .add p1 ⟨#[32, 61, 32]⟩).run Tryz.prog W = .ok (.string p2) W := fun W => by
    rw [hp2]; exact run_string_add_sum W p1 ⟨#[32, 61, 32]⟩ (by show _ + 3 ≤ _; omega)
  have hA3 : ∀ W, (Op.stringOp .add p2 (exFmt r.body)).run Tryz.prog W = .ok (.string p3) W := fun W => by
    rw [hp3]; exact run_string_add_sum W p2 (exFmt r.body) (by omega)
  have HRE := Lib.hid (show ruStr r = p3 by rw [HR.out, hp3, hp2, hp1])
  clear hps hns hes hq1 hq2 hp1 hp2 hp3 HR
  have HAT := Lib.hid hat
  clear hat
  by_cases hcon : r.con.size = 0
  · have HXS := Lib.hid (show argTexts r = [] ++ r.params by unfold argTexts; rw [if_pos hcon])
    have HKI := Lib.hid (show kindS r.con = 1 by unfold kindS; rw [if_pos hcon])
    have HO0 := Lib.hid (fun (W : World) => (World.ownsRow_nil W W0.heap.size 9 1 : OwnsL W0.heap.size W (.slice none 0 0) []))
    clear hcon
    go_enter Tryz.func55, Tryz.ntmps55
    go_wp2_with fail
    rw [← HW0.out]
    go_at_call 37
    refine (HK.out W0).mono ?_
    rintro e w1 ⟨rfl, hb1⟩
    rw [HKI.out]
    have HB1 := Lib.hid hb1
    clear hb1
    obtain ⟨x0, x1, x2, x3, x4, x5, x6⟩ := HBX.out w1 HB1.out
    go_wp2_with (at_builtin; (refine wpList_append_strs rfl (.tmp 15) (.tmp 17) rfl W0.heap.size (.slice none 0 0) [] rfl (HO0.out w1) A2 r.params c2 rfl (HS2.out w1 HB1.out) (by have := HL.out; simp; omega) HB1.out.size ?_); intro v8 w8 ho8 hg8; have HO8 := Lib.hid ho8; have HB8 := Lib.hid (HB1.out.grown hg8 HB1.out.size (fun k hk => by cases hk)); clear ho8 hg8)
    rw [← HXS.out] at HO8
    obtain ⟨A8, c8, rfl, hc8, hst⟩ := rt_end HO8.out
    have hP := HFIN.out w8 A8 c8 HB8.out hc8 hst
    have hE := HEXP.out w8 HB8.out
    obtain ⟨y0, y1, y2, y3, y4, y5, y6⟩ := HBX.out w8 HB8.out
    have s0 := fun d os => cell_regrown y0 d os
    have s4 := fun d os => cell_regrown y4 d os
    have s5 := fun d os => cell_regrown y5 d os
    have s6 := fun d os => cell_regrown y6 d os
    generalize (argTexts r).length = my at *
    clear hst hc8
    refine wp_region_quiet_below (by kernel_rfl) (by kernel_rfl) ?_
    repeat (quiet_step (first | exact hP _ _ | exact hE _ _))
    refine wpQuiet_nil ?_
    intro _ hw'
    obtain ⟨⟨dq, osq⟩, hw''⟩ := hw'
    subst hw''
    have hlo := HLW.out.trans ((HB8.out.trans ((below_regrown w8 dq osq).mono HB8.out.size)).mono HLW.out.size)
    go_wp2
    go_ret
    exact ⟨by rw [HRE.out]; rfl, hlo⟩
  · have HXS := Lib.hid (show argTexts r = ([] ++ [patStr r]) ++ r.params by unfold argTexts; rw [if_neg hcon]; rfl)
    have HKI := Lib.hid (show kindS r.con = 2 by unfold kindS; rw [if_neg hcon])
    have HO0 := Lib.hid (fun (W : World) => (World.ownsRow_nil W W0.heap.size 9 1 : OwnsL W0.heap.size W (.slice none 0 0) []))
    have HPAT := Lib.hid (fun (W : World) (hb : Below W0.heap.size W0 W) => own_pat r A1 c1 W (HS1.out W hb) HC1.out HZ.out)
    clear hcon
    go_enter Tryz.func55, Tryz.ntmps55
    go_wp2_with fail
    rw [← HW0.out]
    go_at_call 37
    refine (HK.out W0).mono ?_
    rintro e w1 ⟨rfl, hb1⟩
    rw [HKI.out]
    have HB1 := Lib.hid hb1
    clear hb1
    obtain ⟨x0, x1, x2, x3, x4, x5, x6⟩ := HBX.out w1 HB1.out
    go_wp2_with (first
      | (go_at_call 81; refine (HPAT.out w1 HB1.out).mono ?_; rintro e w2 ⟨rfl, hb2⟩; have HB2 := Lib.hid (HB1.out.trans (hb2.mono HB1.out.size)); have HB2a := Lib.hid (HB2.out.alloc HB2.out.size (.cells #[.string (patStr r)] 9)); have HONE := Lib.hid (strs_one w2 (patStr r)); clear hb2)
      | (at_builtin; (refine wpList_append_strs rfl (.tmp 7) (.tmp 13) rfl W0.heap.size (.slice none 0 0) [] rfl (HO0.out _) (some ⟨w2.heap.size, 0, none⟩) [patStr r] 1 rfl HONE.out (by simp) HB2a.out.size ?_); intro v7 w7 ho7 hg7; have HO7 := Lib.hid ho7; have HB7 := Lib.hid (HB2a.out.grown hg7 HB2a.out.size (fun k hk => by cases hk)); clear ho7 hg7; obtain ⟨z0, z1, z2, z3, z4, z5, z6⟩ := HBX.out w7 HB7.out)
      | (at_builtin; (refine wpList_append_strs rfl (.tmp 15) (.tmp 17) rfl W0.heap.size v7 ([] ++ [patStr r]) rfl HO7.out A2 r.params c2 rfl (HS2.out w7 HB7.out) (by have := HL.out; simp; omega) HB7.out.size ?_); intro v8 w8 ho8 hg8; have HO8 := Lib.hid ho8; have HB8 := Lib.hid (OwnsL.grown HB7.out HO7.out hg8); clear ho8 hg8))
    rw [← HXS.out] at HO8
    obtain ⟨A8, c8, rfl, hc8, hst⟩ := rt_end HO8.out
    have hP := HFIN.out w8 A8 c8 HB8.out hc8 hst
    have hE := HEXP.out w8 HB8.out
    obtain ⟨y0, y1, y2, y3, y4, y5, y6⟩ := HBX.out w8 HB8.out
    have s0 := fun d os => cell_regrown y0 d os
    have s4 := fun d os => cell_regrown y4 d os
    have s5 := fun d os => cell_regrown y5 d os
    have s6 := fun d os => cell_regrown y6 d os
    generalize (argTexts r).length = my at *
    clear hst hc8
    refine wp_region_quiet_below (by kernel_rfl) (by kernel_rfl) ?_
    repeat (quiet_step (first | exact hP _ _ | exact hE _ _))
    refine wpQuiet_nil ?_
    intro _ hw'
    obtain ⟨⟨dq, osq⟩, hw''⟩ := hw'
    subst hw''
    have hlo := HLW.out.trans ((HB8.out.trans ((below_regrown w8 dq osq).mono HB8.out.size)).mono HLW.out.size)
    go_wp2
    go_ret
    exact ⟨by rw [HRE.out]; rfl, hlo⟩
end Go.Proofs.YtmndlhbgacgnlaaGreat
