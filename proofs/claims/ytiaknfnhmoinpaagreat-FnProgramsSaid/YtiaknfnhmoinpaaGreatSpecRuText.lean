/- A part of the proof of the seat's statement: SpecRuText. Condition: as each says. -/
import Derived.Test.YtiaknfnhmoinpaaGreatOwnConcat
import Derived.Test.YtiaknfnhmoinpaaGreatDrawOnce
import Derived.Test.YtiaknfnhmoinpaaGreatNames
import Derived.ProofKit
import Derived.OpenShut
import Derived.Lib.SmallJoins
import Derived.Deep.Fields
import Derived.Test.YtiaknfnhmoinpaaGreatParts
import Derived.Test.YtiaknfnhmoinpaaGreatRows
import Derived.Test.YtiaknfnhmoinpaaGreatRuHead
import Derived.Test.YtiaknfnhmoinpaaGreatAppStrs
import Derived.Lib.QuietBelow
set_option maxHeartbeats 8000000
namespace Go.Proofs.YtiaknfnhmoinpaaGreat
open Go Go.RowKit
theorem names_snoc (L : List Ex) (k : Nat) (e : Ex) (h : L[k]? = some e) : (L.take (k + 1)).map Ex.name = (L.take k).map Ex.name ++ [e.name] := by
 obtain ⟨h1, h2⟩ := List.getElem?_eq_some_iff.1 h
 rw [List.take_succ_eq_append_getElem h1, h2, List.map_append]; rfl
theorem l6names_any (L : List Ex) (A : Option Addr) (m c : Nat) (bs : List Nat) (w : World) (hu : SlIs w (.slice A m c) L bs) (hm : m ≤ 1048576) :
 Calls Tryz.prog 101 #[.slice A m c] w (StrsPost (L.map Ex.name) w) := by
 have HU := zH hu
 have HM := zH hu.len.1
 have hmi : (m : Int) ≤ 1048576 := by omega
 have H0 := zH (show OwnsL w.heap.size (w.alloc (.cells #[] 9)) (.slice (some ⟨w.heap.size, 0, none⟩) 0 0) ((L.take 0).map Ex.name) from World.ownsRow_lit w #[] 0 (nR _) (by unfold maxLen; omega) rfl)
 have HB0 := zH ((wB w.heap.size w).alloc (nR _) (.cells #[] 9))
 clear hu
 go_enter Tryz.func101, Tryz.ntmps101
 go_wp2_with fail
 go_loopw [3, 4] (fun v i wr => ∃ (k : Nat), k ≤ m ∧ i = .int .i64 (k : Int) ∧ Hid (OwnsL w.heap.size wr v ((L.take k).map Ex.name)) ∧ Hid (Below w.heap.size w wr)) (fun _ i _ => m - (intOf i).toNat)
 case atStart => exact ⟨0, Nat.zero_le _, rfl, H0, HB0⟩
 case round =>
  obtain ⟨k, hk, rfl, HO, HB⟩ := hrel
  by_cases hlt : k < m
  · obtain ⟨g, o, e1, u, b1, rfl, hbl, hget, hmem, c0, c1, c2, his, -⟩ := (HU.out.below HB.out).get k (by rw [← HM.out]; exact hlt)
    have HT := zH (names_snoc L k e1 hget)
    have HLE := zH (show ((L.take k).map Ex.name).length = k by rw [List.length_map, List.length_take, ← HM.out]; omega)
    have HO2 := zH (show OwnsL w.heap.size (wr.alloc (.cells #[.string e1.name] 9)) u3 ((L.take k).map Ex.name) from World.ownsRow.alloc HO.out _)
    have HB2 := zH (HB.out.alloc HB.out.size (.cells #[.string e1.name] 9))
    have HONE := zH (strs_one wr e1.name)
    have hk0 : (0 : Int) ≤ (k : Int) := by omega
    have hkn : (k : Int) < (m : Int) := by omega
    clear hget hmem his hbl
    go_wp2_with (at_builtin; (refine wpList_append_strs rfl (.tmp 12) (.tmp 18) rfl w.heap.size u3 ((L.take k).map Ex.name) rfl HO2.out (some ⟨wr.heap.size, 0, none⟩) [e1.name] 1 rfl HONE.out (by have := HLE.out; simp; omega) HB2.out.size ?_); intro v7 w7 ho7 hg7; have HO7 := zH ho7; have HB7 := zH (OwnsL.grown HB2.out HO2.out hg7); clear ho7 hg7)
    rw [← HT.out] at HO7
    go_roundw
    case rel => exact ⟨k + 1, by omega, by go_num, HO7, HB7⟩
    case measure => simp [intOf]; omega
  have hall : L.take k = L := List.take_of_length_le (by rw [← HM.out]; omega)
  rw [hall] at HO
  go_wp2
  go_ret
  exact ⟨_, rfl, HO.out, HB.out⟩
end Go.Proofs.YtiaknfnhmoinpaaGreat
namespace Go.Proofs.YtiaknfnhmoinpaaGreat
open Go Go.ChangeShapes Go.WideShapes Go.ChangeAt Go.RowKit Go.Deep Go.Joins
open Go Go.RowKit
end Go.Proofs.YtiaknfnhmoinpaaGreat
namespace Go.Proofs.YtiaknfnhmoinpaaGreat
open Go Go.RowKit Go.Sort
theorem rt_end {W0 W : World} {v : Value} {xs : List ByteArray} (ho : OwnsL W0.heap.size W v xs) : ∃ A c, v = .slice A xs.length c ∧ xs.length ≤ c ∧ Strs W A xs := by
 obtain ⟨A8, c8, rfl, hst⟩ := ho.shape
 refine ⟨A8, c8, rfl, ?_, hst⟩
 rcases ho.2 with ⟨h0, -⟩ | ⟨g, cap, cur, h0, -, -, hn, -⟩
 · simp only [Value.slice.injEq] at h0; omega
 simp only [Value.slice.injEq] at h0; omega
end Go.Proofs.YtiaknfnhmoinpaaGreat
namespace Go.Proofs.YtiaknfnhmoinpaaGreat
open Go Go.RowKit Go.Sort
def joinStr (xs : List ByteArray) : ByteArray := ⟨(Lib.join (listsS xs) [44]).toArray⟩
theorem joinStr_size {xs : List ByteArray} (ht : totS xs + xs.length ≤ 2097152) : (joinStr xs).size ≤ 4398046511104 := by
 have h1 := joined_le xs ⟨#[44]⟩ xs.length (nR _) ht (by decide)
 rw [List.take_length] at h1
 have h9 : (joinStr xs).size = (Lib.join (listsS xs) [44]).length := by show (List.toArray _).size = _; simp
 rw [h9]; exact h1
theorem join_spec (A : Option Addr) (xs : List ByteArray) (c : Nat) (w : World) (hs : Strs w A xs) (ht : totS xs + xs.length ≤ 2097152) : Calls Tryz.prog 109 #[.slice A xs.length c, .string ⟨#[44]⟩] w (RetPost (.string (joinStr xs)) w) :=
 spec_join A xs c ⟨#[44]⟩ w hs ht (by decide)
theorem OwnsL.on {B : Nat} {w w2 : World} {v : Value} {xs : List ByteArray} (h : OwnsL B w v xs) (hb : Below w.heap.size w w2) : OwnsL B w2 v xs := row_on h (fun g e => hb.block g (h.lt g e).2)
theorem par_join (a : ByteArray) (xs : List ByteArray) (t : ByteArray) : ((a ++ ⟨#[40]⟩) ++ joinStr xs) ++ (⟨#[41]⟩ ++ t) = (a ++ parS xs) ++ t := by
 apply ByteArray.ext
 simp [ByteArray.data_append, parS, joinStr]
set_option maxRecDepth 100000 in
theorem spec_rutext (r : Ru) (v : Value) (b : List Nat) (w : World) (hv : RuIs w v r b) (hz : ruTot r ≤ 1048576) :
 Calls Tryz.prog 102 #[v] w (RetPost (.string (ruStr r)) w) := by
 obtain ⟨v1, v2, u, b1, b2, b3, rfl, h1, h2, rfl, h3, h4, h5⟩ := hv
 obtain ⟨A1, c1, rfl⟩ := h3.slice
 obtain ⟨A2, c2, rfl⟩ := h4.slice
 obtain ⟨A3, q3, c3, rfl⟩ := his_slice0 h5
 obtain ⟨-, hc1, hc2, hs1, -⟩ := h3.strs
 obtain ⟨-, hc3, hc4, hs2, -⟩ := h4.strs
 have hl : r.vars.length ≤ 1048576 ∧ r.params.length ≤ 1048576 := by unfold ruTot ssTot at hz; omega
 have HL := zH hl
 have HZ := zH hz
 have HH := zH h5
 obtain ⟨W0, hW0⟩ : ∃ W0, W0 = w.alloc (.cells #[.string r.name, .string r.con, .slice A1 r.vars.length c1, .slice A2 r.params.length c2, .int .i64 r.body.kind, .string r.body.name, .slice A3 q3 c3] 34) := ⟨_, rfl⟩
 have hlow : Below w.heap.size w W0 := by rw [hW0]; exact (wB _ w).alloc (nR _) _
 have hbx : Box7 W0 w.heap.size 34 (.string r.name) (.string r.con) (.slice A1 r.vars.length c1) (.slice A2 r.params.length c2) (.int .i64 r.body.kind) (.string r.body.name) (.slice A3 q3 c3) := by rw [hW0]; exact heap_alloc_new w _
 have HLW := zH hlow
 have HBX := zH (fun (W : World) (hb : Below W0.heap.size W0 W) => (show Box7 W w.heap.size 34 (.string r.name) (.string r.con) (.slice A1 r.vars.length c1) (.slice A2 r.params.length c2) (.int .i64 r.body.kind) (.string r.body.name) (.slice A3 q3 c3) from (hb.block _ hbx.lt).trans hbx).cells)
 have HS1 := zH (fun (W : World) (hb : Below W0.heap.size W0 W) => (hs1.below hlow).below hb)
 have HS2 := zH (fun (W : World) (hb : Below W0.heap.size W0 W) => (hs2.below hlow).below hb)
 have HW0 := zH hW0
 have hsz : W0.heap.size = w.heap.size + 1 := by rw [hW0]; simp
 have HSZ := zH hsz
 have HMK := zH (show Below W0.heap.size W0 (W0.alloc (.cells #[] 9)) ∧ OwnsL W0.heap.size (W0.alloc (.cells #[] 9)) (.slice (some ⟨w.heap.size + 1, 0, none⟩) 0 0) [] from ⟨(wB _ _).alloc (nR _) _, by rw [← hsz]; exact World.ownsRow_lit W0 #[] 0 (nR _) (by unfold maxLen; omega) rfl⟩)
 clear hl hz h3 h4 h5 hs1 hs2 hW0 hlow hbx hc1 hc3 hsz
 have HFIN : Hid (∀ (W : World) (A8 : Option Addr) (c8 : Nat), Below W0.heap.size W0 W → Strs W A8 (argTexts r) → ∀ (d : Nat) (os : Array Obj), Calls Tryz.prog 109 #[.slice A8 (argTexts r).length c8, .string ⟨#[44]⟩] (grow (redrawn W d) os) fun e w' => e = .returned (.string (joinStr (argTexts r))) ∧ ∃ p : Regrown, w' = grow (redrawn W p.d) p.os) :=
  zH (fun W A8 c8 hb hst d os => Calls.regrown_of ((join_spec A8 (argTexts r) c8 (grow (redrawn W d) os) (hst.below (below_regrown W d os)) (argTexts_le HZ.out)).mono (fun _ _ h => h)))
 have HEXP : Hid (∀ (W : World), Below W0.heap.size W0 W → ∀ (d : Nat) (os : Array Obj), Calls Tryz.prog 108 #[.agg #[.int .i64 r.body.kind, .string r.body.name, .slice A3 q3 c3]] (grow (redrawn W d) os) fun e w' => e = .returned (.string (exFmt r.body)) ∧ ∃ p : Regrown, w' = grow (redrawn W p.d) p.os) :=
  zH (fun W hb d os => Calls.regrown_of ((format_any r.body _ b3 (grow (redrawn W d) os) (((HH.out.below HLW.out).below hb).below (below_regrown W d os)) (by have := HZ.out; unfold ruTot at this; omega)).mono (fun _ _ h => h)))
 have hps := joinStr_size (argTexts_le HZ.out)
 have hns : r.name.size ≤ 1048576 := by have := HZ.out; unfold ruTot at this; omega
 have hes := exFmt_size r.body
 obtain ⟨p1, hp1⟩ : ∃ x : ByteArray, x = r.name ++ ⟨#[40]⟩ := ⟨_, rfl⟩
 obtain ⟨p2, hp2⟩ : ∃ x : ByteArray, x = p1 ++ joinStr (argTexts r) := ⟨_, rfl⟩
 obtain ⟨p3, hp3⟩ : ∃ x : ByteArray, x = p2 ++ ⟨#[41, 32, 61, 32]⟩ := ⟨_, rfl⟩
 obtain ⟨p4, hp4⟩ : ∃ x : ByteArray, x = p3 ++ exFmt r.body := ⟨_, rfl⟩
 have hq1 : p1.size = r.name.size + 1 := by rw [hp1]; exact ByteArray.size_append
 have hq2 : p2.size = p1.size + (joinStr (argTexts r)).size := by rw [hp2]; exact ByteArray.size_append
 have hq3 : p3.size = p2.size + 4 := by rw [hp3]; exact ByteArray.size_append
 have hA1 : ∀ W, (Op.stringOp .add r.name ⟨#[40]⟩).run Tryz.prog W = .ok (.string p1) W := fun W => by
  rw [hp1]; exact run_string_add_sum W r.name ⟨#[40]⟩ (by show _ + 1 ≤ _; omega)
 have hA2 : ∀ W, (Op.stringOp .add p1 (joinStr (argTexts r))).run Tryz.prog W = .ok (.string p2) W := fun W => by
  rw [hp2]; exact run_string_add_sum W p1 (joinStr (argTexts r)) (by omega)
 have hA3 : ∀ W, (Op.stringOp .add p2 ⟨#[41, 32, 61, 32]⟩).run Tryz.prog W = .ok (.string p3) W := fun W => by
  rw [hp3]; exact run_string_add_sum W p2 ⟨#[41, 32, 61, 32]⟩ (by show _ + 4 ≤ _; omega)
 have hA4 : ∀ W, (Op.stringOp .add p3 (exFmt r.body)).run Tryz.prog W = .ok (.string p4) W := fun W => by
  rw [hp4]; exact run_string_add_sum W p3 (exFmt r.body) (by omega)
 have HRE := zH (show ruStr r = p4 by
  rw [hp4, hp3, hp2, hp1]
  unfold ruStr
  congr 1
  exact (par_join r.name (argTexts r) eqStr).symm)
 clear hps hns hes hq1 hq2 hq3 hp1 hp2 hp3 hp4
 have HAT := zH (argTexts_le HZ.out)
 by_cases hcon : r.con.size = 0
 · have HXS := zH (show argTexts r = [] ++ r.params by unfold argTexts; rw [if_pos hcon])
   have hbe := empty_yes hcon
   clear hcon
   go_enter Tryz.func102, Tryz.ntmps102
   go_wp2_with (at_builtin; rw [← HW0.out]; (refine wpList_append_strs rfl (.tmp 33) (.tmp 35) rfl W0.heap.size (.slice (some ⟨w.heap.size + 1, 0, none⟩) 0 0) [] rfl HMK.out.2 A2 r.params c2 rfl (HS2.out _ HMK.out.1) (by have := HL.out; simp; omega) HMK.out.1.size ?_); intro v8 w8 ho8 hg8; have HO8 := zH ho8; have HB8 := zH (OwnsL.grown HMK.out.1 HMK.out.2 hg8); clear ho8 hg8)
   rw [← HXS.out] at HO8
   obtain ⟨A8, c8, rfl, hc8, hst⟩ := rt_end HO8.out
   have hP := HFIN.out w8 A8 c8 HB8.out hst
   have hE := HEXP.out w8 HB8.out
   obtain ⟨y0, y1, y2, y3, y4, y5, y6⟩ := HBX.out w8 HB8.out
   have s0 := fun d os => cell_regrown y0 d os
   have s4 := fun d os => cell_regrown y4 d os
   have s5 := fun d os => cell_regrown y5 d os
   have s6 := fun d os => cell_regrown y6 d os
   generalize (argTexts r).length = my at *
   clear hst hc8
   refine wp_region_quiet_below (by kernel_rfl) (by kernel_rfl) ?_
   repeat (quiet_step (first | exact hP _ _ | exact hE _ _))
   refine wpQuiet_nil ?_
   intro _ hw'
   obtain ⟨⟨dq, osq⟩, hw''⟩ := hw'
   subst hw''
   have hlo := HLW.out.trans ((HB8.out.trans ((below_regrown w8 dq osq).mono HB8.out.size)).mono HLW.out.size)
   go_wp2
   go_ret
   exact ⟨by rw [HRE.out]; rfl, hlo⟩
 have HXS := zH (show argTexts r = ([] ++ [patStr r]) ++ r.params by unfold argTexts; rw [if_neg hcon]; rfl)
 have hbe := empty_not hcon
 clear hcon
 by_cases hv0 : r.vars.length = 0
 · have hvi : (r.vars.length : Int) ≤ 0 := by omega
   have hvj : decide ((0 : Int) < (r.vars.length : Int)) = false := decide_eq_false (by omega)
   have HPS := zH (show patStr r = r.con by unfold patStr; rw [if_pos hv0])
   have HM2 := zH (HMK.out.1.alloc HMK.out.1.size (.cells #[.string r.con] 9))
   have HO2 := zH (show OwnsL W0.heap.size ((W0.alloc (.cells #[] 9)).alloc (.cells #[.string r.con] 9)) (.slice (some ⟨w.heap.size + 1, 0, none⟩) 0 0) [] from World.ownsRow.alloc HMK.out.2 _)
   have HONE := zH (show Strs ((W0.alloc (.cells #[] 9)).alloc (.cells #[.string r.con] 9)) (some ⟨w.heap.size + 1 + 1, 0, none⟩) [r.con] from by
    have h9 := strs_one (W0.alloc (.cells #[] 9)) r.con
    rw [World.size_alloc, HSZ.out] at h9
    exact h9)
   rw [HPS.out] at HXS
   clear hv0
   go_enter Tryz.func102, Tryz.ntmps102
   go_wp2_with (first
    | (at_builtin; rw [← HW0.out]; (refine wpList_append_strs rfl (.tmp 28) (.tmp 31) rfl W0.heap.size (.slice (some ⟨w.heap.size + 1, 0, none⟩) 0 0) [] rfl HO2.out (some ⟨w.heap.size + 1 + 1, 0, none⟩) [r.con] 1 rfl HONE.out (by simp) HM2.out.size ?_); intro v7 w7 ho7 hg7; have HO7 := zH ho7; have HB7 := zH (OwnsL.grown HM2.out HO2.out hg7); clear ho7 hg7; obtain ⟨z0, z1, z2, z3, z4, z5, z6⟩ := HBX.out w7 HB7.out)
    | (at_builtin; (refine wpList_append_strs rfl (.tmp 33) (.tmp 35) rfl W0.heap.size v7 ([] ++ [r.con]) rfl HO7.out A2 r.params c2 rfl (HS2.out _ HB7.out) (by have := HL.out; simp; omega) HB7.out.size ?_); intro v8 w8 ho8 hg8; have HO8 := zH ho8; have HB8 := zH (OwnsL.grown HB7.out HO7.out hg8); clear ho8 hg8))
   rw [← HXS.out] at HO8
   obtain ⟨A8, c8, rfl, hc8, hst⟩ := rt_end HO8.out
   have hP := HFIN.out w8 A8 c8 HB8.out hst
   have hE := HEXP.out w8 HB8.out
   obtain ⟨y0, y1, y2, y3, y4, y5, y6⟩ := HBX.out w8 HB8.out
   have s0 := fun d os => cell_regrown y0 d os
   have s4 := fun d os => cell_regrown y4 d os
   have s5 := fun d os => cell_regrown y5 d os
   have s6 := fun d os => cell_regrown y6 d os
   generalize (argTexts r).length = my at *
   clear hst hc8
   refine wp_region_quiet_below (by kernel_rfl) (by kernel_rfl) ?_
   repeat (quiet_step (first | exact hP _ _ | exact hE _ _))
   refine wpQuiet_nil ?_
   intro _ hw'
   obtain ⟨⟨dq, osq⟩, hw''⟩ := hw'
   subst hw''
   have hlo := HLW.out.trans ((HB8.out.trans ((below_regrown w8 dq osq).mono HB8.out.size)).mono HLW.out.size)
   go_wp2
   go_ret
   exact ⟨by rw [HRE.out]; rfl, hlo⟩
 have hvi : (0 : Int) < (r.vars.length : Int) := by omega
 have HPS := zH (show patStr r = r.con ++ parS r.vars by unfold patStr; rw [if_neg hv0])
 have htv : totS r.vars + r.vars.length ≤ 2097152 := by have := HZ.out; unfold ruTot ssTot at this; rw [totS_totN]; omega
 have HJV := zH (fun (W : World) (hb : Below W0.heap.size W0 W) => join_spec A1 r.vars c1 W (HS1.out W hb) htv)
 have hjz := joinStr_size htv
 have hcs : r.con.size ≤ 1048576 := by have := HZ.out; unfold ruTot at this; omega
 obtain ⟨a1, ha1⟩ : ∃ x : ByteArray, x = r.con ++ ⟨#[40]⟩ := ⟨_, rfl⟩
 obtain ⟨a2, ha2⟩ : ∃ x : ByteArray, x = a1 ++ joinStr r.vars := ⟨_, rfl⟩
 obtain ⟨a3, ha3⟩ : ∃ x : ByteArray, x = a2 ++ ⟨#[41]⟩ := ⟨_, rfl⟩
 have hz1 : a1.size = r.con.size + 1 := by rw [ha1]; exact ByteArray.size_append
 have hz2 : a2.size = a1.size + (joinStr r.vars).size := by rw [ha2]; exact ByteArray.size_append
 have hB1 : ∀ W, (Op.stringOp .add r.con ⟨#[40]⟩).run Tryz.prog W = .ok (.string a1) W := fun W => by
  rw [ha1]; exact run_string_add_sum W r.con ⟨#[40]⟩ (by show _ + 1 ≤ _; omega)
 have hB2 : ∀ W, (Op.stringOp .add a1 (joinStr r.vars)).run Tryz.prog W = .ok (.string a2) W := fun W => by
  rw [ha2]; exact run_string_add_sum W a1 (joinStr r.vars) (by omega)
 have hB3 : ∀ W, (Op.stringOp .add a2 ⟨#[41]⟩).run Tryz.prog W = .ok (.string a3) W := fun W => by
  rw [ha3]; exact run_string_add_sum W a2 ⟨#[41]⟩ (by show _ + 1 ≤ _; omega)
 have HPE := zH (show patStr r = a3 by
  rw [HPS.out, ha3, ha2, ha1]
  apply ByteArray.ext
  simp [ByteArray.data_append, parS, joinStr])
 rw [HPE.out] at HXS
 clear hv0 htv hjz hcs ha1 ha2 ha3 hz1 hz2
 go_enter Tryz.func102, Tryz.ntmps102
 go_wp2_with fail
 rw [← HW0.out]
 obtain ⟨V0, hV0⟩ : ∃ V0, V0 = W0.alloc (.cells #[] 9) := ⟨_, rfl⟩
 rw [← hV0] at HMK ⊢
 clear hV0
 obtain ⟨x0, x1, x2, x3, x4, x5, x6⟩ := HBX.out V0 HMK.out.1
 go_region_law
  (first
  | (go_simp; go_at_call 109; refine (HJV.out V0.drew HMK.out.1.drew).mono ?_; rintro e w2 ⟨rfl, hb2⟩; have HB2 := zH (HMK.out.1.drew.trans (hb2.mono HMK.out.1.drew.size)); have HOJ := zH (show OwnsL W0.heap.size (w2.alloc (.cells #[.string a3] 9)) (.slice (some ⟨w.heap.size + 1, 0, none⟩) 0 0) [] from World.ownsRow.alloc (OwnsL.on (OwnsL.on HMK.out.2 (wB _ _).drew) hb2) _); have HBJ := zH (HB2.out.alloc HB2.out.size (.cells #[.string a3] 9)); have HONE := zH (strs_one w2 a3); clear hb2; obtain ⟨y0, y1, y2, y3, y4, y5, y6⟩ := HBX.out w2 HB2.out)
  | (refine step_append_strs (by rfl) (.tmp 14) (.tmp 23) (by rfl) W0.heap.size (.slice (some ⟨w.heap.size + 1, 0, none⟩) 0 0) [] (by rfl) HOJ.out (some ⟨w2.heap.size, 0, none⟩) [a3] 1 (by rfl) HONE.out (by simp) HBJ.out.size ?_; intro v7 w7 ho7 hg7; have HO7 := zH ho7; have HB7 := zH (OwnsL.grown HBJ.out HOJ.out hg7); clear ho7 hg7))
 all_goals
  obtain ⟨z0, z1, z2, z3, z4, z5, z6⟩ := HBX.out w7 HB7.out
  go_wp2_with (at_builtin; (refine wpList_append_strs rfl (.tmp 33) (.tmp 35) rfl W0.heap.size v7 ([] ++ [a3]) rfl HO7.out A2 r.params c2 rfl (HS2.out _ HB7.out) (by have := HL.out; simp; omega) HB7.out.size ?_); intro v8 w8 ho8 hg8; have HO8 := zH ho8; have HB8 := zH (OwnsL.grown HB7.out HO7.out hg8); clear ho8 hg8)
  rw [← HXS.out] at HO8
  obtain ⟨A8, c8, rfl, hc8, hst⟩ := rt_end HO8.out
  have hP := HFIN.out w8 A8 c8 HB8.out hst
  have hE := HEXP.out w8 HB8.out
  obtain ⟨y0, y1, y2, y3, y4, y5, y6⟩ := HBX.out w8 HB8.out
  have s0 := fun d os => cell_regrown y0 d os
  have s4 := fun d os => cell_regrown y4 d os
  have s5 := fun d os => cell_regrown y5 d os
  have s6 := fun d os => cell_regrown y6 d os
  generalize (argTexts r).length = my at *
  clear hst hc8
  refine wp_region_quiet_below (by kernel_rfl) (by kernel_rfl) ?_
  repeat (quiet_step (first | exact hP _ _ | exact hE _ _))
  refine wpQuiet_nil ?_
  intro _ hw'
  obtain ⟨⟨dq, osq⟩, hw''⟩ := hw'
  subst hw''
  have hlo := HLW.out.trans ((HB8.out.trans ((below_regrown w8 dq osq).mono HB8.out.size)).mono HLW.out.size)
  go_wp2
  go_ret
  exact ⟨by rw [HRE.out]; rfl, hlo⟩
end Go.Proofs.YtiaknfnhmoinpaaGreat
