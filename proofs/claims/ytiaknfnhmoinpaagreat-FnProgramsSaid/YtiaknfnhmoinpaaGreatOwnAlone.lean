/- A part of the proof of the seat's statement: OwnAlone. Condition: as each says. -/
import Derived.Test.YtiaknfnhmoinpaaGreatOwnConcat
import Derived.Test.YtiaknfnhmoinpaaGreatOwnUnite
import Derived.Test.YtiaknfnhmoinpaaGreatOwnSize
import Derived.Test.YtiaknfnhmoinpaaGreatOwnVars
import Derived.Test.YtiaknfnhmoinpaaGreatParts
import Derived.Test.YtiaknfnhmoinpaaGreatValidEq
set_option maxHeartbeats 8000000
namespace Go.Proofs.YtiaknfnhmoinpaaGreat
open Go Go.RowKit
structure Opened (r : Ru) (w W0 : World) (A1 A2 A3 : Option Addr) (c1 c2 q3 c3 : Nat) (b3 : List Nat) : Prop where
 world : W0 = w.alloc (.cells #[.string r.name, .string r.con, .slice A1 r.vars.length c1, .slice A2 r.params.length c2, .int .i64 r.body.kind, .string r.body.name, .slice A3 q3 c3] 34)
 low : Below w.heap.size w W0
 box : ∀ W, Below W0.heap.size W0 W → W.cell? ⟨w.heap.size, 0, none⟩ = some (.string r.name) ∧ W.cell? ⟨w.heap.size, 1, none⟩ = some (.string r.con) ∧ W.cell? ⟨w.heap.size, 2, none⟩ = some (.slice A1 r.vars.length c1) ∧ W.cell? ⟨w.heap.size, 3, none⟩ = some (.slice A2 r.params.length c2) ∧ W.cell? ⟨w.heap.size, 4, none⟩ = some (.int .i64 r.body.kind) ∧ W.cell? ⟨w.heap.size, 5, none⟩ = some (.string r.body.name) ∧ W.cell? ⟨w.heap.size, 6, none⟩ = some (.slice A3 q3 c3)
 s1 : ∀ W, Below W0.heap.size W0 W → Strs W A1 r.vars
 s2 : ∀ W, Below W0.heap.size W0 W → Strs W A2 r.params
 bd : ∀ W, Below W0.heap.size W0 W → ExIs W (.agg #[.int .i64 r.body.kind, .string r.body.name, .slice A3 q3 c3]) r.body b3
theorem ru_opened {r : Ru} {v : Value} {b : List Nat} {w : World} (hv : RuIs w v r b) : ∃ A1 A2 A3 c1 c2 q3 c3 b3, v = .agg #[.string r.name, .string r.con, .slice A1 r.vars.length c1, .slice A2 r.params.length c2, .int .i64 r.body.kind, .string r.body.name, .slice A3 q3 c3] ∧
 Opened r w (w.alloc (.cells #[.string r.name, .string r.con, .slice A1 r.vars.length c1, .slice A2 r.params.length c2, .int .i64 r.body.kind, .string r.body.name, .slice A3 q3 c3] 34)) A1 A2 A3 c1 c2 q3 c3 b3 := by
 obtain ⟨v1, v2, u, b1, b2, b3, rfl, h1, h2, rfl, h3, h4, h5⟩ := hv
 obtain ⟨A1, c1, rfl⟩ := h3.slice
 obtain ⟨A2, c2, rfl⟩ := h4.slice
 obtain ⟨A3, q3, c3, rfl⟩ := his_slice0 h5
 have hs1 := h3.strs.2.2.2.1
 have hs2 := h4.strs.2.2.2.1
 have hlow : Below w.heap.size w (w.alloc (.cells #[.string r.name, .string r.con, .slice A1 r.vars.length c1, .slice A2 r.params.length c2, .int .i64 r.body.kind, .string r.body.name, .slice A3 q3 c3] 34)) := (wB _ w).alloc (nR _) _
 refine ⟨A1, A2, A3, c1, c2, q3, c3, b3, rfl, rfl, hlow, fun W hb => ?_, fun W hb => (hs1.below hlow).below hb, fun W hb => (hs2.below hlow).below hb, fun W hb => (h5.below hlow).below hb⟩
 exact (show Box7 W w.heap.size 34 (.string r.name) (.string r.con) (.slice A1 r.vars.length c1) (.slice A2 r.params.length c2) (.int .i64 r.body.kind) (.string r.body.name) (.slice A3 q3 c3) from (hb.block _ (by simp)).trans (heap_alloc_new w _)).cells
theorem own_low {w : World} {B C : Nat} {v : Value} {out : List ByteArray} (h : OwnsL B w v out) (hC : C ≤ B) : OwnsL C w v out := by
 obtain ⟨h1, h2⟩ := h
 refine ⟨h1, ?_⟩
 rcases h2 with h2 | ⟨g, cap, cur, e, hb, rest⟩
 · exact Or.inl h2
 exact Or.inr ⟨g, cap, cur, e, nT hC hb, rest⟩
theorem owned_row {B : Nat} {W : World} {v : Value} {xs : List ByteArray} (ho : OwnsL B W v xs) : ∃ A c, v = .slice A xs.length c ∧ xs.length ≤ c ∧ Strs W A xs := by
 obtain ⟨A8, c8, rfl, hst⟩ := ho.shape
 refine ⟨A8, c8, rfl, ?_, hst⟩
 rcases ho.2 with ⟨h0, -⟩ | ⟨g, cap, cur, h0, -, -, hn, -⟩
 · simp only [Value.slice.injEq] at h0; omega
 simp only [Value.slice.injEq] at h0; omega
set_option maxRecDepth 100000 in
theorem own_args (r : Ru) (v : Value) (b : List Nat) (w : World) (hv : RuIs w v r b) (hz : ruTot r ≤ 1048576) : Calls Tryz.prog 70 #[v] w (StrsPost (r.vars ++ r.params) w) := by
 obtain ⟨A1, A2, A3, c1, c2, q3, c3, b3, rfl, hop⟩ := ru_opened hv
 obtain ⟨W0, hW0⟩ : ∃ W0, W0 = w.alloc (.cells #[.string r.name, .string r.con, .slice A1 r.vars.length c1, .slice A2 r.params.length c2, .int .i64 r.body.kind, .string r.body.name, .slice A3 q3 c3] 34) := ⟨_, rfl⟩
 rw [← hW0] at hop
 have HP := zH hop
 have HW0 := zH hW0
 have HZ := zH hz
 have HRU := fun (W : World) (hW : Below W0.heap.size W0 W) => (hv.below hop.low).below hW
 have HRUH := zH HRU
 clear hop hv hW0 hz
 have hl : r.vars.length ≤ 1048576 ∧ r.params.length ≤ 1048576 := by have := HZ.out; unfold ruTot ssTot at this; omega
 obtain ⟨x0, x1, x2, x3, x4, x5, x6⟩ := HP.out.box W0 (wB _ _)
 obtain ⟨W1, hW1⟩ : ∃ W1, W1 = W0.alloc (.cells #[.slice A1 r.vars.length c1, .slice A2 r.params.length c2] 29) := ⟨_, rfl⟩
 have hn1 : W1.heap[W0.heap.size]? = some (.cells #[.slice A1 r.vars.length c1, .slice A2 r.params.length c2] 29 (0, 0)) := by rw [hW1]; exact heap_alloc_new W0 _
 have hsz : W0.heap.size = w.heap.size + 1 := by rw [HW0.out]; simp
 rw [hsz] at hn1
 have hb1 : Below W0.heap.size W0 W1 := by rw [hW1]; exact (wB _ _).alloc (nR _) _
 have HC := zH (lib_concat (w.heap.size + 1) A1 A2 r.vars r.params c1 c2 W1 (by simp [World.cell?, hn1]) (by simp [World.cell?, hn1]) (HP.out.s1 W1 hb1) (HP.out.s2 W1 hb1) hl.1 hl.2)
 have HLW := zH (HP.out.low.trans (hb1.mono HP.out.low.size))
 have HW1 := zH hW1
 have HSZ := zH (show w.heap.size ≤ W1.heap.size from HLW.out.size)
 clear hn1 hb1 hW1 hl hsz
 go_enter Tryz.func70, Tryz.ntmps70
 go_wp2_with (rw [← HW0.out]; rw [← HW1.out]; go_at_call 93; refine HC.out.mono ?_; rintro e w2 ⟨v2, rfl, ho, hb⟩; have HO := zH ho; have HB := zH hb; clear ho hb)
 go_ret
 exact ⟨_, rfl, own_low HO.out HSZ.out, HLW.out.trans (HB.out.mono HSZ.out)⟩
set_option maxRecDepth 100000 in
theorem own_rightargs (r : Ru) (v : Value) (b : List Nat) (w : World) (hv : RuIs w v r b) (hz : ruTot r ≤ 1048576) : Calls Tryz.prog 69 #[v] w (RetPost (.bool (rightArgs r)) w) := by
 obtain ⟨A1, A2, A3, c1, c2, q3, c3, b3, rfl, hop⟩ := ru_opened hv
 obtain ⟨W0, hW0⟩ : ∃ W0, W0 = w.alloc (.cells #[.string r.name, .string r.con, .slice A1 r.vars.length c1, .slice A2 r.params.length c2, .int .i64 r.body.kind, .string r.body.name, .slice A3 q3 c3] 34) := ⟨_, rfl⟩
 rw [← hW0] at hop
 have HP := zH hop
 have HW0 := zH hW0
 have HZ := zH hz
 have HRU := fun (W : World) (hW : Below W0.heap.size W0 W) => (hv.below hop.low).below hW
 have HRUH := zH HRU
 clear hop hv hW0 hz
 have HLEN := zH (show (r.vars ++ r.params).length ≤ 1099511627776 by have := HZ.out; unfold ruTot ssTot at this; simp; omega)
 have HXS := zH (show ∀ x ∈ r.vars ++ r.params, x.size ≤ 9223372036854775807 from by
  intro x hx
  have h9 := HZ.out
  unfold ruTot ssTot at h9
  rcases List.mem_append.1 hx with hx | hx
  · have := tot_mem hx; omega
  have := tot_mem hx; omega)
 have HARG := zH (fun (W : World) (hW : Below W0.heap.size W0 W) => show Calls Tryz.prog 70 #[.agg #[.string r.name, .string r.con, .slice A1 r.vars.length c1, .slice A2 r.params.length c2, .int .i64 r.body.kind, .string r.body.name, .slice A3 q3 c3]] W (StrsPost (r.vars ++ r.params) W) from own_args r _ _ W (HRU W hW) HZ.out)
 clear HRU
 have HCN0 := zH (own_iscon r.con W0)
 obtain ⟨x0, x1, x2, x3, x4, x5, x6⟩ := HP.out.box W0 (wB _ _)
 cases hcn : isCn r.con
 · have HCC := zH (show nameL 65 90 r.con.data.toList = false from hcn)
   by_cases hcon : r.con.size = 0
   · have hbe := empty_yes hcon
     by_cases hv0 : r.vars.length = 0
     · have hvb : ((r.vars.length : Int) == 0) = true := by simp [hv0]
       by_cases h5 : r.vars.length ≤ 5
       · have h5i : (r.vars.length : Int) ≤ 5 := by omega
         have h5j : ¬ (5 : Int) < (r.vars.length : Int) := by omega
         by_cases h4 : r.params.length ≤ 4
         · have h4i : (r.params.length : Int) ≤ 4 := by omega
           have h4j : ¬ (4 : Int) < (r.params.length : Int) := by omega
           have HRES := zH (show rightArgs r = (allNm (r.vars ++ r.params) && distinct (r.vars ++ r.params)) by unfold rightArgs; rw [hcn, decide_eq_true hcon, decide_eq_true hv0, decide_eq_true h5, decide_eq_true h4]; rfl)
           clear h5 h4 hcn hcon hv0
           go_enter Tryz.func69, Tryz.ntmps69
           go_wp2_with fail
           rw [← HW0.out]
           go_at_call 82
           refine HCN0.out.mono ?_
           rintro e w1 ⟨rfl, hb1⟩
           rw [HCC.out]
           have HB1 := zH hb1
           clear hb1
           obtain ⟨y0, y1, y2, y3, y4, y5, y6⟩ := HP.out.box w1 HB1.out
           go_wp2_with fail
           go_at_call 70
           refine (HARG.out _ HB1.out).mono ?_
           rintro e w3 ⟨v3, rfl, ho3, hb3⟩
           obtain ⟨A8, c8, rfl, hc8, hst⟩ := owned_row ho3
           have HST := zH hst
           have HB3 := zH (HB1.out.trans (hb3.mono HB1.out.size))
           have HDI := zH (fun (W : World) (hW : Below w3.heap.size w3 W) => own_distinct A8 (r.vars ++ r.params) c8 W (hst.below hW) HLEN.out HXS.out)
           have HG := zH (fun (k : Nat) (h : k < (r.vars ++ r.params).length) => hst.at_ k h)
           have HR0 := zH HRES.out
           generalize (r.vars ++ r.params) = zs at *
           obtain ⟨m, hm⟩ : ∃ m, m = zs.length := ⟨_, rfl⟩
           rw [← hm] at HDI HLEN ⊢
           have HM := zH hm
           have hmi : (m : Int) ≤ 1099511627776 := by have := HLEN.out; omega
           clear ho3 hb3 hst hc8 hm
           go_wp2_with fail
           go_loopw [39] (fun i wr => ∃ (k : Nat), k ≤ m ∧ i = .int .i64 (k : Int) ∧ Hid (allNm zs = allNm (zs.drop k)) ∧ Hid (Below w3.heap.size w3 wr)) (fun i _ => m - (intOf i).toNat)
           case atStart => exact ⟨0, Nat.zero_le _, rfl, zH rfl, zH (wB _ _)⟩
           case round =>
            obtain ⟨k, hk, rfl, HK, HBR⟩ := hrel
            have HLO := zH (HP.out.low.trans ((HB3.out.trans (HBR.out.mono HB3.out.size)).mono HP.out.low.size))
            by_cases hlt : k < m
            · obtain ⟨a, e1, hca0, hla⟩ := HG.out k (by rw [← HM.out]; exact hlt)
              have HGN := zH (allNm_here (xs := zs) (k := k) (List.getElem?_eq_getElem (by rw [← HM.out]; exact hlt)))
              subst e1
              generalize zs[k]'(by rw [← HM.out]; exact hlt) = x at *
              have hca : wr.cell? (a.add k) = some (.string x) := (HBR.out.cell (p := a.add k) (by rw [block_add]; exact hla)).trans hca0
              clear hca0
              have HCN := zH (own_isname x wr)
              have hk0 : (0 : Int) ≤ (k : Int) := by omega
              have hkn : (k : Int) < (m : Int) := by omega
              cases hnm : isNm x
              · have HE := zH (show rightArgs r = false by rw [HR0.out, HK.out, HGN.out, hnm]; rfl)
                have HNM := zH (show nameL 97 122 x.data.toList = false from hnm)
                clear hnm
                go_wp2_with (go_at_call 68; refine HCN.out.mono ?_; rintro e w4 ⟨rfl, hb4⟩; rw [HNM.out]; have HB4 := zH hb4; clear hb4)
                go_ret
                exact ⟨by rw [HE.out]; rfl, HLO.out.trans (HB4.out.mono HLO.out.size)⟩
              have HE := zH (show allNm zs = allNm (zs.drop (k + 1)) by rw [HK.out, HGN.out, hnm, Bool.true_and])
              have HNM := zH (show nameL 97 122 x.data.toList = true from hnm)
              clear hnm
              go_wp2_with (go_at_call 68; refine HCN.out.mono ?_; rintro e w4 ⟨rfl, hb4⟩; rw [HNM.out]; have HB4 := zH (HBR.out.trans (hb4.mono HBR.out.size)); clear hb4)
              go_roundw
              case rel => exact ⟨k + 1, by omega, by go_num, HE, HB4⟩
              case measure => simp [intOf]; omega
            have HE := zH (show rightArgs r = distinct zs by rw [HR0.out, HK.out, List.drop_eq_nil_of_le (by rw [← HM.out]; omega)]; rfl)
            go_wp2_with (go_at_call 92; refine (HDI.out wr HBR.out).mono ?_; rintro e w4 ⟨rfl, hb4⟩; have HB4 := zH hb4; clear hb4)
            go_ret
            exact ⟨by rw [HE.out]; rfl, HLO.out.trans (HB4.out.mono HLO.out.size)⟩
         have h4i : (4 : Int) < (r.params.length : Int) := by omega
         have HE := zH (show rightArgs r = false by unfold rightArgs; rw [decide_eq_false h4]; simp)
         clear h5 h4 hcn hcon hv0
         go_enter Tryz.func69, Tryz.ntmps69
         go_wp2_with fail
         rw [← HW0.out]
         go_wp2_with (go_at_call 82; refine HCN0.out.mono ?_; rintro e w1 ⟨rfl, hb1⟩; rw [HCC.out]; have HB1 := zH hb1; clear hb1; obtain ⟨y0, y1, y2, y3, y4, y5, y6⟩ := HP.out.box w1 HB1.out)
         go_ret
         exact ⟨by rw [HE.out]; rfl, HP.out.low.trans (HB1.out.mono HP.out.low.size)⟩
       have h5i : (5 : Int) < (r.vars.length : Int) := by omega
       have HE := zH (show rightArgs r = false by unfold rightArgs; rw [decide_eq_false h5]; simp)
       clear h5 hcn hcon hv0
       go_enter Tryz.func69, Tryz.ntmps69
       go_wp2_with fail
       rw [← HW0.out]
       go_wp2_with (go_at_call 82; refine HCN0.out.mono ?_; rintro e w1 ⟨rfl, hb1⟩; rw [HCC.out]; have HB1 := zH hb1; clear hb1; obtain ⟨y0, y1, y2, y3, y4, y5, y6⟩ := HP.out.box w1 HB1.out)
       go_ret
       exact ⟨by rw [HE.out]; rfl, HP.out.low.trans (HB1.out.mono HP.out.low.size)⟩
     have hvb : ((r.vars.length : Int) == 0) = false := by simpa using hv0
     have HE := zH (show rightArgs r = false by unfold rightArgs; rw [hcn, decide_eq_false hv0]; simp)
     clear hcn hcon hv0
     go_enter Tryz.func69, Tryz.ntmps69
     go_wp2_with fail
     rw [← HW0.out]
     go_wp2_with (go_at_call 82; refine HCN0.out.mono ?_; rintro e w1 ⟨rfl, hb1⟩; rw [HCC.out]; have HB1 := zH hb1; clear hb1; obtain ⟨y0, y1, y2, y3, y4, y5, y6⟩ := HP.out.box w1 HB1.out)
     go_ret
     exact ⟨by rw [HE.out]; rfl, HP.out.low.trans (HB1.out.mono HP.out.low.size)⟩
   have hbe := empty_not hcon
   have HE := zH (show rightArgs r = false by unfold rightArgs; rw [hcn, decide_eq_false hcon]; simp)
   clear hcn hcon
   go_enter Tryz.func69, Tryz.ntmps69
   go_wp2_with fail
   rw [← HW0.out]
   go_wp2_with (go_at_call 82; refine HCN0.out.mono ?_; rintro e w1 ⟨rfl, hb1⟩; rw [HCC.out]; have HB1 := zH hb1; clear hb1; obtain ⟨y0, y1, y2, y3, y4, y5, y6⟩ := HP.out.box w1 HB1.out)
   go_ret
   exact ⟨by rw [HE.out]; rfl, HP.out.low.trans (HB1.out.mono HP.out.low.size)⟩
 have HCC := zH (show nameL 65 90 r.con.data.toList = true from hcn)
 by_cases h5 : r.vars.length ≤ 5
 · have h5i : (r.vars.length : Int) ≤ 5 := by omega
   have h5j : ¬ (5 : Int) < (r.vars.length : Int) := by omega
   by_cases h4 : r.params.length ≤ 4
   · have h4i : (r.params.length : Int) ≤ 4 := by omega
     have h4j : ¬ (4 : Int) < (r.params.length : Int) := by omega
     have HRES := zH (show rightArgs r = (allNm (r.vars ++ r.params) && distinct (r.vars ++ r.params)) by unfold rightArgs; rw [hcn, decide_eq_true h5, decide_eq_true h4]; rfl)
     clear h5 h4 hcn
     go_enter Tryz.func69, Tryz.ntmps69
     go_wp2_with fail
     rw [← HW0.out]
     go_at_call 82
     refine HCN0.out.mono ?_
     rintro e w1 ⟨rfl, hb1⟩
     rw [HCC.out]
     have HB1 := zH hb1
     clear hb1
     obtain ⟨y0, y1, y2, y3, y4, y5, y6⟩ := HP.out.box w1 HB1.out
     go_wp2_with fail
     go_at_call 70
     refine (HARG.out _ HB1.out).mono ?_
     rintro e w3 ⟨v3, rfl, ho3, hb3⟩
     obtain ⟨A8, c8, rfl, hc8, hst⟩ := owned_row ho3
     have HST := zH hst
     have HB3 := zH (HB1.out.trans (hb3.mono HB1.out.size))
     have HDI := zH (fun (W : World) (hW : Below w3.heap.size w3 W) => own_distinct A8 (r.vars ++ r.params) c8 W (hst.below hW) HLEN.out HXS.out)
     have HG := zH (fun (k : Nat) (h : k < (r.vars ++ r.params).length) => hst.at_ k h)
     have HR0 := zH HRES.out
     generalize (r.vars ++ r.params) = zs at *
     obtain ⟨m, hm⟩ : ∃ m, m = zs.length := ⟨_, rfl⟩
     rw [← hm] at HDI HLEN ⊢
     have HM := zH hm
     have hmi : (m : Int) ≤ 1099511627776 := by have := HLEN.out; omega
     clear ho3 hb3 hst hc8 hm
     go_wp2_with fail
     go_loopw [39] (fun i wr => ∃ (k : Nat), k ≤ m ∧ i = .int .i64 (k : Int) ∧ Hid (allNm zs = allNm (zs.drop k)) ∧ Hid (Below w3.heap.size w3 wr)) (fun i _ => m - (intOf i).toNat)
     case atStart => exact ⟨0, Nat.zero_le _, rfl, zH rfl, zH (wB _ _)⟩
     case round =>
      obtain ⟨k, hk, rfl, HK, HBR⟩ := hrel
      have HLO := zH (HP.out.low.trans ((HB3.out.trans (HBR.out.mono HB3.out.size)).mono HP.out.low.size))
      by_cases hlt : k < m
      · obtain ⟨a, e1, hca0, hla⟩ := HG.out k (by rw [← HM.out]; exact hlt)
        have HGN := zH (allNm_here (xs := zs) (k := k) (List.getElem?_eq_getElem (by rw [← HM.out]; exact hlt)))
        subst e1
        generalize zs[k]'(by rw [← HM.out]; exact hlt) = x at *
        have hca : wr.cell? (a.add k) = some (.string x) := (HBR.out.cell (p := a.add k) (by rw [block_add]; exact hla)).trans hca0
        clear hca0
        have HCN := zH (own_isname x wr)
        have hk0 : (0 : Int) ≤ (k : Int) := by omega
        have hkn : (k : Int) < (m : Int) := by omega
        cases hnm : isNm x
        · have HE := zH (show rightArgs r = false by rw [HR0.out, HK.out, HGN.out, hnm]; rfl)
          have HNM := zH (show nameL 97 122 x.data.toList = false from hnm)
          clear hnm
          go_wp2_with (go_at_call 68; refine HCN.out.mono ?_; rintro e w4 ⟨rfl, hb4⟩; rw [HNM.out]; have HB4 := zH hb4; clear hb4)
          go_ret
          exact ⟨by rw [HE.out]; rfl, HLO.out.trans (HB4.out.mono HLO.out.size)⟩
        have HE := zH (show allNm zs = allNm (zs.drop (k + 1)) by rw [HK.out, HGN.out, hnm, Bool.true_and])
        have HNM := zH (show nameL 97 122 x.data.toList = true from hnm)
        clear hnm
        go_wp2_with (go_at_call 68; refine HCN.out.mono ?_; rintro e w4 ⟨rfl, hb4⟩; rw [HNM.out]; have HB4 := zH (HBR.out.trans (hb4.mono HBR.out.size)); clear hb4)
        go_roundw
        case rel => exact ⟨k + 1, by omega, by go_num, HE, HB4⟩
        case measure => simp [intOf]; omega
      have HE := zH (show rightArgs r = distinct zs by rw [HR0.out, HK.out, List.drop_eq_nil_of_le (by rw [← HM.out]; omega)]; rfl)
      go_wp2_with (go_at_call 92; refine (HDI.out wr HBR.out).mono ?_; rintro e w4 ⟨rfl, hb4⟩; have HB4 := zH hb4; clear hb4)
      go_ret
      exact ⟨by rw [HE.out]; rfl, HLO.out.trans (HB4.out.mono HLO.out.size)⟩
   have h4i : (4 : Int) < (r.params.length : Int) := by omega
   have HE := zH (show rightArgs r = false by unfold rightArgs; rw [decide_eq_false h4]; simp)
   clear h5 h4 hcn
   go_enter Tryz.func69, Tryz.ntmps69
   go_wp2_with fail
   rw [← HW0.out]
   go_wp2_with (go_at_call 82; refine HCN0.out.mono ?_; rintro e w1 ⟨rfl, hb1⟩; rw [HCC.out]; have HB1 := zH hb1; clear hb1; obtain ⟨y0, y1, y2, y3, y4, y5, y6⟩ := HP.out.box w1 HB1.out)
   go_ret
   exact ⟨by rw [HE.out]; rfl, HP.out.low.trans (HB1.out.mono HP.out.low.size)⟩
 have h5i : (5 : Int) < (r.vars.length : Int) := by omega
 have HE := zH (show rightArgs r = false by unfold rightArgs; rw [decide_eq_false h5]; simp)
 clear h5 hcn
 go_enter Tryz.func69, Tryz.ntmps69
 go_wp2_with fail
 rw [← HW0.out]
 go_wp2_with (go_at_call 82; refine HCN0.out.mono ?_; rintro e w1 ⟨rfl, hb1⟩; rw [HCC.out]; have HB1 := zH hb1; clear hb1; obtain ⟨y0, y1, y2, y3, y4, y5, y6⟩ := HP.out.box w1 HB1.out)
 go_ret
 exact ⟨by rw [HE.out]; rfl, HP.out.low.trans (HB1.out.mono HP.out.low.size)⟩
end Go.Proofs.YtiaknfnhmoinpaaGreat
