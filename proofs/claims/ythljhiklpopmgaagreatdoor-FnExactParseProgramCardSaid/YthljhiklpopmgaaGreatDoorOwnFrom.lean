/- A part of the proof of the seat's statement: OwnFrom. Condition: as each says. -/
import Derived.Test.YthljhiklpopmgaaGreatDoorSpecL6Rule
import Derived.Test.YthljhiklpopmgaaGreatDoorOwnSize
import Derived.BigGuard
set_option maxHeartbeats 8000000
namespace Go.Proofs.YthljhiklpopmgaaGreatDoor
open Go Go.RowKit
theorem own_names (L : List Ex) (A : Option Addr) (m c : Nat) (bs : List Nat) (w : World) (hu : SlIs w (.slice A m c) L bs) (hm : m ≤ 1048576) :
 Calls Tryz.prog 78 #[.slice A m c] w (StrsPost (L.map Ex.name) w) := by
 have HU := zH hu
 have HM := zH hu.len.1
 have hmi : (m : Int) ≤ 1048576 := by omega
 have H0 := zH (show OwnsL w.heap.size w (.slice none 0 0) ((L.take 0).map Ex.name) from World.ownsRow_nil _ _ _ _)
 have HB0 := zH (Below.refl w.heap.size w)
 clear hu
 go_enter Tryz.func78, Tryz.ntmps78
 go_wp2_with fail
 go_loopw [3, 8] (fun v i wr => ∃ (k : Nat), k ≤ m ∧ i = .int .i64 (k : Int) ∧ Hid (OwnsL w.heap.size wr v ((L.take k).map Ex.name)) ∧ Hid (Below w.heap.size w wr)) (fun _ i _ => m - (intOf i).toNat)
 case atStart => exact ⟨0, Nat.zero_le _, rfl, H0, HB0⟩
 case round =>
  obtain ⟨k, hk, rfl, HO, HB⟩ := hrel
  by_cases hlt : k < m
  · obtain ⟨g, o, e1, u, b1, rfl, hbl, hget, hmem, c0, c1, c2, his, -⟩ := (HU.out.below HB.out).get k (by rw [← HM.out]; exact hlt)
    have HT := zH (names_snoc L k e1 hget)
    have HLE := zH (show ((L.take k).map Ex.name).length = k by rw [List.length_map, List.length_take, ← HM.out]; omega)
    obtain ⟨A9, m9, c9, rfl⟩ := his_slice0 his
    have HO2 := zH (show OwnsL w.heap.size ((wr.alloc (.cells #[.int .i64 e1.kind, .string e1.name, .slice A9 m9 c9] 34)).alloc (.cells #[.string e1.name] 9)) u3 ((L.take k).map Ex.name) from World.ownsRow.alloc (World.ownsRow.alloc HO.out _) _)
    have HB2 := zH ((HB.out.alloc HB.out.size (.cells #[.int .i64 e1.kind, .string e1.name, .slice A9 m9 c9] 34)).alloc (by have := HB.out.size; simp; omega) (.cells #[.string e1.name] 9))
    have hone := strs_one (wr.alloc (.cells #[.int .i64 e1.kind, .string e1.name, .slice A9 m9 c9] 34)) e1.name
    simp only [World.size_alloc] at hone
    have HONE := zH hone
    have hk0 : (0 : Int) ≤ (k : Int) := by omega
    have hkn : (k : Int) < (m : Int) := by omega
    clear hget hmem his hone
    go_wp2_with (at_builtin; (refine wpList_append_strs rfl (.tmp 12) (.tmp 15) rfl w.heap.size u3 ((L.take k).map Ex.name) rfl HO2.out (some ⟨wr.heap.size + 1, 0, none⟩) [e1.name] 1 rfl HONE.out (by have := HLE.out; simp; omega) HB2.out.size ?_); intro v7 w7 ho7 hg7; have HO7 := zH ho7; have HB7 := zH (OwnsL.grown HB2.out HO2.out hg7); clear ho7 hg7)
    rw [← HT.out] at HO7
    go_roundw
    case rel => exact ⟨k + 1, by omega, by go_num, HO7, HB7⟩
    case measure => simp [intOf]; omega
  have hall : L.take k = L := List.take_of_length_le (by rw [← HM.out]; omega)
  rw [hall] at HO
  go_wp2
  go_ret
  exact ⟨_, rfl, HO.out, HB.out⟩
theorem as_con_no (k : Int) (h : k ≠ 2) (v : Value) (w : World) : (Instr.typeAssert (.iface (formTy k) v) 126 123 true).run Tryz.prog w = .ok (.tuple #[.agg #[.string ⟨#[]⟩, .slice none 0 0], .bool false]) w := by
 by_cases h1 : k = 1
 · rw [formTy, if_pos h1]; exact asVC v w
 by_cases h3 : k = 3
 · rw [formTy, if_neg h1, if_neg h, if_pos h3]; exact asKC v w
 by_cases h4 : k = 4
 · rw [formTy, if_neg h1, if_neg h, if_neg h3, if_pos h4]; exact asSC v w
 rw [formTy, if_neg h1, if_neg h, if_neg h3, if_neg h4]; exact asOC v w
theorem from_end {w W : World} {r : Ru} {b2 d : List Nat} (x0 x1 x2 x3 x4 x5 x6 : Value) (hxt : Box7 W (w.heap.size + 2) 36 (.string ⟨#[]⟩) (.string ⟨#[]⟩) (.slice none 0 0) (.slice none 0 0) (.int .i64 0) (.string ⟨#[]⟩) (.slice none 0 0))
 (hri : RuIs W (.agg #[x0, x1, x2, x3, x4, x5, x6]) r (d ++ b2)) (hm : Mine W (w.heap.size + 4) d) (hl2 : ∀ x ∈ b2, x < w.heap.size) (hlo : Below w.heap.size w W) :
 Box7 (sev W (w.heap.size + 2) 0 x0 x1 x2 x3 x4 x5 x6) (w.heap.size + 2) 36 x0 x1 x2 x3 x4 x5 x6 ∧
  RuIs (sev W (w.heap.size + 2) 0 x0 x1 x2 x3 x4 x5 x6) (.agg #[x0, x1, x2, x3, x4, x5, x6]) r (d ++ b2) ∧ Mine (sev W (w.heap.size + 2) 0 x0 x1 x2 x3 x4 x5 x6) w.heap.size d ∧ Below w.heap.size w (sev W (w.heap.size + 2) 0 x0 x1 x2 x3 x4 x5 x6) := by
 have hf := sev_fr W (w.heap.size + 2) 0 x0 x1 x2 x3 x4 x5 x6
 refine ⟨sev_box hxt _ _ _ _ _ _ _, hri.keeps (fr_keeps hf (fun x hx => ?_)), (hm.keeps (fr_keeps hf (fun x hx => ?_))).mono (by omega), hlo.trans (hf.below (by simp) hlo.size)⟩
 · rcases List.mem_append.1 hx with hx | hx
   · have := (hm.range x hx).1; simp; omega
   have := hl2 x hx; simp; omega
 have := (hm.range x hx).1; simp; omega
theorem own_sl {w w2 : World} {A : Option Addr} {n c : Nat} {L : List Ex} {bs : List Nat} (h : SlIs w (.slice A n c) L bs) (hn : n ≤ 1048576) (hb : Below w.heap.size w w2) : Calls Tryz.prog 78 #[.slice A n c] w2 (StrsPost (L.map Ex.name) w2) :=
 own_names L A n c bs w2 (h.keeps (keeps_below hb bs)) hn
def FromPost (r : Ru) (b2 : List Nat) (w : World) (e : Ending) (w2 : World) : Prop :=
 ∃ v bs, e = .returned v ∧ RuIs w2 v r (bs ++ b2) ∧ Mine w2 w.heap.size bs ∧ Below w.heap.size w w2
set_option maxRecDepth 100000 in
theorem own_from (E1 E2 : Ex) (v1 v2 : Value) (b1 b2 : List Nat) (w : World) (h1 : ExIs w v1 E1 b1) (h2 : ExIs w v2 E2 b2) (ht1 : exTot E1 ≤ 1048576) (hl2 : ∀ x ∈ b2, x < w.heap.size) :
 Calls Tryz.prog 48 #[v1, v2] w (FromPost (rulePart E1 E2) b2 w) := by
 obtain ⟨u1, rfl, hsz1, hu1⟩ := id h1
 obtain ⟨A1, c1, rfl, hc11, hc12, -⟩ := id hu1
 obtain ⟨u2, rfl, hsz2, hu2⟩ := id h2
 obtain ⟨A2, c2, rfl, hc21, hc22, -⟩ := id hu2
 obtain ⟨n1, hn1⟩ : ∃ n, n = E1.args.length := ⟨_, rfl⟩
 have hn1s : n1 ≤ 1048576 := by have h8 := tots_ge E1.args; have h9 := tots_args E1; omega
 have HN := zH hn1
 rw [← hn1] at hu1 hc11 ⊢
 have HU1 := zH hu1
 have H2 := zH h2
 have HL2 := zH hl2
 have HSN := zH (small_names (e := E1) ht1)
 have HSZ1 := zH hsz1
 have HT1 := zH ht1
 obtain ⟨W0, hW0⟩ : ∃ W0, W0 = (((w.alloc (.cells #[.int .i64 E1.kind, .string E1.name, .slice A1 n1 c1] 34)).alloc (.cells #[.int .i64 E2.kind, .string E2.name, .slice A2 E2.args.length c2] 34)).alloc (.cells #[.string ⟨#[]⟩, .string ⟨#[]⟩, .slice none 0 0, .slice none 0 0, .int .i64 0, .string ⟨#[]⟩, .slice none 0 0] 36)).alloc (.cells #[.string E1.name, .string ⟨#[]⟩, .slice none 0 0, .slice none 0 0, .int .i64 E2.kind, .string E2.name, .slice A2 E2.args.length c2] 36) := ⟨_, rfl⟩
 have hz0 : W0.heap.size = w.heap.size + 4 := by rw [hW0]; simp
 have hb0 : Below w.heap.size w W0 := by rw [hW0]; exact ((((Below.refl _ w).alloc (Nat.le_refl _) _).alloc (by simp) _).alloc (by simp; omega) _).alloc (by simp; omega) _
 have hxr : Box7 W0 (w.heap.size + 3) 36 (.string E1.name) (.string ⟨#[]⟩) (.slice none 0 0) (.slice none 0 0) (.int .i64 E2.kind) (.string E2.name) (.slice A2 E2.args.length c2) := by
  rw [hW0]
  have h := box7_new (w := ((w.alloc (.cells #[.int .i64 E1.kind, .string E1.name, .slice A1 n1 c1] 34)).alloc (.cells #[.int .i64 E2.kind, .string E2.name, .slice A2 E2.args.length c2] 34)).alloc (.cells #[.string ⟨#[]⟩, .string ⟨#[]⟩, .slice none 0 0, .slice none 0 0, .int .i64 0, .string ⟨#[]⟩, .slice none 0 0] 36)) (T := 36) (x0 := .string E1.name) (x1 := .string ⟨#[]⟩) (x2 := .slice none 0 0) (x3 := .slice none 0 0) (x4 := .int .i64 E2.kind) (x5 := .string E2.name) (x6 := .slice A2 E2.args.length c2) (Below.refl _ _)
  simp only [World.size_alloc] at h
  exact h
 have hxt : Box7 W0 (w.heap.size + 2) 36 (.string ⟨#[]⟩) (.string ⟨#[]⟩) (.slice none 0 0) (.slice none 0 0) (.int .i64 0) (.string ⟨#[]⟩) (.slice none 0 0) := by
  rw [hW0]
  have h := box7_new (w := (w.alloc (.cells #[.int .i64 E1.kind, .string E1.name, .slice A1 n1 c1] 34)).alloc (.cells #[.int .i64 E2.kind, .string E2.name, .slice A2 E2.args.length c2] 34)) (T := 36) (x0 := .string ⟨#[]⟩) (x1 := .string ⟨#[]⟩) (x2 := .slice none 0 0) (x3 := .slice none 0 0) (x4 := .int .i64 0) (x5 := .string ⟨#[]⟩) (x6 := .slice none 0 0) (Below.refl _ _)
  simp only [World.size_alloc] at h
  exact h.keep (Fr.alloc (S := []) _ _) (by simp)
 have HW0 := zH hW0
 have HZ0 := zH hz0
 have HB0 := zH hb0
 have HXR := zH hxr
 have HXT := zH hxt
 obtain ⟨r, hr⟩ : ∃ r, r = rulePart E1 E2 := ⟨_, rfl⟩
 rw [← hr]
 clear h1 h2 hu1 hu2 ht1 hl2 hsz1 hW0 hz0 hb0 hxr hxt
 rcases hargs : E1.args with _ | ⟨a, t⟩
 · have HR := zH (show r = ⟨E1.name, ⟨#[]⟩, [], [], E2⟩ by rw [hr]; unfold rulePart; rw [hargs])
   obtain rfl : n1 = 0 := by rw [HN.out, hargs]; rfl
   have HCA := zH (own_names [] A1 0 c1 [] W0 ⟨A1, c1, rfl, Nat.zero_le _, hc12, Or.inl ⟨rfl, rfl⟩⟩ (by omega))
   clear hr hn1 hargs
   have HBW := zH (Below.refl W0.heap.size W0)
   go_enter Tryz.func48, Tryz.ntmps48
   go_wp2_with (go_at_call 78; rw [← HW0.out]; refine HCA.out.mono ?_; rintro e w4 ⟨v4, rfl, ho4, hb4⟩; obtain ⟨A4, c4, rfl, -⟩ := ho4.shape; have HO4 := zH ho4; have HB4 := zH hb4; have HX4 := zH (HXR.out.keep (Fr.of_below (S := []) (HBW.out.trans (hb4.mono HBW.out.size))) (by simp)); have HT4 := zH (HXT.out.keep (Fr.of_below (S := []) (HBW.out.trans (hb4.mono HBW.out.size))) (by simp)); obtain ⟨y0, y1, y2, y3, y4, y5, y6⟩ := HX4.out.cells; have z3 := HX4.out.thaw 3; obtain ⟨j0, j1, j2, j3, j4, j5, j6⟩ := HT4.out.cells; have f0 := HT4.out.thaw 0; have f1 := HT4.out.thaw 1; have f2 := HT4.out.thaw 2; have f3 := HT4.out.thaw 3; have f4 := HT4.out.thaw 4; have f5 := HT4.out.thaw 5; have f6 := HT4.out.thaw 6; clear ho4 hb4)
   obtain ⟨W, hW⟩ : ∃ W, W = w4.setCell ⟨w.heap.size + 1 + 1 + 1, 3, none⟩ (.slice A4 0 c4) := ⟨_, rfl⟩
   have hbw4 : Below W0.heap.size W0 w4 := HBW.out.trans (HB4.out.mono HBW.out.size)
   have hs4 : w.heap.size + 4 ≤ w4.heap.size := by have := hbw4.size; have := HZ0.out; omega
   have hf4 : Fr [w.heap.size + 3] w4 W := by rw [hW]; exact Fr.set (S := [w.heap.size + 3]) w4 ⟨w.heap.size + 1 + 1 + 1, 3, none⟩ _ (by simp)
   obtain ⟨d4, hd4, hm4⟩ := owns_ss HO4.out (fun x hx => by cases hx)
   have hk4 : Keeps w4 W d4 := fr_keeps hf4 (fun x hx => by have := (hm4.range x hx).1; have := HBW.out.size; have := HZ0.out; simp; omega)
   have hk2 : Keeps w W b2 := keeps_on (keeps_below (HB0.out.trans (hbw4.mono HB0.out.size)) b2) (fr_keeps hf4 (fun x hx => by have := HL2.out x hx; simp; omega))
   have hmi : Mine W (w.heap.size + 4) d4 := (hm4.keeps hk4).mono (by have := HBW.out.size; have := HZ0.out; omega)
   have hri : RuIs W (.agg #[.string E1.name, .string ⟨#[]⟩, .slice none 0 0, .slice A4 0 c4, .int .i64 E2.kind, .string E2.name, .slice A2 E2.args.length c2]) r (d4 ++ b2) := by
    rw [HR.out]
    exact ⟨_, _, _, [], d4, b2, rfl, HSZ1.out, Nat.zero_le _, rfl, ss_nil W, hd4.keeps hk4, H2.out.keeps hk2⟩
   have hlo : Below w.heap.size w W := (HB0.out.trans (hbw4.mono HB0.out.size)).trans (hf4.below (by simp) (by omega))
   have hxt := HT4.out.keep hf4 (by simp)
   clear hbw4 hs4 hf4 hd4 hm4 hk4 hk2 y0 y1 y2 y3 y4 y5 y6 z3 j0 j1 j2 j3 j4 j5 j6 f0 f1 f2 f3 f4 f5 f6
   obtain ⟨hq0, hq1, hq2, hq3⟩ := from_end (.string E1.name) (.string ⟨#[]⟩) (.slice none 0 0) (.slice A4 0 c4) (.int .i64 E2.kind) (.string E2.name) (.slice A2 E2.args.length c2) hxt hri hmi HL2.out hlo
   obtain ⟨Wf, hWf⟩ : ∃ V, V = sev W (w.heap.size + 2) 0 (.string E1.name) (.string ⟨#[]⟩) (.slice none 0 0) (.slice A4 0 c4) (.int .i64 E2.kind) (.string E2.name) (.slice A2 E2.args.length c2) := ⟨_, rfl⟩
   rw [← hWf] at hq0 hq1 hq2 hq3
   unfold sev at hWf
   simp only [Nat.zero_add, hW] at hWf
   have HE := zH (And.intro hq0 (And.intro hq1 (And.intro hq2 hq3)))
   have HWF := zH hWf
   clear hq0 hq1 hq2 hq3 hWf hxt hri hmi hlo hW
   rw [← HWF.out]
   obtain ⟨k0, k1, k2, k3, k4, k5, k6⟩ := HE.out.1.cells
   refine bodyPost_ret (v := .agg #[.string E1.name, .string ⟨#[]⟩, .slice none 0 0, .slice A4 0 c4, .int .i64 E2.kind, .string E2.name, .slice A2 E2.args.length c2]) (by simp [results, Tryz.results48, go_sem, k0, k1, k2, k3, k4, k5, k6]) rfl ?_
   exact ⟨_, _, rfl, HE.out.2.1, HE.out.2.2.1, HE.out.2.2.2⟩
 have hsl2 : SlIs w (.slice A1 n1 c1) (a :: t) b1 := by rw [← hargs]; exact HU1.out
 obtain ⟨g, o, Aa, ca, ba, rfl, hgl, hnt, hnc, hcm, a0, a1, a2, hsa, hasz⟩ := sl_head hsl2
 obtain ⟨bt, hst⟩ := sl_rest hsl2
 have HSL := zH hsl2
 have HST := zH hst
 have HSA := zH hsa
 have HARGS := zH hargs
 have HTA := zH (show exTot a ≤ 1048576 from by have h8 := tots_args E1; rw [hargs, exTots] at h8; have := HT1.out; omega)
 have hn1i : (0 : Int) < (n1 : Int) := by omega
 have hn1j : (1 : Int) ≤ (n1 : Int) := by omega
 have hn1k : 1 ≤ n1 := by omega
 have hn1l : 0 < n1 := by omega
 have hc1k : 1 ≤ c1 := by omega
 have HASZ := zH hasz
 have HPARTS := zH (show r = if a.kind = 2 then ⟨E1.name, a.name, a.args.map Ex.name, t.map Ex.name, E2⟩ else ⟨E1.name, ⟨#[]⟩, [], (a :: t).map Ex.name, E2⟩ from by rw [hr]; unfold rulePart; rw [hargs])
 have HNT := zH hnt
 obtain ⟨na, hna⟩ : ∃ n, n = a.args.length := ⟨_, rfl⟩
 have hnas : na ≤ 1048576 := by have h8 := tots_ge a.args; have h9 := tots_args a; have := HTA.out; omega
 rw [← hna] at a2 HSA
 have hgl1 : g < w.heap.size + 1 := by omega
 have hgl2 : g < w.heap.size + 1 + 1 := by omega
 have hgl3 : g < w.heap.size + 1 + 1 + 1 := by omega
 have HCF := zH (own_form a.kind a.name Aa na ca W0)
 unfold FormPost at HCF
 clear hr hn1 hargs hsl2 hst hsa hasz hnt hna
 by_cases hka : a.kind = 2
 · rw [hka] at a0
   rw [hka, show formTy 2 = 123 from rfl] at HCF
   have haCC := asCC
   obtain ⟨L4, hL4⟩ : ∃ L, L = a.args.map Ex.name := ⟨_, rfl⟩
   obtain ⟨L5, hL5⟩ : ∃ L, L = t.map Ex.name := ⟨_, rfl⟩
   have HL4 := zH hL4
   have HL5 := zH hL5
   have HR := zH (show r = ⟨E1.name, a.name, L4, L5, E2⟩ by rw [HPARTS.out, if_pos hka, hL4, hL5])
   have HZ4 := zH (show ∀ x ∈ L4, x.size ≤ 9223372036854775807 from by rw [hL4]; exact small_names (by have := HTA.out; omega))
   have HZ5 := zH (show ∀ x ∈ L5, x.size ≤ 9223372036854775807 from fun x hx => HSN.out x (by rw [hL5] at hx; rw [HARGS.out]; exact List.mem_cons_of_mem _ hx))
   clear hka hL4 hL5
   go_enter Tryz.func48, Tryz.ntmps48
   go_wp2_with fail
   go_at_call 77
   rw [← HW0.out]
   refine HCF.out.mono ?_
   rintro e w3 ⟨rfl, hb3⟩
   obtain ⟨W1, hW1⟩ : ∃ W1, W1 = w3.alloc (.cells #[.string a.name, .slice Aa na ca] 123) := ⟨_, rfl⟩
   have hbw : Below W0.heap.size W0 W1 := by rw [hW1]; exact hb3.alloc hb3.size _
   have hz3 : w3.heap.size < W1.heap.size := by rw [hW1]; simp
   have hcf : W1.heap[w3.heap.size]? = some (.cells #[.string a.name, .slice Aa na ca] 123 (0, 0)) := by rw [hW1]; exact heap_alloc_new w3 _
   have HBW := zH hbw
   have HW1 := zH hW1
   have HCV := zH (show Calls Tryz.prog 78 #[.slice Aa na ca] W1.drew (StrsPost L4 W1.drew) from by have h9 := own_sl HSA.out hnas (HB0.out.trans (hbw.drew.mono HB0.out.size)); rw [← HL4.out] at h9; exact h9)
   have g0 : W1.cell? ⟨w3.heap.size, 0, none⟩ = some (.string a.name) := by rw [World.cell?, hcf]; rfl
   have g1 : W1.cell? ⟨w3.heap.size, 1, none⟩ = some (.slice Aa na ca) := by rw [World.cell?, hcf]; rfl
   have HCFB := zH (fun (Y : World) (hY : Below W1.heap.size W1 Y) => show Y.cell? ⟨w3.heap.size, 0, none⟩ = some (.string a.name) from (hY.cell (p := ⟨w3.heap.size, 0, none⟩) hz3).trans g0)
   clear hb3 hbw hW1 hcf
   go_wp2_with fail
   rw [← HW1.out]
   first | go_region_law (first | (go_simp; go_at_call 78; (with_reducible refine HCV.out.mono ?_); rintro e w4 ⟨v4, rfl, ho4, hb0⟩; obtain ⟨A4, c4, rfl, -⟩ := ho4.shape; have hb4 : Below W1.heap.size W1 w4 := (Below.refl W1.heap.size W1).drew.trans hb0; have HO4 := zH ho4; have HB4 := zH hb4; have HX4 := zH (HXR.out.keep (Fr.of_below (S := []) (HBW.out.trans (hb4.mono HBW.out.size))) (by simp)); have HT4 := zH (HXT.out.keep (Fr.of_below (S := []) (HBW.out.trans (hb4.mono HBW.out.size))) (by simp)); have z1 := HX4.out.thaw 1; have z2 := HX4.out.thaw 2; obtain ⟨y0, y1, y2, y3, y4, y5, y6⟩ := HX4.out.cells; have g0' := HCFB.out w4 hb4; have hz4 : w.heap.size + 1 + 1 + 1 < w4.heap.size := HX4.out.lt; clear ho4 hb4 hb0)) | fail
   all_goals
    have HF4 := zH (((Fr.of_below (S := [w.heap.size + 3]) HB4.out).trans (Fr.set (S := [w.heap.size + 3]) w4 ⟨w.heap.size + 1 + 1 + 1, 1, none⟩ (.string a.name) (by simp)) (by simp)).trans (Fr.set (S := [w.heap.size + 3]) _ ⟨w.heap.size + 1 + 1 + 1, 2, none⟩ (.slice A4 L4.length c4) (by simp)) (by simp))
    have HFA := zH ((Fr.set (S := [w.heap.size + 3]) w4 ⟨w.heap.size + 1 + 1 + 1, 1, none⟩ (.string a.name) (by simp)).trans (Fr.set (S := [w.heap.size + 3]) _ ⟨w.heap.size + 1 + 1 + 1, 2, none⟩ (.slice A4 L4.length c4) (by simp)) (by simp))
    have HX4b := zH ((HX4.out.set1 (.string a.name)).set2 (.slice A4 L4.length c4))
    have HT4b := zH (HT4.out.keep HFA.out (by simp))
    have HLO4 := zH (show Below w.heap.size w ((w4.setCell ⟨w.heap.size + 1 + 1 + 1, 1, none⟩ (.string a.name)).setCell ⟨w.heap.size + 1 + 1 + 1, 2, none⟩ (.slice A4 L4.length c4)) from (HB0.out.trans (HBW.out.mono HB0.out.size)).trans (HF4.out.below (by simp) (by have := HB0.out.size; have := HBW.out.size; omega)))
    clear y0 y1 y2 y3 y4 y5 y6 z1 z2 g0'
    by_cases hce : c1 = 1
    · subst hce
      obtain rfl : t = [] := List.eq_nil_of_length_eq_zero (by have := HNT.out; omega)
      have HCP := zH (fun (Y : World) => show Calls Tryz.prog 78 #[.slice (some ⟨g, o, none⟩) 0 0] Y (StrsPost L5 Y) from by have h9 := own_names [] (some ⟨g, o, none⟩) 0 0 [] Y ⟨_, 0, rfl, Nat.le_refl _, by omega, Or.inl ⟨rfl, rfl⟩⟩ (by omega); rw [HL5.out]; exact h9)
      go_wp2_with (go_at_call 78; refine (HCP.out _).mono ?_; rintro e w5 ⟨v5, rfl, ho5, hb5⟩; obtain ⟨A5, c5, rfl, -⟩ := ho5.shape; have HO5 := zH ho5; have HB5 := zH hb5; have HX5 := zH (HX4b.out.keep (Fr.of_below (S := []) hb5) (by simp)); have HT5 := zH (HT4b.out.keep (Fr.of_below (S := []) hb5) (by simp)); obtain ⟨y0, y1, y2, y3, y4, y5, y6⟩ := HX5.out.cells; have z3 := HX5.out.thaw 3; obtain ⟨j0, j1, j2, j3, j4, j5, j6⟩ := HT5.out.cells; have f0 := HT5.out.thaw 0; have f1 := HT5.out.thaw 1; have f2 := HT5.out.thaw 2; have f3 := HT5.out.thaw 3; have f4 := HT5.out.thaw 4; have f5 := HT5.out.thaw 5; have f6 := HT5.out.thaw 6; clear ho5 hb5)
      obtain ⟨W, hW⟩ : ∃ W, W = w5.setCell ⟨w.heap.size + 1 + 1 + 1, 3, none⟩ (.slice A5 L5.length c5) := ⟨_, rfl⟩
      have hs1 : w.heap.size + 4 ≤ W1.heap.size := by have := HBW.out.size; have := HZ0.out; omega
      have hs4 : W1.heap.size ≤ w4.heap.size := HB4.out.size
      have hs5 : w4.heap.size ≤ w5.heap.size := by have := HB5.out.size; simpa [World.setCell] using this
      have hf5 : Fr [w.heap.size + 3] w5 W := by rw [hW]; exact Fr.set (S := [w.heap.size + 3]) w5 ⟨w.heap.size + 1 + 1 + 1, 3, none⟩ _ (by simp)
      have hf45 : Fr [w.heap.size + 3] w4 W := (HFA.out.trans (Fr.of_below (S := [w.heap.size + 3]) HB5.out) (fun x hx => Or.inl hx)).trans hf5 (fun x hx => Or.inl hx)
      obtain ⟨d4, hd4, hm4⟩ := owns_ss HO4.out HZ4.out
      obtain ⟨d5, hd5, hm5⟩ := owns_ss HO5.out HZ5.out
      have hg4 : ∀ x ∈ d4, W1.heap.size ≤ x ∧ x < w4.heap.size := fun x hx => hm4.range x hx
      have hg5 : ∀ x ∈ d5, w4.heap.size ≤ x := fun x hx => by have := (hm5.range x hx).1; simpa [World.setCell] using this
      have hk4 : Keeps w4 W d4 := fr_keeps hf45 (fun x hx => by have := hg4 x hx; simp; omega)
      have hk5 : Keeps w5 W d5 := fr_keeps hf5 (fun x hx => by have := hg5 x hx; simp; omega)
      have hlo : Below w.heap.size w W := (HLO4.out.trans (HB5.out.mono HLO4.out.size)).trans (hf5.below (by simp) (by omega))
      have hk2 : Keeps w W b2 := ⟨hlo.size, fun x hx hlt => hlo.block x hlt⟩
      have hmi : Mine W (w.heap.size + 4) (d4 ++ d5) := mine_app ((hm4.keeps hk4).mono (by show _ ≤ W1.heap.size; omega)) ((hm5.keeps hk5).mono (by simp [World.setCell]; omega)) (fun x hx hx2 => by have := hg4 x hx; have := hg5 x hx2; omega)
      have hri : RuIs W (.agg #[.string E1.name, .string a.name, .slice A4 L4.length c4, .slice A5 L5.length c5, .int .i64 E2.kind, .string E2.name, .slice A2 E2.args.length c2]) r ((d4 ++ d5) ++ b2) := by
       rw [HR.out, List.append_assoc]
       exact ⟨_, _, _, d4, d5, b2, rfl, HSZ1.out, HASZ.out, rfl, hd4.keeps hk4, hd5.keeps hk5, H2.out.keeps hk2⟩
      have hxt := HT5.out.keep hf5 (by simp)
      clear hs1 hs4 hs5 hf5 hf45 hd4 hm4 hd5 hm5 hg4 hg5 hk4 hk5 hk2 y0 y1 y2 y3 y4 y5 y6 z3 j0 j1 j2 j3 j4 j5 j6 f0 f1 f2 f3 f4 f5 f6
      obtain ⟨hq0, hq1, hq2, hq3⟩ := from_end (.string E1.name) (.string a.name) (.slice A4 L4.length c4) (.slice A5 L5.length c5) (.int .i64 E2.kind) (.string E2.name) (.slice A2 E2.args.length c2) hxt hri hmi HL2.out hlo
      obtain ⟨Wf, hWf⟩ : ∃ V, V = sev W (w.heap.size + 2) 0 (.string E1.name) (.string a.name) (.slice A4 L4.length c4) (.slice A5 L5.length c5) (.int .i64 E2.kind) (.string E2.name) (.slice A2 E2.args.length c2) := ⟨_, rfl⟩
      rw [← hWf] at hq0 hq1 hq2 hq3
      unfold sev at hWf
      simp only [Nat.zero_add, hW] at hWf
      have HE := zH (And.intro hq0 (And.intro hq1 (And.intro hq2 hq3)))
      have HWF := zH hWf
      clear hq0 hq1 hq2 hq3 hWf hxt hri hmi hlo hW
      rw [← HWF.out]
      obtain ⟨k0, k1, k2, k3, k4, k5, k6⟩ := HE.out.1.cells
      refine bodyPost_ret (v := .agg #[.string E1.name, .string a.name, .slice A4 L4.length c4, .slice A5 L5.length c5, .int .i64 E2.kind, .string E2.name, .slice A2 E2.args.length c2]) (by simp [results, Tryz.results48, go_sem, k0, k1, k2, k3, k4, k5, k6]) rfl ?_
      exact ⟨_, _, rfl, HE.out.2.1, HE.out.2.2.1, HE.out.2.2.2⟩
    have HCP := zH (fun (Y : World) (hY : Below w.heap.size w Y) => show Calls Tryz.prog 78 #[.slice (some ⟨g, o + 3, none⟩) (n1 - 1) (c1 - 1)] Y (StrsPost L5 Y) from by have h9 := own_sl HST.out (by omega) hY; rw [← HL5.out] at h9; exact h9)
    go_wp2_with (go_at_call 78; refine (HCP.out _ HLO4.out).mono ?_; rintro e w5 ⟨v5, rfl, ho5, hb5⟩; obtain ⟨A5, c5, rfl, -⟩ := ho5.shape; have HO5 := zH ho5; have HB5 := zH hb5; have HX5 := zH (HX4b.out.keep (Fr.of_below (S := []) hb5) (by simp)); have HT5 := zH (HT4b.out.keep (Fr.of_below (S := []) hb5) (by simp)); obtain ⟨y0, y1, y2, y3, y4, y5, y6⟩ := HX5.out.cells; have z3 := HX5.out.thaw 3; obtain ⟨j0, j1, j2, j3, j4, j5, j6⟩ := HT5.out.cells; have f0 := HT5.out.thaw 0; have f1 := HT5.out.thaw 1; have f2 := HT5.out.thaw 2; have f3 := HT5.out.thaw 3; have f4 := HT5.out.thaw 4; have f5 := HT5.out.thaw 5; have f6 := HT5.out.thaw 6; clear ho5 hb5)
    obtain ⟨W, hW⟩ : ∃ W, W = w5.setCell ⟨w.heap.size + 1 + 1 + 1, 3, none⟩ (.slice A5 L5.length c5) := ⟨_, rfl⟩
    have hs1 : w.heap.size + 4 ≤ W1.heap.size := by have := HBW.out.size; have := HZ0.out; omega
    have hs4 : W1.heap.size ≤ w4.heap.size := HB4.out.size
    have hs5 : w4.heap.size ≤ w5.heap.size := by have := HB5.out.size; simpa [World.setCell] using this
    have hf5 : Fr [w.heap.size + 3] w5 W := by rw [hW]; exact Fr.set (S := [w.heap.size + 3]) w5 ⟨w.heap.size + 1 + 1 + 1, 3, none⟩ _ (by simp)
    have hf45 : Fr [w.heap.size + 3] w4 W := (HFA.out.trans (Fr.of_below (S := [w.heap.size + 3]) HB5.out) (fun x hx => Or.inl hx)).trans hf5 (fun x hx => Or.inl hx)
    obtain ⟨d4, hd4, hm4⟩ := owns_ss HO4.out HZ4.out
    obtain ⟨d5, hd5, hm5⟩ := owns_ss HO5.out HZ5.out
    have hg4 : ∀ x ∈ d4, W1.heap.size ≤ x ∧ x < w4.heap.size := fun x hx => hm4.range x hx
    have hg5 : ∀ x ∈ d5, w4.heap.size ≤ x := fun x hx => by have := (hm5.range x hx).1; simpa [World.setCell] using this
    have hk4 : Keeps w4 W d4 := fr_keeps hf45 (fun x hx => by have := hg4 x hx; simp; omega)
    have hk5 : Keeps w5 W d5 := fr_keeps hf5 (fun x hx => by have := hg5 x hx; simp; omega)
    have hlo : Below w.heap.size w W := (HLO4.out.trans (HB5.out.mono HLO4.out.size)).trans (hf5.below (by simp) (by omega))
    have hk2 : Keeps w W b2 := ⟨hlo.size, fun x hx hlt => hlo.block x hlt⟩
    have hmi : Mine W (w.heap.size + 4) (d4 ++ d5) := mine_app ((hm4.keeps hk4).mono (by show _ ≤ W1.heap.size; omega)) ((hm5.keeps hk5).mono (by simp [World.setCell]; omega)) (fun x hx hx2 => by have := hg4 x hx; have := hg5 x hx2; omega)
    have hri : RuIs W (.agg #[.string E1.name, .string a.name, .slice A4 L4.length c4, .slice A5 L5.length c5, .int .i64 E2.kind, .string E2.name, .slice A2 E2.args.length c2]) r ((d4 ++ d5) ++ b2) := by
     rw [HR.out, List.append_assoc]
     exact ⟨_, _, _, d4, d5, b2, rfl, HSZ1.out, HASZ.out, rfl, hd4.keeps hk4, hd5.keeps hk5, H2.out.keeps hk2⟩
    have hxt := HT5.out.keep hf5 (by simp)
    clear hs1 hs4 hs5 hf5 hf45 hd4 hm4 hd5 hm5 hg4 hg5 hk4 hk5 hk2 y0 y1 y2 y3 y4 y5 y6 z3 j0 j1 j2 j3 j4 j5 j6 f0 f1 f2 f3 f4 f5 f6
    obtain ⟨hq0, hq1, hq2, hq3⟩ := from_end (.string E1.name) (.string a.name) (.slice A4 L4.length c4) (.slice A5 L5.length c5) (.int .i64 E2.kind) (.string E2.name) (.slice A2 E2.args.length c2) hxt hri hmi HL2.out hlo
    obtain ⟨Wf, hWf⟩ : ∃ V, V = sev W (w.heap.size + 2) 0 (.string E1.name) (.string a.name) (.slice A4 L4.length c4) (.slice A5 L5.length c5) (.int .i64 E2.kind) (.string E2.name) (.slice A2 E2.args.length c2) := ⟨_, rfl⟩
    rw [← hWf] at hq0 hq1 hq2 hq3
    unfold sev at hWf
    simp only [Nat.zero_add, hW] at hWf
    have HE := zH (And.intro hq0 (And.intro hq1 (And.intro hq2 hq3)))
    have HWF := zH hWf
    clear hq0 hq1 hq2 hq3 hWf hxt hri hmi hlo hW
    rw [← HWF.out]
    obtain ⟨k0, k1, k2, k3, k4, k5, k6⟩ := HE.out.1.cells
    refine bodyPost_ret (v := .agg #[.string E1.name, .string a.name, .slice A4 L4.length c4, .slice A5 L5.length c5, .int .i64 E2.kind, .string E2.name, .slice A2 E2.args.length c2]) (by simp [results, Tryz.results48, go_sem, k0, k1, k2, k3, k4, k5, k6]) rfl ?_
    exact ⟨_, _, rfl, HE.out.2.1, HE.out.2.2.1, HE.out.2.2.2⟩
 have has := as_con_no a.kind hka
 obtain ⟨L4, hL4⟩ : ∃ L, L = (a :: t).map Ex.name := ⟨_, rfl⟩
 have HL4 := zH hL4
 have HR := zH (show r = ⟨E1.name, ⟨#[]⟩, [], L4, E2⟩ by rw [HPARTS.out, if_neg hka, hL4])
 generalize formTy a.kind = ft at *
 clear hka hL4
 go_enter Tryz.func48, Tryz.ntmps48
 go_wp2_with fail
 go_at_call 77
 rw [← HW0.out]
 refine HCF.out.mono ?_
 rintro e w3 ⟨rfl, hb3⟩
 obtain ⟨W1, hW1⟩ : ∃ W1, W1 = w3.alloc (.cells #[.string ⟨#[]⟩, .slice none 0 0] 123) := ⟨_, rfl⟩
 have hbw : Below W0.heap.size W0 W1 := by rw [hW1]; exact hb3.alloc hb3.size _
 have HBW := zH hbw
 have HW1 := zH hW1
 have HCA := zH (show Calls Tryz.prog 78 #[.slice (some ⟨g, o, none⟩) n1 c1] W1 (StrsPost L4 W1) from by have h9 := own_sl HSL.out hn1s (HB0.out.trans (hbw.mono HB0.out.size)); rw [← HL4.out] at h9; exact h9)
 clear hb3 hbw hW1
 go_wp2_with (go_at_call 78; rw [← HW1.out]; refine HCA.out.mono ?_; rintro e w4 ⟨v4, rfl, ho4, hb4⟩; obtain ⟨A4, c4, rfl, -⟩ := ho4.shape; have HO4 := zH ho4; have HB4 := zH hb4; have HX4 := zH (HXR.out.keep (Fr.of_below (S := []) (HBW.out.trans (hb4.mono HBW.out.size))) (by simp)); have HT4 := zH (HXT.out.keep (Fr.of_below (S := []) (HBW.out.trans (hb4.mono HBW.out.size))) (by simp)); obtain ⟨y0, y1, y2, y3, y4, y5, y6⟩ := HX4.out.cells; have z3 := HX4.out.thaw 3; obtain ⟨j0, j1, j2, j3, j4, j5, j6⟩ := HT4.out.cells; have f0 := HT4.out.thaw 0; have f1 := HT4.out.thaw 1; have f2 := HT4.out.thaw 2; have f3 := HT4.out.thaw 3; have f4 := HT4.out.thaw 4; have f5 := HT4.out.thaw 5; have f6 := HT4.out.thaw 6; clear ho4 hb4)
 obtain ⟨W, hW⟩ : ∃ W, W = w4.setCell ⟨w.heap.size + 1 + 1 + 1, 3, none⟩ (.slice A4 L4.length c4) := ⟨_, rfl⟩
 have hbw4 : Below W0.heap.size W0 w4 := HBW.out.trans (HB4.out.mono HBW.out.size)
 have hs4 : w.heap.size + 4 ≤ w4.heap.size := by have := hbw4.size; have := HZ0.out; omega
 have hf4 : Fr [w.heap.size + 3] w4 W := by rw [hW]; exact Fr.set (S := [w.heap.size + 3]) w4 ⟨w.heap.size + 1 + 1 + 1, 3, none⟩ _ (by simp)
 obtain ⟨d4, hd4, hm4⟩ := owns_ss HO4.out (by rw [HL4.out, ← HARGS.out]; exact HSN.out)
 have hk4 : Keeps w4 W d4 := fr_keeps hf4 (fun x hx => by have := (hm4.range x hx).1; have := HBW.out.size; have := HZ0.out; simp; omega)
 have hk2 : Keeps w W b2 := keeps_on (keeps_below (HB0.out.trans (hbw4.mono HB0.out.size)) b2) (fr_keeps hf4 (fun x hx => by have := HL2.out x hx; simp; omega))
 have hmi : Mine W (w.heap.size + 4) d4 := (hm4.keeps hk4).mono (by have := HBW.out.size; have := HZ0.out; omega)
 have hri : RuIs W (.agg #[.string E1.name, .string ⟨#[]⟩, .slice none 0 0, .slice A4 L4.length c4, .int .i64 E2.kind, .string E2.name, .slice A2 E2.args.length c2]) r (d4 ++ b2) := by
  rw [HR.out]
  exact ⟨_, _, _, [], d4, b2, rfl, HSZ1.out, Nat.zero_le _, rfl, ss_nil W, hd4.keeps hk4, H2.out.keeps hk2⟩
 have hlo : Below w.heap.size w W := (HB0.out.trans (hbw4.mono HB0.out.size)).trans (hf4.below (by simp) (by omega))
 have hxt := HT4.out.keep hf4 (by simp)
 clear hbw4 hs4 hf4 hd4 hm4 hk4 hk2 y0 y1 y2 y3 y4 y5 y6 z3 j0 j1 j2 j3 j4 j5 j6 f0 f1 f2 f3 f4 f5 f6
 obtain ⟨hq0, hq1, hq2, hq3⟩ := from_end (.string E1.name) (.string ⟨#[]⟩) (.slice none 0 0) (.slice A4 L4.length c4) (.int .i64 E2.kind) (.string E2.name) (.slice A2 E2.args.length c2) hxt hri hmi HL2.out hlo
 obtain ⟨Wf, hWf⟩ : ∃ V, V = sev W (w.heap.size + 2) 0 (.string E1.name) (.string ⟨#[]⟩) (.slice none 0 0) (.slice A4 L4.length c4) (.int .i64 E2.kind) (.string E2.name) (.slice A2 E2.args.length c2) := ⟨_, rfl⟩
 rw [← hWf] at hq0 hq1 hq2 hq3
 unfold sev at hWf
 simp only [Nat.zero_add, hW] at hWf
 have HE := zH (And.intro hq0 (And.intro hq1 (And.intro hq2 hq3)))
 have HWF := zH hWf
 clear hq0 hq1 hq2 hq3 hWf hxt hri hmi hlo hW
 rw [← HWF.out]
 obtain ⟨k0, k1, k2, k3, k4, k5, k6⟩ := HE.out.1.cells
 refine bodyPost_ret (v := .agg #[.string E1.name, .string ⟨#[]⟩, .slice none 0 0, .slice A4 L4.length c4, .int .i64 E2.kind, .string E2.name, .slice A2 E2.args.length c2]) (by simp [results, Tryz.results48, go_sem, k0, k1, k2, k3, k4, k5, k6]) rfl ?_
 exact ⟨_, _, rfl, HE.out.2.1, HE.out.2.2.1, HE.out.2.2.2⟩
end Go.Proofs.YthljhiklpopmgaaGreatDoor
