/- A part of the proof of the seat's statement: MetKit. Condition: as each says. -/
import Derived.Test.YthljhiklpopmgaaGreatDoorOwnFrom
import Derived.Test.YthljhiklpopmgaaGreatDoorOwnUnite
import Derived.Test.YthljhiklpopmgaaGreatDoorOwnAlone2
import Derived.Lib.CutLaws
import Derived.Test.YthljhiklpopmgaaGreatDoorOwnRuFind
import Derived.Test.YthljhiklpopmgaaGreatDoorRuCon
import Derived.Test.YthljhiklpopmgaaGreatDoorRuGet
import Derived.Test.YthljhiklpopmgaaGreatDoorRuFits
set_option maxHeartbeats 8000000
namespace Go.Proofs.YthljhiklpopmgaaGreatDoor
open Go Go.RowKit
theorem index_eqs : ∀ (l : List UInt8) (k : Nat), (eqFrom l k = none ∧ Lib.index l [32, 61, 32] = -1) ∨ ∃ j : Nat, eqFrom l k = some (k + j) ∧ Lib.index l [32, 61, 32] = (j : Int) := by
 intro l
 induction l with
 | nil => intro k; exact Or.inl ⟨rfl, rfl⟩
 | cons c t ih =>
  intro k
  have hpre : ([32, 61, 32] : List UInt8).isPrefixOf (c :: t) = decide ((c :: t).take 3 = [32, 61, 32]) := by
   rw [Bool.eq_iff_iff, List.isPrefixOf_iff_prefix, List.prefix_iff_eq_take, decide_eq_true_eq]
   exact eq_comm
  rw [eqFrom, Lib.index]
  by_cases h : (c :: t).take 3 = [32, 61, 32]
  · rw [if_pos h]
    refine Or.inr ⟨0, rfl, ?_⟩
    rw [hpre, decide_eq_true h]
    rfl
  rw [if_neg h, hpre, decide_eq_false h]
  rcases ih (k + 1) with ⟨h1, h2⟩ | ⟨j, h1, h2⟩
  · refine Or.inl ⟨h1, ?_⟩
    rw [h2]; try rfl
  refine Or.inr ⟨j + 1, h1.trans (congrArg some (by omega)), ?_⟩
  rw [h2]
  have : ((j : Int) == -1) = false := by simp <;> omega
  simp [this]
theorem cut_read (line : ByteArray) : ∃ (sl sr : ByteArray) (b : Bool), (⟨(Lib.cut line.data.toList (⟨#[32, 61, 32]⟩ : ByteArray).data.toList).1.toArray⟩ : ByteArray) = sl ∧ (⟨(Lib.cut line.data.toList (⟨#[32, 61, 32]⟩ : ByteArray).data.toList).2.1.toArray⟩ : ByteArray) = sr ∧ (Lib.cut line.data.toList (⟨#[32, 61, 32]⟩ : ByteArray).data.toList).2.2 = b ∧ sl.size ≤ line.size ∧ sr.size ≤ line.size ∧
 readRu line = (match exParse sl, exParse sr with
  | some h, some e => if rightParts (rulePart h e) = true ∧ ruStr (rulePart h e) = line then some (rulePart h e) else none
  | _, _ => none) := by
 rw [read_same]
 unfold readOwn readWith
 rcases index_eqs line.data.toList 0 with ⟨h1, h2⟩ | ⟨j, h1, h2⟩
 · obtain ⟨e1, e2, e3⟩ := Lib.cutB_miss line ⟨#[32, 61, 32]⟩ h2
   refine ⟨_, _, _, e1, e2, e3, Nat.le_refl _, Nat.zero_le _, ?_⟩
   rw [h1, show exParse ByteArray.empty = none by decide +kernel]
   cases exParse line <;> rfl
 obtain ⟨e1, e2, e3⟩ := Lib.cutB_hit line ⟨#[32, 61, 32]⟩ j h2
 rw [ext_left] at e1
 have e2' : (⟨(Lib.cut line.data.toList (⟨#[32, 61, 32]⟩ : ByteArray).data.toList).2.1.toArray⟩ : ByteArray) = rightOf line j := by rw [e2]; exact ext_right line j
 refine ⟨_, _, _, e1, e2', e3, ?_, ?_, ?_⟩
 · rw [← ext_left, ByteArray.size_extract]; omega
 · rw [← ext_right, ByteArray.size_extract]; omega
 rw [h1, Nat.zero_add]
 rfl
theorem line_end {w w6 : World} {y0 y1 y2 y3 y4 y5 y6 : Value} (hx : Box7 w6 w.heap.size 36 y0 y1 y2 y3 y4 y5 y6) (hl : Below w.heap.size w w6) (x0 x1 x2 x3 x4 x5 x6 : Value) :
 Box7 (sev w6 w.heap.size 0 x0 x1 x2 x3 x4 x5 x6) w.heap.size 36 x0 x1 x2 x3 x4 x5 x6 ∧ Below w.heap.size w (sev w6 w.heap.size 0 x0 x1 x2 x3 x4 x5 x6) :=
 ⟨sev_box hx _ _ _ _ _ _ _, hl.trans ((sev_fr w6 w.heap.size 0 x0 x1 x2 x3 x4 x5 x6).below (by simp) hl.size)⟩
set_option maxRecDepth 100000 in
theorem own_line (line : ByteArray) (w : World) (mx : Int) (hmx : w.cell? ⟨1, 0, none⟩ = some (.int .i64 mx)) (hs : line.size ≤ 1048576) : Calls Tryz.prog 23 #[.string line] w (LinePost line w) := by
 obtain ⟨W0, hW0⟩ : ∃ W0, W0 = w.alloc (.cells #[.string ⟨#[]⟩, .string ⟨#[]⟩, .slice none 0 0, .slice none 0 0, .int .i64 0, .string ⟨#[]⟩, .slice none 0 0] 36) := ⟨_, rfl⟩
 have hl0 : Below w.heap.size w W0 := by rw [hW0]; exact (Below.refl _ _).alloc (Nat.le_refl _) _
 have hx0 : Box7 W0 w.heap.size 36 (.string ⟨#[]⟩) (.string ⟨#[]⟩) (.slice none 0 0) (.slice none 0 0) (.int .i64 0) (.string ⟨#[]⟩) (.slice none 0 0) := by rw [hW0]; exact heap_alloc_new w _
 have hm0 : W0.cell? ⟨1, 0, none⟩ = some (.int .i64 mx) := (hl0.cell (p := ⟨1, 0, none⟩) (World.block_lt_of_cell? w _ hmx)).trans hmx
 have hct := Tryz.strings_Cut line ⟨#[32, 61, 32]⟩ mx W0 (by omega) hm0
 obtain ⟨sl, sr, cb, he1, he2, he3, hz1, hz2, hrd⟩ := cut_read line
 rw [he1, he2, he3] at hct
 have HCT := zH hct
 have HP1 := zH (fun (W : World) => own_parse sl W (by omega))
 have HP2 := zH (fun (W : World) => own_parse sr W (by omega))
 have HL0 := zH hl0
 have HX0 := zH hx0
 have HW0 := zH hW0
 have HRD := zH hrd
 clear hW0 hl0 hx0 hm0 hct he1 he2 he3 hz1 hz2 hrd hmx hs
 go_enter Tryz.func23, Tryz.ntmps23
 go_wp2_with fail
 go_at_call 46
 rw [← HW0.out]
 refine HCT.out.mono ?_
 rintro e w0 ⟨rfl, qn, rfl⟩
 obtain ⟨V0, hV0⟩ : ∃ V, V = W0.drewN qn := ⟨_, rfl⟩
 have hl1 : Below w.heap.size w V0 := by rw [hV0]; exact drewN_low HL0.out qn
 have hx1 : Box7 V0 w.heap.size 36 (.string ⟨#[]⟩) (.string ⟨#[]⟩) (.slice none 0 0) (.slice none 0 0) (.int .i64 0) (.string ⟨#[]⟩) (.slice none 0 0) := by rw [hV0]; exact HX0.out
 rw [← hV0]
 have HL1 := zH hl1
 have HX1 := zH hx1
 clear hV0 hl1 hx1
 go_wp2_with fail
 go_at_call 47
 refine (HP1.out _).mono ?_
 rintro e w1 ⟨v1, b1, rfl, hi1, hm1, hb1⟩
 obtain ⟨u1, rfl, -, hu1⟩ := id hi1
 obtain ⟨A1, c1, rfl, hc11, hc12, -⟩ := id hu1
 obtain ⟨E1, hE1⟩ : ∃ E1, E1 = (exParse sl).getD zeroEx := ⟨_, rfl⟩
 rw [← hE1] at hi1 hc11 ⊢
 have HI1 := zH hi1
 have HB1 := zH hb1
 have HE1 := zH hE1
 clear hi1 hm1 hb1 hu1 hE1
 go_wp2_with fail
 go_at_call 47
 refine (HP2.out _).mono ?_
 rintro e w2 ⟨v2, b2, rfl, hi2, hm2, hb2⟩
 obtain ⟨u2, rfl, -, hu2⟩ := id hi2
 obtain ⟨A2, c2, rfl, hc21, hc22, -⟩ := id hu2
 obtain ⟨E2, hE2⟩ : ∃ E2, E2 = (exParse sr).getD zeroEx := ⟨_, rfl⟩
 rw [← hE2] at hi2 hc21 ⊢
 have HI2 := zH hi2
 have HM2 := zH hm2
 have HE2 := zH hE2
 have hla : Below w1.heap.size w1 (w1.alloc (.cells #[.int .i64 E1.kind, .string E1.name, .slice A1 E1.args.length c1] 34)) := (Below.refl _ w1).alloc (Nat.le_refl _) _
 have hbx : Below w1.heap.size w1 w2 := hla.trans (hb2.mono (by simp))
 have hl2 : Below w.heap.size w w2 := HL1.out.trans ((HB1.out.trans (hbx.mono HB1.out.size)).mono HL1.out.size)
 have hx2 : Box7 w2 w.heap.size 36 (.string ⟨#[]⟩) (.string ⟨#[]⟩) (.slice none 0 0) (.slice none 0 0) (.int .i64 0) (.string ⟨#[]⟩) (.slice none 0 0) := (HX1.out.keep (Fr.of_below (S := []) HB1.out) (by simp)).keep (Fr.of_below (S := []) hbx) (by simp)
 have h9 : w2.heap[w1.heap.size]? = some (.cells #[.int .i64 E1.kind, .string E1.name, .slice A1 E1.args.length c1] 34 (0, 0)) := (hb2.block _ (by simp)).trans (heap_alloc_new w1 _)
 have q0 : w2.cell? ⟨w1.heap.size, 0, none⟩ = some (.int .i64 E1.kind) := by rw [World.cell?, h9]; rfl
 have q1 : w2.cell? ⟨w1.heap.size, 1, none⟩ = some (.string E1.name) := by rw [World.cell?, h9]; rfl
 have q2 : w2.cell? ⟨w1.heap.size, 2, none⟩ = some (.slice A1 E1.args.length c1) := by rw [World.cell?, h9]; rfl
 have hql : w1.heap.size < w2.heap.size := (Array.getElem?_eq_some_iff.1 h9).1
 have hwl : w.heap.size < w2.heap.size := hx2.lt
 have hwv : w.heap.size < w1.heap.size := Nat.lt_of_lt_of_le HX1.out.lt HB1.out.size
 obtain ⟨j0, j1, j2, j3, j4, j5, j6⟩ := hx2.cells
 have f0 := hx2.thaw 0
 have f1 := hx2.thaw 1
 have f2 := hx2.thaw 2
 have f3 := hx2.thaw 3
 have f4 := hx2.thaw 4
 have f5 := hx2.thaw 5
 have f6 := hx2.thaw 6
 have HL2 := zH hl2
 have HX2 := zH hx2
 have HI1B := zH (HI1.out.below hbx)
 clear hi2 hm2 hb2 hu2 hE2 hla hbx hl2 hx2 h9
 rcases hp1 : exParse sl with _ | e1
 · have HN := zH (show readRu line = none by rw [HRD.out, hp1])
   clear hp1
   go_wp2_with fail
   obtain ⟨hbx, hbl⟩ := zero_back (.cells #[.int .i64 E2.kind, .string E2.name, .slice A2 E2.args.length c2] 34) HX2.out HL2.out (.string ⟨#[]⟩) (.string ⟨#[]⟩) (.slice none 0 0) (.slice none 0 0) (.int .i64 0) (.string ⟨#[]⟩) (.slice none 0 0)
   obtain ⟨Wf, hWf⟩ : ∃ W, W = (sev w2 w.heap.size 0 (.string ⟨#[]⟩) (.string ⟨#[]⟩) (.slice none 0 0) (.slice none 0 0) (.int .i64 0) (.string ⟨#[]⟩) (.slice none 0 0)).alloc (.cells #[.int .i64 E2.kind, .string E2.name, .slice A2 E2.args.length c2] 34) := ⟨_, rfl⟩
   rw [← hWf] at hbx hbl
   unfold sev at hWf
   simp only [Nat.zero_add] at hWf
   rw [← hWf]
   obtain ⟨k0, k1, k2, k3, k4, k5, k6⟩ := hbx.cells
   refine bodyPost_ret (v := .tuple #[.agg #[.string ⟨#[]⟩, .string ⟨#[]⟩, .slice none 0 0, .slice none 0 0, .int .i64 0, .string ⟨#[]⟩, .slice none 0 0], .bool false]) (by simp [results, Tryz.results23, go_sem, k0, k1, k2, k3, k4, k5, k6]) rfl ?_
   exact line_none HN.out hbl
 rcases hp2 : exParse sr with _ | e2
 · have HN := zH (show readRu line = none by rw [HRD.out, hp1, hp2])
   clear hp1 hp2
   go_wp2_with fail
   obtain ⟨hbx, hbl⟩ := zero_back (.cells #[.int .i64 E2.kind, .string E2.name, .slice A2 E2.args.length c2] 34) HX2.out HL2.out (.string ⟨#[]⟩) (.string ⟨#[]⟩) (.slice none 0 0) (.slice none 0 0) (.int .i64 0) (.string ⟨#[]⟩) (.slice none 0 0)
   obtain ⟨Wf, hWf⟩ : ∃ W, W = (sev w2 w.heap.size 0 (.string ⟨#[]⟩) (.string ⟨#[]⟩) (.slice none 0 0) (.slice none 0 0) (.int .i64 0) (.string ⟨#[]⟩) (.slice none 0 0)).alloc (.cells #[.int .i64 E2.kind, .string E2.name, .slice A2 E2.args.length c2] 34) := ⟨_, rfl⟩
   rw [← hWf] at hbx hbl
   unfold sev at hWf
   simp only [Nat.zero_add] at hWf
   rw [← hWf]
   obtain ⟨k0, k1, k2, k3, k4, k5, k6⟩ := hbx.cells
   refine bodyPost_ret (v := .tuple #[.agg #[.string ⟨#[]⟩, .string ⟨#[]⟩, .slice none 0 0, .slice none 0 0, .int .i64 0, .string ⟨#[]⟩, .slice none 0 0], .bool false]) (by simp [results, Tryz.results23, go_sem, k0, k1, k2, k3, k4, k5, k6]) rfl ?_
   exact line_none HN.out hbl
 obtain rfl : E1 = e1 := by rw [HE1.out, hp1]; rfl
 obtain rfl : E2 = e2 := by rw [HE2.out, hp2]; rfl
 rw [hp1, hp2] at HRD
 have ht1 := valid_tot (parse_some hp1).1
 have ht2 := valid_tot (parse_some hp2).1
 obtain ⟨r, hr⟩ : ∃ r, r = rulePart E1 E2 := ⟨_, rfl⟩
 have HRT := zH (show ruTot r ≤ 1048576 by have := part_tot E1 E2; rw [← hr] at this; omega)
 have HRD2 := zH (show readRu line = if rightParts r = true ∧ ruStr r = line then some r else none by rw [HRD.out, hr])
 have hba : Below w2.heap.size w2 (w2.alloc (.cells #[.int .i64 E2.kind, .string E2.name, .slice A2 E2.args.length c2] 34)) := (Below.refl _ w2).alloc (Nat.le_refl _) _
 have hfr := own_from E1 E2 _ _ b1 b2 (w2.alloc (.cells #[.int .i64 E2.kind, .string E2.name, .slice A2 E2.args.length c2] 34)) (HI1B.out.below hba) (HI2.out.below hba) (by omega) (fun x hx => by have := (HM2.out.range x hx).2; simp; omega)
 rw [← hr] at hfr
 have HFR := zH hfr
 have HBA := zH hba
 clear hp1 hp2 ht1 ht2 hr hba hfr
 go_wp2_with fail
 go_at_call 48
 refine HFR.out.mono ?_
 rintro e w4 ⟨v4, bs, rfl, hri, hmi, hb4⟩
 obtain ⟨x1, x2, u, d1, d2, d3, rfl, -, -, -, hd1, hd2, hd3⟩ := id hri
 obtain ⟨X1, k1, rfl⟩ := hd1.slice
 obtain ⟨X2, k2, rfl⟩ := hd2.slice
 obtain ⟨X3, z3, k3, rfl⟩ := his_slice0 hd3
 clear hd1 hd2 hd3
 have hba := HBA.out
 have hb24 : Below w2.heap.size w2 w4 := hba.trans (hb4.mono (by simp))
 have hl4 : Below w.heap.size w w4 := HL2.out.trans (hb24.mono HL2.out.size)
 have hx4 : Box7 w4 w.heap.size 36 (.string ⟨#[]⟩) (.string ⟨#[]⟩) (.slice none 0 0) (.slice none 0 0) (.int .i64 0) (.string ⟨#[]⟩) (.slice none 0 0) := HX2.out.keep (Fr.of_below (S := []) hb24) (by simp)
 obtain ⟨W5, hW5⟩ : ∃ W5, W5 = w4.alloc (.cells #[.string r.name, .string r.con, .slice X1 r.vars.length k1, .slice X2 r.params.length k2, .int .i64 r.body.kind, .string r.body.name, .slice X3 z3 k3] 36) := ⟨_, rfl⟩
 have hb5 : Below w4.heap.size w4 W5 := by rw [hW5]; exact (Below.refl _ w4).alloc (Nat.le_refl _) _
 have hr5 : Box7 W5 w4.heap.size 36 (.string r.name) (.string r.con) (.slice X1 r.vars.length k1) (.slice X2 r.params.length k2) (.int .i64 r.body.kind) (.string r.body.name) (.slice X3 z3 k3) := by rw [hW5]; exact heap_alloc_new w4 _
 have hx5 := hx4.keep (Fr.of_below (S := []) hb5) (by simp)
 have HW5 := zH hW5
 have HR7 := zH (fun (Y : World) (hY : Below W5.heap.size W5 Y) => hr5.keep (Fr.of_below (S := []) hY) (by simp))
 have HT7 := zH (fun (Y : World) (hY : Below W5.heap.size W5 Y) => hx5.keep (Fr.of_below (S := []) hY) (by simp))
 have HLW := zH (fun (Y : World) (hY : Below W5.heap.size W5 Y) => hl4.trans ((hb5.trans (hY.mono hb5.size)).mono hl4.size))
 have HRI := zH (fun (Y : World) (hY : Below W5.heap.size W5 Y) => hri.below (hb5.trans (hY.mono hb5.size)))
 have hmm : Mine w4 (w.heap.size + 1) (bs ++ b2) := mine_app (hmi.mono (by simp; omega)) ((HM2.out.keeps (keeps_below hb24 b2)).mono (by simp; omega)) (fun x hx hx2 => by have := (hmi.range x hx).1; have := (HM2.out.range x hx2).2; simp at *; omega)
 have HMM := zH (fun (Y : World) (hY : Below W5.heap.size W5 Y) => hmm.keeps (keeps_below (hb5.trans (hY.mono hb5.size)) (bs ++ b2)))
 have HPA := zH (own_parts r _ (bs ++ b2) W5 (hri.below hb5) HRT.out)
 have HTX := zH (fun (Y : World) (hY : Below W5.heap.size W5 Y) => own_rutext r _ (bs ++ b2) Y (hri.below (hb5.trans (hY.mono hb5.size))) HRT.out)
 clear hba hb24 hl4 hx4 hW5 hb5 hr5 hx5 hri hmi hb4 hmm j0 j1 j2 j3 j4 j5 j6 f0 f1 f2 f3 f4 f5 f6
 generalize rightParts r = rp at *
 generalize ruStr r = rt at *
 go_wp2_with fail
 go_at_call 49
 rw [← HW5.out]
 refine HPA.out.mono ?_
 rintro e w5 ⟨rfl, hb0⟩
 have HBw5 := zH hb0
 obtain ⟨p0, p1, p2, p3, p4, p5, p6⟩ := (HR7.out w5 HBw5.out).cells
 obtain ⟨s0, s1, s2, s3, s4, s5, s6⟩ := (HT7.out w5 HBw5.out).cells
 have t0 := (HT7.out w5 HBw5.out).thaw 0
 have t1 := (HT7.out w5 HBw5.out).thaw 1
 have t2 := (HT7.out w5 HBw5.out).thaw 2
 have t3 := (HT7.out w5 HBw5.out).thaw 3
 have t4 := (HT7.out w5 HBw5.out).thaw 4
 have t5 := (HT7.out w5 HBw5.out).thaw 5
 have t6 := (HT7.out w5 HBw5.out).thaw 6
 clear hb0
 cases rp
 · have HN := zH (show readRu line = none by rw [HRD2.out]; simp)
   go_wp2_with fail
   obtain ⟨hbx, hbl⟩ := line_end (HT7.out w5 HBw5.out) (HLW.out w5 HBw5.out) (.string ⟨#[]⟩) (.string ⟨#[]⟩) (.slice none 0 0) (.slice none 0 0) (.int .i64 0) (.string ⟨#[]⟩) (.slice none 0 0)
   obtain ⟨Wf, hWf⟩ : ∃ W, W = sev w5 w.heap.size 0 (.string ⟨#[]⟩) (.string ⟨#[]⟩) (.slice none 0 0) (.slice none 0 0) (.int .i64 0) (.string ⟨#[]⟩) (.slice none 0 0) := ⟨_, rfl⟩
   rw [← hWf] at hbx hbl
   have HWF := zH hWf
   unfold sev at hWf
   simp only [Nat.zero_add] at hWf
   rw [← hWf]
   obtain ⟨k0', k1', k2', k3', k4', k5', k6'⟩ := hbx.cells
   refine bodyPost_ret (v := .tuple #[.agg #[.string ⟨#[]⟩, .string ⟨#[]⟩, .slice none 0 0, .slice none 0 0, .int .i64 0, .string ⟨#[]⟩, .slice none 0 0], .bool false]) (by simp [results, Tryz.results23, go_sem, k0', k1', k2', k3', k4', k5', k6']) rfl ?_
   exact line_none HN.out hbl
 go_wp2_with fail
 go_at_call 50
 refine (HTX.out w5 HBw5.out).mono ?_
 rintro e w6 ⟨rfl, hb0⟩
 have HBw6 := zH (HBw5.out.trans (hb0.mono HBw5.out.size))
 obtain ⟨p'0, p'1, p'2, p'3, p'4, p'5, p'6⟩ := (HR7.out w6 HBw6.out).cells
 obtain ⟨s'0, s'1, s'2, s'3, s'4, s'5, s'6⟩ := (HT7.out w6 HBw6.out).cells
 have t'0 := (HT7.out w6 HBw6.out).thaw 0
 have t'1 := (HT7.out w6 HBw6.out).thaw 1
 have t'2 := (HT7.out w6 HBw6.out).thaw 2
 have t'3 := (HT7.out w6 HBw6.out).thaw 3
 have t'4 := (HT7.out w6 HBw6.out).thaw 4
 have t'5 := (HT7.out w6 HBw6.out).thaw 5
 have t'6 := (HT7.out w6 HBw6.out).thaw 6
 clear hb0
 by_cases hrt : rt = line
 · have heq9 : (rt.toList == line.toList) = true := by rw [hrt]; simp
   have HS := zH (show readRu line = some r by rw [HRD2.out]; simp [hrt])
   clear hrt
   go_wp2_with fail
   obtain ⟨hbx, hbl⟩ := line_end (HT7.out w6 HBw6.out) (HLW.out w6 HBw6.out) (.string r.name) (.string r.con) (.slice X1 r.vars.length k1) (.slice X2 r.params.length k2) (.int .i64 r.body.kind) (.string r.body.name) (.slice X3 z3 k3)
   obtain ⟨Wf, hWf⟩ : ∃ W, W = sev w6 w.heap.size 0 (.string r.name) (.string r.con) (.slice X1 r.vars.length k1) (.slice X2 r.params.length k2) (.int .i64 r.body.kind) (.string r.body.name) (.slice X3 z3 k3) := ⟨_, rfl⟩
   rw [← hWf] at hbx hbl
   have HWF := zH hWf
   unfold sev at hWf
   simp only [Nat.zero_add] at hWf
   rw [← hWf]
   obtain ⟨k0', k1', k2', k3', k4', k5', k6'⟩ := hbx.cells
   refine bodyPost_ret (v := .tuple #[.agg #[.string r.name, .string r.con, .slice X1 r.vars.length k1, .slice X2 r.params.length k2, .int .i64 r.body.kind, .string r.body.name, .slice X3 z3 k3], .bool true]) (by simp [results, Tryz.results23, go_sem, k0', k1', k2', k3', k4', k5', k6']) rfl ?_
   have hkk : Keeps w6 Wf (bs ++ b2) := by rw [HWF.out]; exact fr_keeps (sev_fr w6 w.heap.size 0 (.string r.name) (.string r.con) (.slice X1 r.vars.length k1) (.slice X2 r.params.length k2) (.int .i64 r.body.kind) (.string r.body.name) (.slice X3 z3 k3)) (fun x hx => by have := ((HMM.out w6 HBw6.out).range x hx).1; simp; omega)
   exact ⟨_, r, bs ++ b2, by rw [HS.out]; rfl, (HRI.out w6 HBw6.out).keeps hkk, ((HMM.out w6 HBw6.out).keeps hkk).mono (by omega), hbl, fun r2 e2 => by rw [HS.out] at e2; exact Option.some.inj e2⟩
 have heq9 : (rt.toList == line.toList) = false := toList_ne hrt
 have HN := zH (show readRu line = none by rw [HRD2.out]; simp [hrt])
 clear hrt
 go_wp2_with fail
 obtain ⟨hbx, hbl⟩ := line_end (HT7.out w6 HBw6.out) (HLW.out w6 HBw6.out) (.string ⟨#[]⟩) (.string ⟨#[]⟩) (.slice none 0 0) (.slice none 0 0) (.int .i64 0) (.string ⟨#[]⟩) (.slice none 0 0)
 obtain ⟨Wf, hWf⟩ : ∃ W, W = sev w6 w.heap.size 0 (.string ⟨#[]⟩) (.string ⟨#[]⟩) (.slice none 0 0) (.slice none 0 0) (.int .i64 0) (.string ⟨#[]⟩) (.slice none 0 0) := ⟨_, rfl⟩
 rw [← hWf] at hbx hbl
 have HWF := zH hWf
 unfold sev at hWf
 simp only [Nat.zero_add] at hWf
 rw [← hWf]
 obtain ⟨k0', k1', k2', k3', k4', k5', k6'⟩ := hbx.cells
 refine bodyPost_ret (v := .tuple #[.agg #[.string ⟨#[]⟩, .string ⟨#[]⟩, .slice none 0 0, .slice none 0 0, .int .i64 0, .string ⟨#[]⟩, .slice none 0 0], .bool false]) (by simp [results, Tryz.results23, go_sem, k0', k1', k2', k3', k4', k5', k6']) rfl ?_
 exact line_none HN.out hbl
end Go.Proofs.YthljhiklpopmgaaGreatDoor
namespace Go.Proofs.YthljhiklpopmgaaGreatDoor
open Go Go.RowKit
def fit1 (rs : List Ru) (all n : Ex) : Bool := if n.kind = 3 then decide ((n.args.length : Int) = arityR rs n.name) else if n.kind = 2 then decide ((n.args.length : Int) = (if conR n.name rs < 0 then conE n.name all else conR n.name rs)) else true
theorem fit_nodes (rs : List Ru) (all : Ex) (n : Nat) : (∀ e : Ex, exSize e ≤ n → fitE rs all e = (exNodes e).all (fit1 rs all)) ∧ (∀ l : List Ex, exSizes l ≤ n → fitL rs all l = (exNodesL l).all (fit1 rs all)) := by
 induction n with
 | zero =>
  refine ⟨fun e h => by have := exSize_pos e; omega, fun l h => ?_⟩
  cases l with
  | nil => simp [exNodesL, fitL]
  | cons e r => rw [exSizes] at h; have := exSize_pos e; omega
 | succ n ih =>
  have hE : ∀ e : Ex, exSize e ≤ n + 1 → fitE rs all e = (exNodes e).all (fit1 rs all) := by
   intro e h
   cases e with
   | mk k s l =>
    rw [exSize] at h
    rw [exNodes, fitE, ih.2 l (by omega), List.all_cons, Bool.and_comm]
    rfl
  refine ⟨hE, ?_⟩
  intro l
  induction l with
  | nil => intro _; simp [exNodesL, fitL]
  | cons e r ihl =>
   intro h
   rw [exSizes] at h
   rw [exNodesL, fitL, List.all_append, hE e (by omega), ihl (by omega)]
def chkO (len : Nat) : Option Cn → Bool
 | none => true
 | some y => decide (len = y.2)
def chk (rs : List Ru) (seen : List Ex) (n : Ex) : Bool := if n.kind = 3 then decide ((n.args.length : Int) = arityR rs n.name) else if n.kind = 2 then (if 0 ≤ conR n.name rs then decide ((n.args.length : Int) = conR n.name rs) else chkO n.args.length ((seen.filterMap conOf).find? (isC n.name))) else true
def okL (rs : List Ru) : List Ex → List Ex → Bool
 | _, [] => true
 | seen, n :: t => chk rs seen n && okL rs (seen ++ [n]) t
theorem okL_app (rs : List Ru) : ∀ (a b seen : List Ex), okL rs seen (a ++ b) = (okL rs seen a && okL rs (seen ++ a) b) := by
 intro a
 induction a with
 | nil => intro b seen; simp [okL]
 | cons n t ih => intro b seen; rw [List.cons_append, okL, okL, ih, Bool.and_assoc, List.append_assoc]; rfl
theorem okL_snoc (rs : List Ru) (a : List Ex) (n : Ex) : okL rs [] (a ++ [n]) = (okL rs [] a && chk rs a n) := by
 rw [okL_app]; simp [okL]
theorem okL_all (rs : List Ru) (e : Ex) : ∀ (t seen : List Ex), seen ++ t = exNodes e → okL rs seen t = t.all (fit1 rs e) := by
 intro t
 induction t with
 | nil => intro seen _; rfl
 | cons n t ih =>
  intro seen h
  rw [okL, List.all_cons, ih (seen ++ [n]) (by rw [← h]; simp)]
  congr 1
  unfold chk fit1
  by_cases h3 : n.kind = 3
  · rw [if_pos h3, if_pos h3]
  rw [if_neg h3, if_neg h3]
  by_cases h2 : n.kind = 2
  · rw [if_pos h2, if_pos h2]
    by_cases h0 : 0 ≤ conR n.name rs
    · rw [if_pos h0, if_neg (by omega)]
    rw [if_neg h0, if_pos (by omega), (conE_find n.name _).1 e (Nat.le_refl _), bodyOf, ← h, List.filterMap_append, List.find?_append]
    cases hs : (seen.filterMap conOf).find? (isC n.name) with
    | some y =>
     simp [arOf, chkO]
     omega
    | none =>
     have : (List.filterMap conOf (n :: t)).find? (isC n.name) = some (n.name, n.args.length) := by simp [conOf, h2, isC]
     rw [this]
     simp [arOf, chkO]
  rw [if_neg h2, if_neg h2]
theorem fit_ok (rs : List Ru) (e : Ex) : fitE rs e e = okL rs [] (exNodes e) := by
 rw [(fit_nodes rs e _).1 e (Nat.le_refl _), okL_all rs e (exNodes e) [] rfl]
def ownOf (rs : List Ru) (seen : List Ex) : List Cn := (seen.filterMap conOf).filter (fun y => decide (conR y.1 rs < 0))
theorem own_find' (rs : List Ru) (seen : List Ex) (s : ByteArray) (h : conR s rs < 0) : (ownOf rs seen).find? (isC s) = (seen.filterMap conOf).find? (isC s) := by
 unfold ownOf
 rw [List.find?_filter]
 congr 1
 funext y
 by_cases hy : y.1 = s
 · simp [isC, hy, h]
 simp [isC, hy]
end Go.Proofs.YthljhiklpopmgaaGreatDoor
