/- A part of the proof of the seat's statement: Cons. Condition: as each says. -/
import Derived.Test.YtiaknfnhmoinpaaGreatRuGet
import Derived.Test.YtiaknfnhmoinpaaGreatRuHead
set_option maxHeartbeats 8000000
namespace Go.Proofs.YtiaknfnhmoinpaaGreat
open Go Go.RowKit Go.Shelf
attribute [local go_sem] Oper.semAt_some
structure Ob (J : List Cn → List Nat → World → Prop) (wo : World) (lp By : Nat) (Ds : List Nat) (pre : List Cn) (M : List Nat) (W : World) : Prop where
 j : J pre M W
 lt : ∀ k ∈ M, k < W.heap.size
 n0 : ∀ k ∈ M, wo.heap.size ≤ k
 low : Below wo.heap.size wo W
 byM : By ∈ M
 box : Boxed W By 100 (.func (.yield lp) #[] #[])
 marks : Marks wo.heap.size Ds M W
theorem Ob.grow {J : List Cn → List Nat → World → Prop} {wo : World} {lp By : Nat} {Ds : List Nat} {pre : List Cn} {M : List Nat} {W W2 : World} (h : Ob J wo lp By Ds pre M W) (hJ : Minds J) (hb : Below W.heap.size W W2) (ks : List Nat) (hk : ∀ k ∈ ks, W.heap.size ≤ k ∧ k < W2.heap.size) : Ob J wo lp By Ds pre (ks ++ M) W2 := by
 refine ⟨hJ _ _ _ _ _ h.j (Fr.of_below hb) (fun k hk2 => ?_), fun k hk2 => ?_, fun k hk2 => ?_, h.low.trans (hb.mono h.low.size), by simp [h.byM], box_on h.box (hb.block _ h.box.lt), h.marks.1, fun D hD => ?_⟩
 · rcases List.mem_append.1 hk2 with h2 | h2
   · exact Or.inr (hk k h2).1
   exact Or.inl h2
 · rcases List.mem_append.1 hk2 with h2 | h2
   · exact (hk k h2).2
   exact nL (h.lt k h2) hb.size
 · rcases List.mem_append.1 hk2 with h2 | h2
   · exact nT h.low.size (hk k h2).1
   exact h.n0 k h2
 obtain ⟨h1, h2, h3⟩ := h.marks.2 D hD
 exact ⟨by simp [h1], (hb.block D (h.lt D h1)).trans h2, h3⟩
theorem Ob.kept {J J2 : List Cn → List Nat → World → Prop} {wo : World} {lp By : Nat} {Ds : List Nat} {pre pre2 : List Cn} {M : List Nat} {W W2 : World} (h : Ob J wo lp By Ds pre M W) (hk : Kept wo.heap.size M W W2) (hj : J2 pre2 M W2) : Ob J2 wo lp By Ds pre2 M W2 := by
 refine ⟨hj, fun k hk2 => nL (h.lt k hk2) hk.1.size, h.n0, h.low.trans hk.1, h.byM, box_on h.box (hk.2 _ h.byM), h.marks.1, fun D hD => ?_⟩
 obtain ⟨h1, h2, h3⟩ := h.marks.2 D hD
 exact ⟨h1, (hk.2 D h1).trans h2, h3⟩
theorem Ob.behind {J J2 : List Cn → List Nat → World → Prop} {wo : World} {lp By D : Nat} {Ds : List Nat} {pre pre2 : List Cn} {M5 M2 M' : List Nat} {W5 X : World} (h5 : Ob J wo lp By Ds pre M5 W5) (g1 : J2 pre2 M' X) (g2 : ∀ k ∈ M2, k ∈ M') (g3 : ∀ k ∈ By :: Ds, k ∈ M' ∧ k ∉ M2 ∧ k < X.heap.size ∧ X.heap[k]? = W5.heap[k]?) (g4 : ∀ k ∈ M', wo.heap.size ≤ k ∧ (k ∈ M2 ∨ k < X.heap.size)) (hM2 : ∀ k ∈ M2, wo.heap.size ≤ k ∧ k < X.heap.size) (hD : D ∈ M2) (hK : X.heap[D]? = some (.deferred (some []))) (hlow : Below wo.heap.size W5 X) : Ob J2 wo lp By (D :: Ds) pre2 M' X := by
 obtain ⟨y1, y2, y3, y4⟩ := g3 By (by simp)
 refine ⟨g1, fun k hk => (g4 k hk).2.elim (fun h => (hM2 k h).2) id, fun k hk => (g4 k hk).1, h5.low.trans hlow, y1, box_on h5.box y4, List.nodup_cons.2 ⟨fun h => (g3 D (by simp [h])).2.1 hD, h5.marks.1⟩, fun E hE => ?_⟩
 rcases List.mem_cons.1 hE with rfl | hE
 · exact ⟨g2 _ hD, hK, (hM2 _ hD).1⟩
 obtain ⟨e1, e2, e3, e4⟩ := g3 E (by simp [hE])
 obtain ⟨-, d2, d3⟩ := h5.marks.2 E hE
 exact ⟨e1, e4.trans d2, d3⟩
theorem kept_after {n₀ : Nat} {M : List Nat} {X Y Z : World} (h : Below X.heap.size X Y) (hl : ∀ k ∈ M, k < X.heap.size) (hn : n₀ ≤ X.heap.size) (hk : Kept n₀ M Y Z) : Kept n₀ M X Z :=
 ⟨(h.mono hn).trans hk.1, fun k hk2 => (hk.2 k hk2).trans (h.block k (hl k hk2))⟩
theorem SsIs.strs_len {w : World} {v : Value} {xs : List ByteArray} {bs : List Nat} (h : SsIs w v xs bs) : (xs.length : Int) ≤ 9223372036854775807 := by
 obtain ⟨A, c, rfl⟩ := h.slice
 have := h.strs
 omega
set_option maxRecDepth 100000 in
theorem cons_stops (F : Fence) (n : Nat) (hFw : F = Fence.wide) (hro : F.round = none) (hF : ∀ k, F.fn k) (hn : 9 ≤ n) (wo : World) (l : List Ru) (A : Option Addr) (m c : Nat) (bs : List Nat) (hv : RsIs wo (.slice A m c) l bs) (hsz : ∀ r ∈ l, exSize r.body ≤ 1099511627776) (hfr : ∀ z ∈ bs, ∀ o, wo.frozen? ⟨z, o, none⟩ = false) (Bp : Nat) (w : World) (hW : Below wo.heap.size wo w) (hBp : w.cell? ⟨Bp, 0, none⟩ = some (.slice A m c)) (hBl : Bp < w.heap.size) :
 SeqF F n Tryz.prog 61 #[.pointer (some ⟨Bp, 0, none⟩)] Cn.enc wo.heap.size (fun xs => ∀ q, xs.find? q = (consAll l).find? q) (fun pre => ∃ rest, ∀ q, (pre ++ rest).find? q = (consAll l).find? q) (cntR l) [] w := by
 intro lp J Jx W hwW hJ hJx hY h0
 have hn1 : 1 ≤ n := by omega
 have hBW : W.cell? ⟨Bp, 0, none⟩ = some (.slice A m c) := (hwW.cell (p := ⟨Bp, 0, none⟩) hBl).trans hBp
 have hbl : Bp < W.heap.size := nL hBl hwW.size
 obtain ⟨hm, hmc, hc⟩ := hv.len
 have hm3 : (m : Int) ≤ 9223372036854775807 := by omega
 have HFW := zH hFw
 have HV := zH hv
 have HM := zH hm
 have HSZ := zH hsz
 have HFR := zH hfr
 have HY := zH hY
 have HJ := zH hJ
 have HJX := zH hJx
 have HJ0 := zH h0
 have HW := zH (hW.trans (hwW.mono hW.size))
 clear hFw hv hm hsz hfr hY hJ hJx h0 hW hwW hBp hBl
 refine callsIn_of_wp_marks Tryz.func61 rfl (hF _) ?_ hro
 simp only [Tryz.ntmps61, List.size_toArray, lC, List.length_nil, Nat.reduceAdd, Nat.reduceSub, Array.replicate_succ, Array.replicate_zero, List.push_toArray, List.append_toArray, List.nil_append, List.cons_append]
 gi_wp2
 refine wpIn_loop_ghost_k (fun k a wr => ∃ (Ds M : List Nat) (pre : List Cn) (i : Nat) (u3 u4 u5 u6 u7 u8 u12 u13 u14 u15 u16 u17 u18 u19 u20 u21 u22 u23 u24 u25 u26 u27 u28 u29 u30 u31 u32 u33 u34 u35 u36 u37 u38 u39 u40 u41 u42 u43 u44 u45 u46 u47 u48 u49 u50 u51 : Value), a = { tmps := #[.func (.yield lp) #[] #[], .pointer (some ⟨Bp, 0, none⟩), .pointer (some ⟨W.heap.size, 0, none⟩), u3, u4, u5, u6, u7, u8, .slice A m c, .int .i64 (m : Int), .int .i64 (i : Int), u12, u13, u14, u15, u16, u17, u18, u19, u20, u21, u22, u23, u24, u25, u26, u27, u28, u29, u30, u31, u32, u33, u34, u35, u36, u37, u38, u39, u40, u41, u42, u43, u44, u45, u46, u47, u48, u49, u50, u51], defers := Ds.map markOf } ∧ i ≤ m ∧ k + i = m ∧ Hid (Ob J wo lp W.heap.size Ds pre M wr) ∧ Hid (∀ q, pre.find? q = (consAll (l.take i)).find? q) ∧ Hid (pre.length ≤ cntR (l.take i))) m ?_ ?_
 · have hs : (W.alloc (.cells #[.func (.yield lp) #[] #[]] 100)).heap.size = W.heap.size + 1 := by simp
   have hlw : Below W.heap.size W (W.alloc (.cells #[.func (.yield lp) #[] #[]] 100)) := (wB _ _).alloc (nR _) _
   have hws := HW.out.size
   refine ⟨[], [W.heap.size], [], 0, _, _, _, _, _, _, _, _, _, _, _, _, _, _, _, _, _, _, _, _, _, _, _, _, _, _, _, _, _, _, _, _, _, _, _, _, _, _, _, _, _, _, _, _, _, _, rfl, by omega, by omega, zH ⟨HJ.out _ _ _ _ _ HJ0.out (Fr.of_below hlw) (fun k hk => by simp at hk; omega), fun k hk => by simp at hk; omega, fun k hk => by simp at hk; omega, HW.out.trans (hlw.mono hws), by simp, Boxed.new W _ _, by simp, fun D hD => by cases hD⟩, zH (fun q => by simp [consAll]), zH (by simp)⟩
 rintro gk _ wr ⟨Ds, M, pre, i, u3, u4, u5, u6, u7, u8, u12, u13, u14, u15, u16, u17, u18, u19, u20, u21, u22, u23, u24, u25, u26, u27, u28, u29, u30, u31, u32, u33, u34, u35, u36, u37, u38, u39, u40, u41, u42, u43, u44, u45, u46, u47, u48, u49, u50, u51, rfl, hi, hki, HOB, HFI, HLE⟩ JJ KK hJJ hKK
 by_cases hlt : i < m
 · obtain ⟨g, o, r, v1, v2, u, b1', hra, hsub⟩ := HV.out.get2 i (by rw [← HM.out]; exact hlt)
   obtain ⟨rfl, hbl', hget, hmem, hcs, his⟩ := hra
   have hcw := hcs.of (w' := wr) (fun mm _ _ => HOB.out.low.cell (p := ⟨g, mm, none⟩) hbl')
   obtain ⟨c0, c1, c2, c3, c4, c5, c6⟩ := hcw
   clear hcs
   obtain ⟨z1, z2, z3, hz, -, -, hp1, hp2, hp3⟩ := his.parts
   have hsl := hp1.strs_len
   obtain ⟨A1, k1, rfl⟩ := hp1.slice
   obtain ⟨A2, k2, rfl⟩ := hp2.slice
   obtain ⟨A3, q3, k3, rfl⟩ := his_slice0 hp3
   have HHP := zH hp3
   have HGET := zH hget
   have HBD := zH (HSZ.out r hmem)
   have HFB := zH (show ∀ z ∈ z3, ∀ o, wo.frozen? ⟨z, o, none⟩ = false from fun z hzz => HFR.out z (hsub z (by rw [hz]; simp [hzz])))
   obtain ⟨q1, hq1⟩ : ∃ q1, q1 = r.vars.length := ⟨_, rfl⟩
   rw [← hq1] at c2 hsl
   have HQ1 := zH hq1
   have hq1m : (q1 : Int) ≤ 9223372036854775807 := hsl
   clear hp1 hp2 hp3 his hget hmem hz hq1 hsl hsub
   have HOW := zH (show Ob J wo lp W.heap.size Ds pre (wr.heap.size :: M) (wr.alloc (.cells #[.string r.name, .string r.con, .slice A1 q1 k1, .slice A2 r.params.length k2, .int .i64 r.body.kind, .string r.body.name, .slice A3 q3 k3] 34)) from HOB.out.grow HJ.out ((wB _ _).alloc (nR _) _) [wr.heap.size] (fun k hk => by simp at hk; subst hk; simp))
   have HLT := zH (show cntR (l.take i) + (exSize r.body + 1) ≤ cntR l by
    have := cntR_take l (i + 1)
    rw [take_ru l i r HGET.out, cntR_snoc] at this
    exact this)
   by_cases hcon : r.con.size = 0
   · have hbe := empty_yes hcon
     have HFH := zH (nohead_find (r := r) HFI.out hcon)
     clear hcon
     have HPL := zH (show pre.length ≤ cntR (l.take i) + 1 by have := HLE.out; omega)
     gi_wp2_with (gi_at_call 62; refine (nodesOnce_in F (n - 1) hF hro (by omega) _ _ _ _ _ _).mono ?_; rintro e w' ⟨rfl, rfl⟩)
     obtain ⟨W3, hW3⟩ : ∃ W3, W3 = wr.alloc (.cells #[.string r.name, .string r.con, .slice A1 q1 k1, .slice A2 r.params.length k2, .int .i64 r.body.kind, .string r.body.name, .slice A3 q3 k3] 34) := ⟨_, rfl⟩
     rw [← hW3] at HOW ⊢
     have HO3 := HOW
     have hsz3 : W3.heap.size = wr.heap.size + 1 := by rw [hW3]; simp
     clear hW3
     obtain ⟨W5, hW5⟩ : ∃ W5, W5 = onceW W3 r.body.kind r.body.name (.slice A3 q3 k3) := ⟨_, rfl⟩
     rw [← hW5]
     obtain ⟨b3, hb3⟩ : ∃ b3, b3 = wr.heap.size + 1 := ⟨_, rfl⟩
     rw [← hb3]
     have HB3 := zH (show b3 = W3.heap.size from (by rw [hb3, hsz3]))
     have hs5 : W5.heap.size = b3 + 5 := by rw [hW5, onceW_size, HB3.out]
     have hlow5 : Below W3.heap.size W3 W5 := by rw [hW5]; exact onceW_below (wB _ _) (nR _) _ _ _
     have HO5 := zH (HO3.out.grow HJ.out hlow5 [b3 + 4, b3 + 2, b3 + 1] (fun k hk => by have := HB3.out; simp at hk; omega))
     have HW5 := zH hW5
     have HS5 := zH hs5
     clear hW5 hs5 hb3 hlow5
     have HBYL := zH HO3.out.box.lt
     refine wpIn_rangeFunc_nest hro hn1 (gf := 98) (lb := onceLb b3) rfl (hF _) (enters_of Tryz.func98 (by kernel_rfl) rfl)
      (once_stops F (n - 1) HFW.out hro hF (by omega) wo r.body (.slice A3 q3 k3) z3 HHP.out HBD.out HFB.out b3 W3 W5 HB3.out HW5.out HO3.out.low) (wB _ _) (nT HO3.out.low.size (by have := HS5.out; have := HB3.out; omega)) (fun _ => rfl)
      (Inn (fun (ys : List (It wo)) M W => ys.length ≤ exSize r.body ∧ J (pre ++ consO ys) M W) wo.heap.size (W.heap.size :: Ds) W5) (fun cc ys M W6 => cc = .ret ∧ Inn (fun (ys : List (It wo)) M W => Jx (pre ++ consO ys) M W) wo.heap.size (W.heap.size :: Ds) W5 ys M W6)
      (Inn.minds (fun ys M M2 A B h hf hm => ⟨h.1, HJ.out _ _ _ _ _ h.2 hf hm⟩)) (fun cc pre M M2 A B h hf hm => ⟨h.1, Inn.minds (fun ys M M2 A B h hf hm => HJX.out _ _ _ _ _ h hf hm) pre M M2 A B h.2 hf hm⟩)
      [b3 + 4, b3 + 2, b3 + 1] ?start (fun k hk => hk) ?inm
      (fun b _ x a2 X => a2 = { tmps := #[.func (.yield lp) #[] #[], .pointer (some ⟨Bp, 0, none⟩), .pointer (some ⟨W.heap.size, 0, none⟩), u3, .pointer (some ⟨wr.heap.size, 0, none⟩), .pointer (some ⟨b, 0, none⟩), u6, u7, u8, .slice (some ⟨g, o, none⟩) m c, .int .i64 (m : Int), .int .i64 (i : Int), .bool true, .pointer (some ⟨g, o + i * 7, none⟩), .agg #[.string r.name, .string r.con, .slice A1 q1 k1, .slice A2 r.params.length k2, .int .i64 r.body.kind, .string r.body.name, .slice A3 q3 k3], .pointer (some ⟨wr.heap.size, 1, none⟩), .string r.con, .bool false, .bool false, undef, undef, undef, undef, undef, undef, undef, undef, .bool false, .pointer (some ⟨wr.heap.size, 4, none⟩), .agg #[.int .i64 r.body.kind, .string r.body.name, .slice A3 q3 k3], onceFun b3, x.val, u32, u33, u34, u35, u36, u37, u38, u39, u40, u41, u42, u43, u44, u45, u46, u47, u48, u49, u50, u51], defers := [] } ∧ X.heap[b]? = some (.cells #[.int .i64 x.ex.kind, .string x.ex.name, x.1.2.2.1] 32 (0, 0)))
      (fun b ys x a2 X l o h hl => ⟨h.1, (World.putObj_heap_other (by omega)).trans h.2⟩) ?assign ?body ?done ?stop
     case start =>
      have hj5 : J (pre ++ consO (wo := wo) []) ([b3 + 4, b3 + 2, b3 + 1] ++ wr.heap.size :: M) W5 := by rw [show consO (wo := wo) [] = [] from rfl, List.append_nil]; exact HO5.out.j
      refine ⟨_, ⟨by simp, hj5⟩, fun k hk => List.mem_append_left _ hk, fun k hk => ?_, fun k hk => ⟨HO5.out.n0 k hk, Or.inr (HO5.out.lt k hk)⟩, HO5.out.low.size⟩
      have hk3 : k ∈ wr.heap.size :: M ∧ k < W3.heap.size := by
       rcases List.mem_cons.1 hk with rfl | hk
       · exact ⟨HO3.out.byM, HBYL.out⟩
       exact ⟨(HO3.out.marks.2 k hk).1, HO3.out.lt k (HO3.out.marks.2 k hk).1⟩
      exact ⟨List.mem_append_right _ hk3.1, by have := HB3.out; simp; omega, by have := HS5.out; have := HB3.out; omega, rfl⟩
     case inm =>
      intro k hk
      have h1 := HO3.out.low.size
      have h2 := HS5.out
      have h3 := HB3.out
      simp at hk
      omega
     case assign =>
      intro l2 ys x X KX hK
      obtain ⟨A4, c4', hu2, -, -, -⟩ := x.slice
      have hv : x.val = .agg #[.int .i64 x.ex.kind, .string x.ex.name, .slice A4 x.ex.args.length c4'] := by rw [← hu2]; rfl
      have HU2 := zH hu2
      have HV2 := zH hv
      have HKX := zH hK
      dsimp only
      rw [hv]
      clear hu2 hv hK
      gi_wp2
      refine HKX.out _ _ (Fr.alloc _ _) ⟨?_, ?_⟩
      · rw [HV2.out]
      rw [HU2.out]; exact World.alloc_heap_new _ _
     case body =>
      rintro l2 b2 ys x _ M2 X ⟨M', g1, g2, g3, g4, g5⟩ ⟨rfl, hnx⟩ hM2 hb2 hlow2 hlen
      have hn3 : 1 ≤ n - 1 - 1 := by omega
      obtain ⟨A4, c4', hu2, -, -, -⟩ := x.slice
      obtain ⟨q4, hq4⟩ : ∃ q4, q4 = x.ex.args.length := ⟨_, rfl⟩
      rw [← hq4] at hu2
      rw [hu2] at hnx
      have hn0 : X.cell? ⟨b2, 0, none⟩ = some (.int .i64 x.ex.kind) := by simp [World.cell?, hnx]
      have hn1' : X.cell? ⟨b2, 1, none⟩ = some (.string x.ex.name) := by simp [World.cell?, hnx]
      have hn2 : X.cell? ⟨b2, 2, none⟩ = some (.slice A4 q4 c4') := by simp [World.cell?, hnx]
      have HBB := zH (box_on HO5.out.box (g3 W.heap.size (by simp)).2.2.2)
      have HBX := zH (fun (w2 : World) (hb2 : Below X.heap.size X w2) => aI (box_on HBB.out (hb2.block _ HBB.out.lt)).cell (box_on HBB.out (hb2.block _ HBB.out.lt)).lt)
      have HG1 := zH g1
      have HG2 := zH g2
      have HG3 := zH g3
      have HG4 := zH g4
      have HG5 := zH g5
      have HLEN := zH hlen
      have HMX := zH (fun k (hk : k ∈ M') => (g4 k hk).2.elim (fun h => nL (hM2 k h).2 hb2) id)
      have HQ4 := zH hq4
      clear g1 g2 g3 g4 g5 hM2 hb2 hlow2 hlen hnx hu2 hq4
      by_cases hk : x.ex.kind = 2
      · have HC := zH (consO_yes ys x hk)
        have aC := asCC
        have HT := zH (show formTy x.ex.kind = 98 by rw [hk]; rfl)
        clear hk
        gi_wp2_with (gi_at_call 58; refine (at_wide HFW.out (own_form _ _ _ _ _ _) l2).mono ?_; rintro r w2 ⟨rfl, hb2⟩; rw [HT.out]; obtain ⟨hc2, hl2⟩ := HBX.out w2 hb2; have HB2 := zH hb2; clear hb2)
        obtain ⟨Wz, hWz⟩ : ∃ Wz, Wz = w2.alloc (.cells #[.string x.ex.name, .slice A4 q4 c4'] 98) := ⟨_, rfl⟩
        rw [← hWz]
        have hlz : Below X.heap.size X Wz := by rw [hWz]; exact HB2.out.trans (((wB _ w2).alloc (nR _) _).mono HB2.out.size)
        have HLZ := zH hlz
        obtain ⟨fn, tmps, assign, body, hy, hR⟩ := yield_wide HFW.out (HY.out (pre ++ consO ys) (x.ex.name, x.ex.args.length) M' Wz (HJ.out _ _ _ _ _ HG1.out.2 (Fr.of_below hlz) (fun k hk => Or.inl hk)) (fun k hk => nL (HMX.out k hk) hlz.size) (by have h1 := HPL.out; have h2 := HLEN.out; have h3 := HLT.out; have h4 := consO_len ys; simp at h1 ⊢; omega)) l2 (n - 1 - 1 - 1)
        have hy2 : (Instr.yield lp #[.string x.ex.name, .int .i64 (q4 : Int)]).run Tryz.prog Wz = .ok (.round lp fn tmps assign body) Wz := by rw [HQ4.out]; exact hy
        rw [hy2]
        refine ⟨fun _ => hn3, hR.mono ?_⟩
        clear hy hy2 hR hWz hlz
        rintro e W6 (⟨rfl, hj6, hk6⟩ | ⟨rfl, hj6, hk6⟩)
        · have HT6 := zH (Inn.turn (G2 := fun (ys : List (It wo)) M W => ys.length ≤ exSize r.body ∧ J (pre ++ consO ys) M W) (pre2 := ys ++ [x]) HG2.out HG3.out HG4.out HG5.out ⟨(by have := HLEN.out; simp; omega), (by rw [HC.out, ← List.append_assoc]; exact hj6)⟩ (kept_after HLZ.out HMX.out HG5.out hk6))
          clear hj6 hk6
          gi_wp2
          exact HT6.out
        have HT6 := zH (Inn.turn (G2 := fun (ys : List (It wo)) M W => Jx (pre ++ consO ys) M W) (pre2 := ys ++ [x]) HG2.out HG3.out HG4.out HG5.out (by rw [HC.out, ← List.append_assoc]; exact hj6) (kept_after HLZ.out HMX.out HG5.out hk6))
        clear hj6 hk6
        gi_wp2
        exact ⟨⟨rfl, HT6.out.1⟩, HT6.out.2⟩
      have HC := zH (consO_no ys x hk)
      have aC := asC_no x.ex.kind hk
      clear hk
      gi_wp2_with (gi_at_call 58; refine (at_wide HFW.out (own_form _ _ _ _ _ _) l2).mono ?_; rintro r w2 ⟨rfl, hb2⟩; obtain ⟨hc2, hl2⟩ := HBX.out w2 hb2; have HB2 := zH hb2; clear hb2)
      have hlz : Below X.heap.size X (w2.alloc (.cells #[.string ⟨#[]⟩, .slice none 0 0] 98)) := HB2.out.trans (((wB _ w2).alloc (nR _) _).mono HB2.out.size)
      exact Inn.turn (G2 := fun (ys : List (It wo)) M W => ys.length ≤ exSize r.body ∧ J (pre ++ consO ys) M W) (pre2 := ys ++ [x]) HG2.out HG3.out HG4.out HG5.out ⟨(by have := HLEN.out; simp; omega), (by rw [HC.out]; exact HJ.out _ _ _ _ _ HG1.out.2 (Fr.of_below hlz) (fun k hk => Or.inl hk))⟩ ⟨hlz.mono HG5.out, fun k hk => hlz.block k (HMX.out k hk)⟩
     case done =>
      rintro D ys M2 X hD hDM hM2 hS ⟨M', g1, g2, g3, g4, g5⟩ hlow2 hK
      have HLY := zH g1.1
      have HO6 := zH (HO5.out.behind g1.2 g2 g3 g4 hM2 hDM hK hlow2)
      have HFI6 := zH (step_find HFH.out hS)
      clear g1 g2 g3 g4 g5 hM2 hDM hK hlow2 hS hD
      gi_wp2
      refine Handed.intro (gk - 1) (by omega) (hJJ _ _ _ ⟨D :: Ds, M', pre ++ consO ys, i + 1, _, _, _, _, _, _, _, _, _, _, _, _, _, _, _, _, _, _, _, _, _, _, _, _, _, _, _, _, _, _, _, _, _, _, _, _, _, _, _, _, _, _, _, _, _, _, rfl, by omega, by omega, HO6, zH (fun q => ?_), zH ?_⟩)
      · rw [take_ru l i r HGET.out, consAll_snoc]
        exact HFI6.out q
      rw [take_ru l i r HGET.out, cntR_snoc]
      have h1 := HPL.out
      have h2 := HLY.out
      have h3 := consO_len ys
      simp at h1 ⊢
      omega
     case stop =>
      rintro D cc ys M2 X hD hDM hM2 ⟨rest, hS⟩ ⟨rfl, M', g1, g2, g3, g4, g5⟩ hlow2 hK
      have HO6 := zH (HO5.out.behind g1 g2 g3 g4 hM2 hDM hK hlow2)
      have HSF := zH (stop_find HGET.out HFH.out hS)
      clear g1 g2 g3 g4 g5 hM2 hDM hK hlow2 hS hD
      gi_wp2
      exact leave_marks rfl (D :: Ds) X HO6.out.marks.1 (fun E hE => (HO6.out.marks.2 E hE).2.1) (fun v Y hf => ⟨⟨_, rfl⟩, .inr ⟨_, M', ⟨_, HSF.out⟩, HJX.out _ _ _ _ _ HO6.out.j (hf.mono (fun k hk => Or.inl (HO6.out.marks.2 k hk).1)) (fun k hk => Or.inl hk)⟩⟩)
   have hbe := empty_not hcon
   have HFH := zH (head_find (r := r) HFI.out hcon)
   have HSTOP := zH (halt_find HGET.out HFI.out hcon)
   clear hcon
   have HPL := zH (show (pre ++ [(r.con, r.vars.length)]).length ≤ cntR (l.take i) + 1 by have := HLE.out; simp; omega)
   have hbox := HOW.out.box.cell
   gi_wp2_with fail
   obtain ⟨Wy, hWy⟩ : ∃ Wy, Wy = wr.alloc (.cells #[.string r.name, .string r.con, .slice A1 q1 k1, .slice A2 r.params.length k2, .int .i64 r.body.kind, .string r.body.name, .slice A3 q3 k3] 34) := ⟨_, rfl⟩
   rw [← hWy] at HOW hbox ⊢
   obtain ⟨fn, tmps, assign, body, hy, hR⟩ := HY.out pre (r.con, r.vars.length) (wr.heap.size :: M) Wy HOW.out.j HOW.out.lt (by have := HLE.out; have := HLT.out; omega)
   have hy2 : (Instr.yield lp #[.string r.con, .int .i64 (q1 : Int)]).run Tryz.prog Wy = .ok (.round lp fn tmps assign body) Wy := by rw [HQ1.out]; exact hy
   rw [hy2]
   have hnw : Wy.heap[wr.heap.size]? = some (.cells #[.string r.name, .string r.con, .slice A1 q1 k1, .slice A2 r.params.length k2, .int .i64 r.body.kind, .string r.body.name, .slice A3 q3 k3] 34 (0, 0)) := by rw [hWy]; exact World.alloc_heap_new wr _
   refine ⟨fun _ => hn1, hR.mono ?_⟩
   clear hy hy2 hR hWy hbox
   rintro e W3 (⟨rfl, hj3, hk3⟩ | ⟨rfl, hjx3, hk3⟩)
   · have HO3 := zH (HOW.out.kept hk3 hj3)
     have hn3 := (hk3.2 wr.heap.size (by simp)).trans hnw
     have hb4 : W3.cell? ⟨wr.heap.size, 4, none⟩ = some (.int .i64 r.body.kind) := by simp [World.cell?, hn3]
     have hb5 : W3.cell? ⟨wr.heap.size, 5, none⟩ = some (.string r.body.name) := by simp [World.cell?, hn3]
     have hb6 : W3.cell? ⟨wr.heap.size, 6, none⟩ = some (.slice A3 q3 k3) := by simp [World.cell?, hn3]
     clear hj3 hk3 hnw hn3
     gi_wp2_with (gi_at_call 62; refine (nodesOnce_in F (n - 1) hF hro (by omega) _ _ _ _ _ _).mono ?_; rintro e w' ⟨rfl, rfl⟩)
     clear hb4 hb5 hb6
     obtain ⟨W5, hW5⟩ : ∃ W5, W5 = onceW W3 r.body.kind r.body.name (.slice A3 q3 k3) := ⟨_, rfl⟩
     rw [← hW5]
     obtain ⟨b3, hb3⟩ : ∃ b3, b3 = W3.heap.size := ⟨_, rfl⟩
     rw [← hb3]
     have HB3 := zH (show b3 = W3.heap.size from hb3)
     have hs5 : W5.heap.size = b3 + 5 := by rw [hW5, onceW_size, HB3.out]
     have hlow5 : Below W3.heap.size W3 W5 := by rw [hW5]; exact onceW_below (wB _ _) (nR _) _ _ _
     have HO5 := zH (HO3.out.grow HJ.out hlow5 [b3 + 4, b3 + 2, b3 + 1] (fun k hk => by have := HB3.out; simp at hk; omega))
     have HW5 := zH hW5
     have HS5 := zH hs5
     clear hW5 hs5 hb3 hlow5
     have HBYL := zH HO3.out.box.lt
     refine wpIn_rangeFunc_nest hro hn1 (gf := 98) (lb := onceLb b3) rfl (hF _) (enters_of Tryz.func98 (by kernel_rfl) rfl)
      (once_stops F (n - 1) HFW.out hro hF (by omega) wo r.body (.slice A3 q3 k3) z3 HHP.out HBD.out HFB.out b3 W3 W5 HB3.out HW5.out HO3.out.low) (wB _ _) (nT HO3.out.low.size (by have := HS5.out; have := HB3.out; omega)) (fun _ => rfl)
      (Inn (fun (ys : List (It wo)) M W => ys.length ≤ exSize r.body ∧ J ((pre ++ [(r.con, r.vars.length)]) ++ consO ys) M W) wo.heap.size (W.heap.size :: Ds) W5) (fun cc ys M W6 => cc = .ret ∧ Inn (fun (ys : List (It wo)) M W => Jx ((pre ++ [(r.con, r.vars.length)]) ++ consO ys) M W) wo.heap.size (W.heap.size :: Ds) W5 ys M W6)
      (Inn.minds (fun ys M M2 A B h hf hm => ⟨h.1, HJ.out _ _ _ _ _ h.2 hf hm⟩)) (fun cc pre M M2 A B h hf hm => ⟨h.1, Inn.minds (fun ys M M2 A B h hf hm => HJX.out _ _ _ _ _ h hf hm) pre M M2 A B h.2 hf hm⟩)
      [b3 + 4, b3 + 2, b3 + 1] ?start (fun k hk => hk) ?inm
      (fun b _ x a2 X => a2 = { tmps := #[.func (.yield lp) #[] #[], .pointer (some ⟨Bp, 0, none⟩), .pointer (some ⟨W.heap.size, 0, none⟩), u3, .pointer (some ⟨wr.heap.size, 0, none⟩), .pointer (some ⟨b, 0, none⟩), u6, u7, u8, .slice (some ⟨g, o, none⟩) m c, .int .i64 (m : Int), .int .i64 (i : Int), .bool true, .pointer (some ⟨g, o + i * 7, none⟩), .agg #[.string r.name, .string r.con, .slice A1 q1 k1, .slice A2 r.params.length k2, .int .i64 r.body.kind, .string r.body.name, .slice A3 q3 k3], .pointer (some ⟨wr.heap.size, 1, none⟩), .string r.con, .bool true, .bool true, .func (.yield lp) #[] #[], .pointer (some ⟨wr.heap.size, 1, none⟩), .string r.con, .pointer (some ⟨wr.heap.size, 2, none⟩), .slice A1 q1 k1, .int .i64 (q1 : Int), .bool true, .bool false, .bool false, .pointer (some ⟨wr.heap.size, 4, none⟩), .agg #[.int .i64 r.body.kind, .string r.body.name, .slice A3 q3 k3], onceFun b3, x.val, u32, u33, u34, u35, u36, u37, u38, u39, u40, u41, u42, u43, u44, u45, u46, u47, u48, u49, u50, u51], defers := [] } ∧ X.heap[b]? = some (.cells #[.int .i64 x.ex.kind, .string x.ex.name, x.1.2.2.1] 32 (0, 0)))
      (fun b ys x a2 X l o h hl => ⟨h.1, (World.putObj_heap_other (by omega)).trans h.2⟩) ?assign ?body ?done ?stop
     case start =>
      have hj5 : J ((pre ++ [(r.con, r.vars.length)]) ++ consO (wo := wo) []) ([b3 + 4, b3 + 2, b3 + 1] ++ wr.heap.size :: M) W5 := by rw [show consO (wo := wo) [] = [] from rfl, List.append_nil]; exact HO5.out.j
      refine ⟨_, ⟨by simp, hj5⟩, fun k hk => List.mem_append_left _ hk, fun k hk => ?_, fun k hk => ⟨HO5.out.n0 k hk, Or.inr (HO5.out.lt k hk)⟩, HO5.out.low.size⟩
      have hk3 : k ∈ wr.heap.size :: M ∧ k < W3.heap.size := by
       rcases List.mem_cons.1 hk with rfl | hk
       · exact ⟨HO3.out.byM, HBYL.out⟩
       exact ⟨(HO3.out.marks.2 k hk).1, HO3.out.lt k (HO3.out.marks.2 k hk).1⟩
      exact ⟨List.mem_append_right _ hk3.1, by have := HB3.out; simp; omega, by have := HS5.out; have := HB3.out; omega, rfl⟩
     case inm =>
      intro k hk
      have h1 := HO3.out.low.size
      have h2 := HS5.out
      have h3 := HB3.out
      simp at hk
      omega
     case assign =>
      intro l2 ys x X KX hK
      obtain ⟨A4, c4', hu2, -, -, -⟩ := x.slice
      have hv : x.val = .agg #[.int .i64 x.ex.kind, .string x.ex.name, .slice A4 x.ex.args.length c4'] := by rw [← hu2]; rfl
      have HU2 := zH hu2
      have HV2 := zH hv
      have HKX := zH hK
      dsimp only
      rw [hv]
      clear hu2 hv hK
      gi_wp2
      refine HKX.out _ _ (Fr.alloc _ _) ⟨?_, ?_⟩
      · rw [HV2.out]
      rw [HU2.out]; exact World.alloc_heap_new _ _
     case body =>
      rintro l2 b2 ys x _ M2 X ⟨M', g1, g2, g3, g4, g5⟩ ⟨rfl, hnx⟩ hM2 hb2 hlow2 hlen
      have hn3 : 1 ≤ n - 1 - 1 := by omega
      obtain ⟨A4, c4', hu2, -, -, -⟩ := x.slice
      obtain ⟨q4, hq4⟩ : ∃ q4, q4 = x.ex.args.length := ⟨_, rfl⟩
      rw [← hq4] at hu2
      rw [hu2] at hnx
      have hn0 : X.cell? ⟨b2, 0, none⟩ = some (.int .i64 x.ex.kind) := by simp [World.cell?, hnx]
      have hn1' : X.cell? ⟨b2, 1, none⟩ = some (.string x.ex.name) := by simp [World.cell?, hnx]
      have hn2 : X.cell? ⟨b2, 2, none⟩ = some (.slice A4 q4 c4') := by simp [World.cell?, hnx]
      have HBB := zH (box_on HO5.out.box (g3 W.heap.size (by simp)).2.2.2)
      have HBX := zH (fun (w2 : World) (hb2 : Below X.heap.size X w2) => aI (box_on HBB.out (hb2.block _ HBB.out.lt)).cell (box_on HBB.out (hb2.block _ HBB.out.lt)).lt)
      have HG1 := zH g1
      have HG2 := zH g2
      have HG3 := zH g3
      have HG4 := zH g4
      have HG5 := zH g5
      have HLEN := zH hlen
      have HMX := zH (fun k (hk : k ∈ M') => (g4 k hk).2.elim (fun h => nL (hM2 k h).2 hb2) id)
      have HQ4 := zH hq4
      clear g1 g2 g3 g4 g5 hM2 hb2 hlow2 hlen hnx hu2 hq4
      by_cases hk : x.ex.kind = 2
      · have HC := zH (consO_yes ys x hk)
        have aC := asCC
        have HT := zH (show formTy x.ex.kind = 98 by rw [hk]; rfl)
        clear hk
        gi_wp2_with (gi_at_call 58; refine (at_wide HFW.out (own_form _ _ _ _ _ _) l2).mono ?_; rintro r w2 ⟨rfl, hb2⟩; rw [HT.out]; obtain ⟨hc2, hl2⟩ := HBX.out w2 hb2; have HB2 := zH hb2; clear hb2)
        obtain ⟨Wz, hWz⟩ : ∃ Wz, Wz = w2.alloc (.cells #[.string x.ex.name, .slice A4 q4 c4'] 98) := ⟨_, rfl⟩
        rw [← hWz]
        have hlz : Below X.heap.size X Wz := by rw [hWz]; exact HB2.out.trans (((wB _ w2).alloc (nR _) _).mono HB2.out.size)
        have HLZ := zH hlz
        obtain ⟨fn, tmps, assign, body, hy, hR⟩ := yield_wide HFW.out (HY.out ((pre ++ [(r.con, r.vars.length)]) ++ consO ys) (x.ex.name, x.ex.args.length) M' Wz (HJ.out _ _ _ _ _ HG1.out.2 (Fr.of_below hlz) (fun k hk => Or.inl hk)) (fun k hk => nL (HMX.out k hk) hlz.size) (by have h1 := HPL.out; have h2 := HLEN.out; have h3 := HLT.out; have h4 := consO_len ys; simp at h1 ⊢; omega)) l2 (n - 1 - 1 - 1)
        have hy2 : (Instr.yield lp #[.string x.ex.name, .int .i64 (q4 : Int)]).run Tryz.prog Wz = .ok (.round lp fn tmps assign body) Wz := by rw [HQ4.out]; exact hy
        rw [hy2]
        refine ⟨fun _ => hn3, hR.mono ?_⟩
        clear hy hy2 hR hWz hlz
        rintro e W6 (⟨rfl, hj6, hk6⟩ | ⟨rfl, hj6, hk6⟩)
        · have HT6 := zH (Inn.turn (G2 := fun (ys : List (It wo)) M W => ys.length ≤ exSize r.body ∧ J ((pre ++ [(r.con, r.vars.length)]) ++ consO ys) M W) (pre2 := ys ++ [x]) HG2.out HG3.out HG4.out HG5.out ⟨(by have := HLEN.out; simp; omega), (by rw [HC.out, ← List.append_assoc]; exact hj6)⟩ (kept_after HLZ.out HMX.out HG5.out hk6))
          clear hj6 hk6
          gi_wp2
          exact HT6.out
        have HT6 := zH (Inn.turn (G2 := fun (ys : List (It wo)) M W => Jx ((pre ++ [(r.con, r.vars.length)]) ++ consO ys) M W) (pre2 := ys ++ [x]) HG2.out HG3.out HG4.out HG5.out (by rw [HC.out, ← List.append_assoc]; exact hj6) (kept_after HLZ.out HMX.out HG5.out hk6))
        clear hj6 hk6
        gi_wp2
        exact ⟨⟨rfl, HT6.out.1⟩, HT6.out.2⟩
      have HC := zH (consO_no ys x hk)
      have aC := asC_no x.ex.kind hk
      clear hk
      gi_wp2_with (gi_at_call 58; refine (at_wide HFW.out (own_form _ _ _ _ _ _) l2).mono ?_; rintro r w2 ⟨rfl, hb2⟩; obtain ⟨hc2, hl2⟩ := HBX.out w2 hb2; have HB2 := zH hb2; clear hb2)
      have hlz : Below X.heap.size X (w2.alloc (.cells #[.string ⟨#[]⟩, .slice none 0 0] 98)) := HB2.out.trans (((wB _ w2).alloc (nR _) _).mono HB2.out.size)
      exact Inn.turn (G2 := fun (ys : List (It wo)) M W => ys.length ≤ exSize r.body ∧ J ((pre ++ [(r.con, r.vars.length)]) ++ consO ys) M W) (pre2 := ys ++ [x]) HG2.out HG3.out HG4.out HG5.out ⟨(by have := HLEN.out; simp; omega), (by rw [HC.out]; exact HJ.out _ _ _ _ _ HG1.out.2 (Fr.of_below hlz) (fun k hk => Or.inl hk))⟩ ⟨hlz.mono HG5.out, fun k hk => hlz.block k (HMX.out k hk)⟩
     case done =>
      rintro D ys M2 X hD hDM hM2 hS ⟨M', g1, g2, g3, g4, g5⟩ hlow2 hK
      have HLY := zH g1.1
      have HO6 := zH (HO5.out.behind g1.2 g2 g3 g4 hM2 hDM hK hlow2)
      have HFI6 := zH (step_find HFH.out hS)
      clear g1 g2 g3 g4 g5 hM2 hDM hK hlow2 hS hD
      gi_wp2
      refine Handed.intro (gk - 1) (by omega) (hJJ _ _ _ ⟨D :: Ds, M', (pre ++ [(r.con, r.vars.length)]) ++ consO ys, i + 1, _, _, _, _, _, _, _, _, _, _, _, _, _, _, _, _, _, _, _, _, _, _, _, _, _, _, _, _, _, _, _, _, _, _, _, _, _, _, _, _, _, _, _, _, _, _, rfl, by omega, by omega, HO6, zH (fun q => ?_), zH ?_⟩)
      · rw [take_ru l i r HGET.out, consAll_snoc]
        exact HFI6.out q
      rw [take_ru l i r HGET.out, cntR_snoc]
      have h1 := HPL.out
      have h2 := HLY.out
      have h3 := consO_len ys
      simp at h1 ⊢
      omega
     case stop =>
      rintro D cc ys M2 X hD hDM hM2 ⟨rest, hS⟩ ⟨rfl, M', g1, g2, g3, g4, g5⟩ hlow2 hK
      have HO6 := zH (HO5.out.behind g1 g2 g3 g4 hM2 hDM hK hlow2)
      have HSF := zH (stop_find HGET.out HFH.out hS)
      clear g1 g2 g3 g4 g5 hM2 hDM hK hlow2 hS hD
      gi_wp2
      exact leave_marks rfl (D :: Ds) X HO6.out.marks.1 (fun E hE => (HO6.out.marks.2 E hE).2.1) (fun v Y hf => ⟨⟨_, rfl⟩, .inr ⟨_, M', ⟨_, HSF.out⟩, HJX.out _ _ _ _ _ HO6.out.j (hf.mono (fun k hk => Or.inl (HO6.out.marks.2 k hk).1)) (fun k hk => Or.inl hk)⟩⟩)
   have HO3 := zH (HOW.out.kept hk3 hjx3)
   clear hjx3 hk3 hnw
   gi_wp2
   exact leave_marks rfl Ds W3 HO3.out.marks.1 (fun D hD => (HO3.out.marks.2 D hD).2.1) (fun v X hf => ⟨⟨_, rfl⟩, .inr ⟨_, _, ⟨_, HSTOP.out⟩, HJX.out _ _ _ _ _ HO3.out.j (hf.mono (fun k hk => Or.inl (HO3.out.marks.2 k hk).1)) (fun k hk => Or.inl hk)⟩⟩)
 obtain rfl : i = m := by omega
 gi_wp2
 exact leave_marks rfl Ds wr HOB.out.marks.1 (fun D hD => (HOB.out.marks.2 D hD).2.1) (fun v X hf => ⟨⟨_, rfl⟩, .inl ⟨pre, (by have h1 := HFI.out; rw [HM.out, List.take_length] at h1; exact h1), M, HJ.out _ _ _ _ _ HOB.out.j (hf.mono (fun k hk => Or.inl (HOB.out.marks.2 k hk).1)) (fun k hk => Or.inl hk)⟩⟩)
end Go.Proofs.YtiaknfnhmoinpaaGreat
