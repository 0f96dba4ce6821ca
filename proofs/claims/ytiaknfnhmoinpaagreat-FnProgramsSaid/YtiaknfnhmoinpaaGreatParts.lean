/- A part of the proof of the seat's statement: Parts. Condition: as each says. -/
import Derived.Test.YtiaknfnhmoinpaaGreatOwnSize
import Derived.Test.YtiaknfnhmoinpaaGreatOwnDepth
import Derived.Test.YtiaknfnhmoinpaaGreatKids
import Derived.Test.YtiaknfnhmoinpaaGreatRuSz
import Derived.Test.YtiaknfnhmoinpaaGreatValidEq
import Derived.Lib.Split
set_option maxHeartbeats 8000000
namespace Go.Proofs.YtiaknfnhmoinpaaGreat
open Go Go.RowKit Go.Shelf
attribute [local go_sem] Oper.semAt_some
def rightE (e : Ex) : Bool := exFormOf e.kind e.name e.args.length
theorem all_nodes (n : Nat) : (∀ e : Ex, exSize e ≤ n → exAll e = (exNodes e).all rightE) ∧ (∀ l : List Ex, exSizes l ≤ n → exAllL l = (exNodesL l).all rightE) := by
 induction n with
 | zero =>
  refine ⟨fun e h => by have := exSize_pos e; omega, fun l h => ?_⟩
  cases l with
  | nil => simp [exNodesL, exAllL]
  | cons e r => rw [exSizes] at h; have := exSize_pos e; omega
 | succ n ih =>
  have hE : ∀ e : Ex, exSize e ≤ n + 1 → exAll e = (exNodes e).all rightE := by
   intro e h
   cases e with
   | mk k s l =>
    rw [exSize] at h
    rw [exNodes, exAll, ih.2 l (by omega), List.all_cons, Bool.and_comm]
    rfl
  refine ⟨hE, ?_⟩
  intro l
  induction l with
  | nil => intro _; simp [exNodesL, exAllL]
  | cons e r ihl =>
   intro h
   rw [exSizes] at h
   rw [exNodesL, exAllL, List.all_append, hE e (by omega), ihl (by omega)]
def ValI {wo : World} (rb sb : Nat) (ks : List (It wo)) (Fp : List Nat) (X : World) : Prop := Fp = [rb, sb] ∧ Boxed X rb 4 (.bool false) ∧ Boxed X sb 3 (.int .i64 (ks.length : Int)) ∧ ks.length ≤ 80 ∧ (ks.map It.ex).all rightE = true
def ValX {wo : World} (rb : Nat) (c : Code) (ks : List (It wo)) (Fp : List Nat) (X : World) : Prop := c = .ret ∧ Fp = [rb] ∧ Boxed X rb 4 (.bool false) ∧ (80 < ks.length ∨ (ks.map It.ex).all rightE = false)
theorem vali_foot {wo : World} (rb sb : Nat) (ks : List (It wo)) : Foot (ValI rb sb ks) := by
 rintro Fp X Y ⟨rfl, h1, h2, h3⟩ _ hk
 exact ⟨rfl, box_on h1 (hk rb (by simp)), box_on h2 (hk sb (by simp)), h3⟩
theorem valx_foot {wo : World} (rb : Nat) (c : Code) (ks : List (It wo)) : Foot (ValX rb c ks) := by
 rintro Fp X Y ⟨h0, rfl, h1, h2⟩ _ hk
 exact ⟨h0, rfl, box_on h1 (hk rb (by simp)), h2⟩
theorem val_go {wo : World} {rb sb nb : Nat} {ks : List (It wo)} {x : It wo} {X W2 : World} {z : Value} (hr : Boxed X rb 4 (.bool false)) (hs : Boxed X sb 3 z) (hne : rb ≠ sb) (hb : Below (X.setCell ⟨sb, 0, none⟩ (.int .i64 ((ks.length : Int) + 1))).heap.size (X.setCell ⟨sb, 0, none⟩ (.int .i64 ((ks.length : Int) + 1))) W2)
 (h8 : ks.length + 1 ≤ 80) (ha : (ks.map It.ex).all rightE = true) (hx : rightE x.ex = true) :
 ∃ Fp2, Fr [nb, rb, sb] X W2 ∧ (∀ k ∈ Fp2, (k ∈ [nb, rb, sb] ∨ X.heap.size ≤ k) ∧ k < W2.heap.size) ∧ ValI rb sb (ks ++ [x]) Fp2 W2 := by
 have hz : (X.setCell ⟨sb, 0, none⟩ (.int .i64 ((ks.length : Int) + 1))).heap.size = X.heap.size := by simp [World.setCell]
 have hsz := hb.size
 have h1 := hr.lt
 have h2 := hs.lt
 refine ⟨[rb, sb], (Fr.set (S := [nb, rb, sb]) X _ _ (by simp)).trans (Fr.of_below (S := [nb, rb, sb]) hb) (fun x h => Or.inl h), fun k hk => ?_, rfl, ?_, ?_, by simp; omega, by simp only [List.map_append, List.all_append, ha, List.map_cons, List.map_nil, List.all_cons, List.all_nil, hx, Bool.and_true]⟩
 · simp at hk
   rcases hk with rfl | rfl
   · exact ⟨Or.inl (by simp), by omega⟩
   exact ⟨Or.inl (by simp), by omega⟩
 · exact box_on hr ((hb.block _ (by omega)).trans (Below.heap_setCell _ _ _ _ hne))
 refine box_on (w := X.setCell ⟨sb, 0, none⟩ (.int .i64 ((ks.length : Int) + 1))) ?_ (hb.block _ (by omega))
 have := hs.set (.int .i64 ((ks.length : Int) + 1))
 simpa using this
theorem val_stop {wo : World} {rb sb nb : Nat} {ks : List (It wo)} {x : It wo} {X W2 : World} (hr : Boxed X rb 4 (.bool false)) (hne : rb ≠ sb) (hb : Below (X.setCell ⟨sb, 0, none⟩ (.int .i64 ((ks.length : Int) + 1))).heap.size (X.setCell ⟨sb, 0, none⟩ (.int .i64 ((ks.length : Int) + 1))) W2)
 (h : 80 < ks.length + 1 ∨ rightE x.ex = false) :
 ∃ Fp2, Fr [nb, rb, sb] X (W2.setCell ⟨rb, 0, none⟩ (.bool false)) ∧ (∀ k ∈ Fp2, (k ∈ [nb, rb, sb] ∨ X.heap.size ≤ k) ∧ k < (W2.setCell ⟨rb, 0, none⟩ (.bool false)).heap.size) ∧ ValX rb .ret (ks ++ [x]) Fp2 (W2.setCell ⟨rb, 0, none⟩ (.bool false)) := by
 have hz : (X.setCell ⟨sb, 0, none⟩ (.int .i64 ((ks.length : Int) + 1))).heap.size = X.heap.size := by simp [World.setCell]
 have hsz := hb.size
 have h1 := hr.lt
 have hr2 : Boxed W2 rb 4 (.bool false) := box_on hr ((hb.block _ (by omega)).trans (Below.heap_setCell _ _ _ _ hne))
 refine ⟨[rb], ((Fr.set (S := [nb, rb, sb]) X _ _ (by simp)).trans (Fr.of_below (S := [nb, rb, sb]) hb) (fun x h => Or.inl h)).trans (Fr.set (S := [nb, rb, sb]) _ _ _ (by simp)) (fun x h => Or.inl h), fun k hk => ?_, rfl, rfl, hr2.set _, ?_⟩
 · simp at hk
   subst hk
   exact ⟨Or.inl (by simp), by simp [World.setCell]; omega⟩
 rcases h with h | h
 · exact Or.inl (by simpa using h)
 exact Or.inr (by simp [h])
theorem start_valid (e : Ex) (A : Option Addr) (m c : Nat) (w w0 W0 : World) (hw0 : w0 = (((w.alloc (.cells #[.int .i64 e.kind, .string e.name, .slice A m c] 32)).alloc (.cells #[.bool false] 4)).alloc (.cells #[.int .i64 0] 3))) (h : W0 = nodesW w0 e.kind e.name (.slice A m c)) :
 W0.heap.size = w.heap.size + 6 ∧ Below w.heap.size w W0 ∧ Boxed W0 (w.heap.size + 1) 4 (.bool false) ∧ Boxed W0 (w.heap.size + 1 + 1) 3 (.int .i64 0) ∧ W0.heap[w.heap.size]? = some (.cells #[.int .i64 e.kind, .string e.name, .slice A m c] 32 (0, 0)) ∧ w.heap.size + 1 + 1 + 1 = w0.heap.size ∧ Below w.heap.size w w0 := by
 have b0 := World.alloc_heap_new w (.cells #[.int .i64 e.kind, .string e.name, .slice A m c] 32)
 have b1 := Boxed.new (w.alloc (.cells #[.int .i64 e.kind, .string e.name, .slice A m c] 32)) 4 (.bool false)
 have b2 := Boxed.new ((w.alloc (.cells #[.int .i64 e.kind, .string e.name, .slice A m c] 32)).alloc (.cells #[.bool false] 4)) 3 (.int .i64 0)
 simp only [World.size_alloc] at b1 b2
 have hs : w0.heap.size = w.heap.size + 3 := by rw [hw0]; simp
 have hb : Below w.heap.size w w0 := by rw [hw0]; exact (((wB _ w).alloc (nR _) _).alloc (by simp) _).alloc (by simp; omega) _
 have ho : ∀ j, j < w.heap.size + 3 → W0.heap[j]? = w0.heap[j]? := fun j hj => by rw [h]; exact nodesW_old _ _ _ (by omega)
 refine ⟨by rw [h, nodesW_size, hs], by rw [h]; exact nodesW_below hb (by omega) _ _ _, box_on (w := w0) (by rw [hw0]; exact b1.alloc _) (ho _ (by omega)), box_on (w := w0) (by rw [hw0]; exact b2) (ho _ (by omega)), (ho _ (by omega)).trans ?_, by omega, hb⟩
 rw [hw0]
 exact (Below.heap_alloc _ _ _ (by simp; omega)).trans ((Below.heap_alloc _ _ _ (by simp)).trans b0)
set_option maxRecDepth 100000 in
theorem valid_in (F : Fence) (n : Nat) (hFw : F = Fence.wide) (hro : F.round = none) (hF : ∀ k, F.fn k) (hn : 9 ≤ n) (e : Ex) (v : Value) (bs : List Nat) (w : World) (hv : ExIs w v e bs) (hb : exSize e ≤ 1099511627776) :
 CallsIn F n Tryz.prog 32 #[v] w (RetPost (.bool (exValid e)) w) := by
 obtain ⟨u, rfl, hs, hu⟩ := id hv
 obtain ⟨A, c, rfl, hc1, hc2, -⟩ := id hu
 have HV := zH hv
 have HN := zH ((all_nodes _).1 e (nR _))
 have h1 : 1 ≤ n := by omega
 have HFW := zH hFw
 obtain ⟨m, hm⟩ : ∃ m, m = e.args.length := ⟨_, rfl⟩
 rw [← hm] at HV hc1 ⊢
 have HM := zH hm
 clear hv hu hFw hm
 refine callsIn_of_wp_marks Tryz.func32 rfl (hF _) ?_ hro
 simp only [Tryz.ntmps32, List.size_toArray, lC, List.length_nil, Nat.reduceAdd, Nat.reduceSub, Array.replicate_succ, Array.replicate_zero, List.push_toArray, List.append_toArray, List.nil_append, List.cons_append]
 gi_wp2_with (gi_at_call 56; refine (nodesOf_in F (n - 1) hF hro (by omega) _ _ _ _ _ _).mono ?_; rintro e w' ⟨rfl, rfl⟩)
 obtain ⟨w0, hw0⟩ : ∃ w0, w0 = (((w.alloc (.cells #[.int .i64 e.kind, .string e.name, .slice A m c] 32)).alloc (.cells #[.bool false] 4)).alloc (.cells #[.int .i64 0] 3)) := ⟨_, rfl⟩
 rw [← hw0]
 obtain ⟨W0, hW0⟩ : ∃ W0, W0 = nodesW w0 e.kind e.name (.slice A m c) := ⟨_, rfl⟩
 rw [← hW0]
 have HX := zH (start_valid e A m c w w0 W0 hw0 hW0)
 have HW0 := zH hW0
 clear hW0 hw0
 have hx1 := HX.out.1
 refine wpIn_rangeFunc_frame hro h1 (gf := 98) (lb := nodesLb (w.heap.size + 1 + 1 + 1)) rfl (hF _) (enters_of Tryz.func98 (by kernel_rfl) rfl)
  (nodes_stops F (n - 1) HFW.out hro hF (by omega) w e (.slice A m c) bs HV.out hb (w.heap.size + 1 + 1 + 1) w0 W0 HX.out.2.2.2.2.2.1 HW0.out HX.out.2.2.2.2.2.2) (wB _ _) (by omega) (by simp; omega) (fun _ => rfl)
  (ValI (w.heap.size + 1) (w.heap.size + 1 + 1)) (ValX (w.heap.size + 1)) (vali_foot _ _) (valx_foot _) [w.heap.size + 1, w.heap.size + 1 + 1] (fun k hk => by simp at hk; rcases hk with rfl | rfl <;> simp <;> omega) ⟨rfl, HX.out.2.2.1, HX.out.2.2.2.1, by simp, by simp⟩
  (Noded (ValI (w.heap.size + 1) (w.heap.size + 1 + 1)) (fun nb x => #[.agg #[.int .i64 e.kind, .string e.name, .slice A m c], .pointer (some ⟨w.heap.size, 0, none⟩), .pointer (some ⟨w.heap.size + 1, 0, none⟩), .pointer (some ⟨w.heap.size + 1 + 1, 0, none⟩), .pointer (some ⟨nb, 0, none⟩), .agg #[.int .i64 e.kind, .string e.name, .slice A m c], nodesFun (w.heap.size + 1 + 1 + 1), x.val, undef, undef, undef, undef, undef, undef, undef, undef, undef, undef, undef, undef, undef])) (noded_foot (vali_foot _ _) _) ?assign ?body ?done ?stop
 case assign =>
  intro l pre x Fp X KX hI hFp hFr hK
  obtain ⟨A2, c2, hu2, -, -, -⟩ := x.slice
  have hv : x.val = .agg #[.int .i64 x.ex.kind, .string x.ex.name, .slice A2 x.ex.args.length c2] := by rw [← hu2]; rfl
  have HI := zH hI
  have HU2 := zH hu2
  have HV2 := zH hv
  have HFP := zH hFp
  have HKX := zH hK
  dsimp only
  rw [hv]
  clear hu2 hv hI hFp hFr hK
  gi_wp2
  obtain ⟨q1, q2, q3⟩ := noded_new (vali_foot _ _) (tm := (fun nb x => #[.agg #[.int .i64 e.kind, .string e.name, .slice A m c], .pointer (some ⟨w.heap.size, 0, none⟩), .pointer (some ⟨w.heap.size + 1, 0, none⟩), .pointer (some ⟨w.heap.size + 1 + 1, 0, none⟩), .pointer (some ⟨nb, 0, none⟩), .agg #[.int .i64 e.kind, .string e.name, .slice A m c], nodesFun (w.heap.size + 1 + 1 + 1), x.val, undef, undef, undef, undef, undef, undef, undef, undef, undef, undef, undef, undef, undef])) HI.out (fun k hk => (HFP.out k hk).2) HU2.out rfl
  refine HKX.out _ _ _ q1 q2 ?_
  exact (by simpa only [HV2.out] using q3)
 case body =>
  rintro l pre x _ Fp X ⟨nb, _, rfl, hnx, hnb, ⟨rfl, hR, hS, h80, hall⟩, rfl⟩ hFp hFr hlen
  have hn3 : 1 ≤ n - 1 - 1 := by omega
  obtain ⟨A2, c2, hu2, -, hmc2, hcc2⟩ := x.slice
  have hre : rightE x.ex = exFormOf x.ex.kind x.ex.name x.ex.args.length := rfl
  obtain ⟨q2, hq2⟩ : ∃ q2, q2 = x.ex.args.length := ⟨_, rfl⟩
  rw [← hq2] at hu2 hmc2 hre
  rw [hu2] at hnx
  simp only [List.mem_cons, List.not_mem_nil, or_false, not_or] at hnb
  have hnr : ¬ nb = w.heap.size + 1 := hnb.1
  have hns : ¬ nb = w.heap.size + 1 + 1 := hnb.2
  have hnx1 : (X.setCell ⟨w.heap.size + 1 + 1, 0, none⟩ (.int .i64 ((pre.length : Int) + 1))).heap[nb]? = some (.cells #[.int .i64 x.ex.kind, .string x.ex.name, .slice A2 q2 c2] 32 (0, 0)) := (Below.heap_setCell _ _ _ _ hns).trans hnx
  have hn0 : (X.setCell ⟨w.heap.size + 1 + 1, 0, none⟩ (.int .i64 ((pre.length : Int) + 1))).cell? ⟨nb, 0, none⟩ = some (.int .i64 x.ex.kind) := by simp [World.cell?, hnx1]
  have hn1 : (X.setCell ⟨w.heap.size + 1 + 1, 0, none⟩ (.int .i64 ((pre.length : Int) + 1))).cell? ⟨nb, 1, none⟩ = some (.string x.ex.name) := by simp [World.cell?, hnx1]
  have hn2 : (X.setCell ⟨w.heap.size + 1 + 1, 0, none⟩ (.int .i64 ((pre.length : Int) + 1))).cell? ⟨nb, 2, none⟩ = some (.slice A2 q2 c2) := by simp [World.cell?, hnx1]
  have hsc := hS.cell
  have hsf := hS.frozen
  have hsl := hS.lt
  have hrc := hR.cell
  have hrf := hR.frozen
  have hrl := hR.lt
  have hp : (pre.length : Int) ≤ 80 := by omega
  have HR := zH hR
  have HS := zH hS
  have HALL := zH hall
  have H80 := zH h80
  have HRE := zH hre.symm
  have HC2 := zH (show (c2 : Int) ≤ 9223372036854775807 by omega)
  have HMC := zH hmc2
  have HBX := zH (fun (w2 : World) (hb2 : Below (X.setCell ⟨w.heap.size + 1 + 1, 0, none⟩ (.int .i64 ((pre.length : Int) + 1))).heap.size (X.setCell ⟨w.heap.size + 1 + 1, 0, none⟩ (.int .i64 ((pre.length : Int) + 1))) w2) => aI (box_on hR ((hb2.block _ (by simpa [World.setCell] using hR.lt)).trans (Below.heap_setCell _ _ _ _ (by simp)))).cell (aI (box_on hR ((hb2.block _ (by simpa [World.setCell] using hR.lt)).trans (Below.heap_setCell _ _ _ _ (by simp)))).frozen (box_on hR ((hb2.block _ (by simpa [World.setCell] using hR.lt)).trans (Below.heap_setCell _ _ _ _ (by simp)))).lt))
  clear hu2 hq2 hnx hnx1 hR hS hlen hFp hFr hall h80 hre hmc2 hcc2
  by_cases hbig : 80 < (pre.length : Int) + 1
  · have HBIG := zH (show 80 < pre.length + 1 by omega)
    gi_wp2
    exact val_stop HR.out (by simp) (wB _ _) (Or.inl HBIG.out)
  have hle : (pre.length : Int) + 1 ≤ 80 := by omega
  have HLE := zH (show pre.length + 1 ≤ 80 by omega)
  clear hbig
  have HCS := zH (Bool.eq_false_or_eq_true (rightE x.ex))
  generalize hrx : rightE x.ex = rx at HRE HCS
  have HRX := zH hrx
  clear hrx
  cases rx
  · gi_wp2_with (first
    | (gi_at_call 58; refine (at_wide HFW.out (own_form _ _ _ _ _ _) l).mono ?_; rintro r w2 ⟨rfl, hb2⟩; have HB2 := zH hb2; clear hb2)
    | (gi_at_call 57; refine (at_wide HFW.out (own_right _ _ _ _ _ _ HC2.out HMC.out) l).mono ?_; rintro r w3 ⟨rfl, hb3⟩; have HB3 := zH (HB2.out.trans (hb3.mono HB2.out.size)); obtain ⟨hc3, hf3, hl3⟩ := HBX.out w3 HB3.out; clear hb3; rw [HRE.out]))
    exact val_stop HR.out (by simp) HB3.out (Or.inr HRX.out)
  gi_wp2_with (first
  | (gi_at_call 58; refine (at_wide HFW.out (own_form _ _ _ _ _ _) l).mono ?_; rintro r w2 ⟨rfl, hb2⟩; have HB2 := zH hb2; clear hb2)
  | (gi_at_call 57; refine (at_wide HFW.out (own_right _ _ _ _ _ _ HC2.out HMC.out) l).mono ?_; rintro r w3 ⟨rfl, hb3⟩; have HB3 := zH (HB2.out.trans (hb3.mono HB2.out.size)); obtain ⟨hc3, hf3, hl3⟩ := HBX.out w3 HB3.out; clear hb3; rw [HRE.out]))
  exact val_go HR.out HS.out (by simp) HB3.out HLE.out HALL.out HRX.out
 case done =>
  rintro D ks Fp X hD hDF hFl hS ⟨rfl, hR, hS2, h80, hall⟩ hFr hK
  have HSZ := zH (show exSize e ≤ 80 by rw [← nodes_len e, ← hS, List.length_map]; exact h80)
  have HAL := zH (show exAll e = true by rw [HN.out, ← hS]; exact hall)
  have hlow : Below w.heap.size w X := HX.out.2.1.trans (hFr.below (by simp; omega) (by omega))
  have heb : X.heap[w.heap.size]? = some (.cells #[.int .i64 e.kind, .string e.name, .slice A m c] 32 (0, 0)) := (hFr.block _ (by omega) (by simp; omega)).trans HX.out.2.2.2.2.1
  have he0 : X.cell? ⟨w.heap.size, 0, none⟩ = some (.int .i64 e.kind) := by simp [World.cell?, heb]
  have he1 : X.cell? ⟨w.heap.size, 1, none⟩ = some (.string e.name) := by simp [World.cell?, heb]
  have he2 : X.cell? ⟨w.heap.size, 2, none⟩ = some (.slice A m c) := by simp [World.cell?, heb]
  have HDP := zH (wide_in (n := n - 1) HFW.out (own_depth e (.agg #[.int .i64 e.kind, .string e.name, .slice A m c]) bs X (HV.out.below hlow) hb))
  have HBX := zH (fun (w2 : World) (hb2 : Below X.heap.size X w2) => aI (box_on hR (hb2.block _ hR.lt)).cell (aI (box_on hR (hb2.block _ hR.lt)).frozen (box_on hR (hb2.block _ hR.lt)).lt))
  have HR := zH hR
  have HK := zH hK
  have HLW := zH hlow
  have hDl : D < X.heap.size := (Array.getElem?_eq_some_iff.1 hK).1
  have HDX := zH (aI hDl (show D ≠ w.heap.size + 1 by omega))
  have HD3 := zH (depth_le e)
  have hd3 : (exDepth e : Int) ≤ 80 := by have := HD3.out; have := HSZ.out; omega
  clear heb hlow hR hK hFr hall h80 hS hS2 hDl
  by_cases hd : exDepth e ≤ 24
  · have hd2 : (exDepth e : Int) ≤ 24 := by omega
    have HE := zH (show exValid e = true by unfold exValid; rw [HAL.out]; simp [HSZ.out, hd])
    clear hd
    gi_wp2_with (gi_at_call 59; refine HDP.out.mono ?_; rintro r w2 ⟨rfl, hb2⟩; obtain ⟨hc2, hf2, hl2⟩ := HBX.out w2 hb2; have HB2 := zH hb2; clear hb2)
    rw [HE.out]
    have hX2 := HB2.out.size
    exact bool_end rfl rfl ((box_on HR.out (HB2.out.block _ HR.out.lt)).set _) ((Below.heap_setCell _ _ _ _ HDX.out.2).trans ((HB2.out.block _ HDX.out.1).trans HK.out)) HDX.out.2 (by omega) ((HLW.out.trans (HB2.out.mono HLW.out.size)).setCell (p := ⟨w.heap.size + 1, 0, none⟩) (by simp) _)
  have hd2 : 24 < (exDepth e : Int) := by omega
  have hd4 : decide ((exDepth e : Int) ≤ 24) = false := by simp; omega
  have HE := zH (show exValid e = false by unfold exValid; simp [hd])
  clear hd
  gi_wp2_with (gi_at_call 59; refine HDP.out.mono ?_; rintro r w2 ⟨rfl, hb2⟩; obtain ⟨hc2, hf2, hl2⟩ := HBX.out w2 hb2; have HB2 := zH hb2; clear hb2)
  rw [HE.out]
  have hX2 := HB2.out.size
  exact bool_end rfl rfl ((box_on HR.out (HB2.out.block _ HR.out.lt)).set _) ((Below.heap_setCell _ _ _ _ HDX.out.2).trans ((HB2.out.block _ HDX.out.1).trans HK.out)) HDX.out.2 (by omega) ((HLW.out.trans (HB2.out.mono HLW.out.size)).setCell (p := ⟨w.heap.size + 1, 0, none⟩) (by simp) _)
 case stop =>
  rintro D c pre Fp X hD hDF hFl hSp ⟨rfl, rfl, hR, hbad⟩ hFr hK
  have HE := zH (show exValid e = false by
   obtain ⟨t, ht⟩ := hSp
   rcases hbad with h | h
   · have hl : 80 < exSize e := by rw [← nodes_len e, ← ht, lA, List.length_map]; omega
     unfold exValid
     simp [show ¬ exSize e ≤ 80 by omega]
   have ha : exAll e = false := by rw [HN.out, ← ht, List.all_append, h, Bool.false_and]
   unfold exValid
   simp [ha])
  have HR := zH hR
  have HK := zH hK
  have HLW := zH (show Below w.heap.size w X from HX.out.2.1.trans (hFr.below (by simp; omega) (by omega)))
  have HDX := zH (aI ((Array.getElem?_eq_some_iff.1 hK).1) (show D ≠ w.heap.size + 1 by omega))
  clear hR hbad hFr hK hSp
  gi_wp2
  rw [HE.out]
  exact bool_end rfl rfl HR.out HK.out HDX.out.2 (by omega) HLW.out
theorem own_valid (e : Ex) (v : Value) (bs : List Nat) (w : World) (hv : ExIs w v e bs) (hb : exSize e ≤ 1099511627776) : Calls Tryz.prog 32 #[v] w (RetPost (.bool (exValid e)) w) :=
 callsIn_wide.1 (valid_in Fence.wide 9 rfl rfl (fun _ => trivial) (nR _) e v bs w hv hb)
open Go Go.RowKit
def parS (xs : List ByteArray) : ByteArray := ⟨([40] ++ Lib.join (listsS xs) [44] ++ [41]).toArray⟩
def patStr (r : Ru) : ByteArray := if r.vars.length = 0 then r.con else r.con ++ parS r.vars
def argTexts (r : Ru) : List ByteArray := (if r.con.size = 0 then [] else [patStr r]) ++ r.params
def eqStr : ByteArray := ⟨#[32, 61, 32]⟩
def ruStr (r : Ru) : ByteArray := ((r.name ++ parS (argTexts r)) ++ eqStr) ++ exFmt r.body
theorem totS_totN (l : List ByteArray) : totS l = totN l := rfl
theorem totS_app (a b : List ByteArray) : totS (a ++ b) = totS a + totS b := by simp [totS]
theorem parS_size (xs : List ByteArray) : (parS xs).size ≤ totS xs + xs.length + 2 := by
 have h7 := join_length (listsS xs) [44]
 rw [lens_lists] at h7
 have h8 : (listsS xs).length = xs.length := by simp [listsS]
 rw [h8] at h7
 show (List.toArray _).size ≤ _
 simp only [lC, List.length_nil] at h7
 simp
 omega
theorem patStr_size (r : Ru) : (patStr r).size ≤ r.con.size + ssTot r.vars + 2 := by
 unfold patStr
 have h := parS_size r.vars
 unfold ssTot
 rw [totS_totN] at h
 split
 · omega
 rw [ByteArray.size_append]; omega
theorem argTexts_tot (r : Ru) : totS (argTexts r) + (argTexts r).length ≤ r.con.size + ssTot r.vars + ssTot r.params + 3 := by
 unfold argTexts
 rw [totS_app, lA]
 have h := patStr_size r
 have h2 : totS r.params + r.params.length = ssTot r.params := by unfold ssTot; rw [totS_totN]; omega
 split
 · simp only [List.length_nil, show totS [] = 0 from rfl]; omega
 simp only [lC, List.length_nil, show totS [patStr r] = (patStr r).size from by simp [totS]]; omega
theorem argTexts_le {r : Ru} (h : ruTot r ≤ 1048576) : totS (argTexts r) + (argTexts r).length ≤ 2097152 := by
 have := argTexts_tot r; unfold ruTot at h; omega
theorem exFmt_size (e : Ex) : (exFmt e).size ≤ 4000 := by
 unfold exFmt
 cases h : exValid e with
 | false => simp; show (0 : Nat) ≤ _; omega
 | true =>
  have h1 := valid_tot h
  have h2 := (text_len (exSize e)).1 e (nR _)
  rw [if_pos rfl, str_size]; omega
theorem ruStr_size {r : Ru} (h : ruTot r ≤ 1048576) : (ruStr r).size ≤ 4194304 := by
 unfold ruStr
 rw [ByteArray.size_append, ByteArray.size_append, ByteArray.size_append]
 have h1 := parS_size (argTexts r)
 have h2 := argTexts_le h
 have h3 := exFmt_size r.body
 have h4 : eqStr.size = 3 := rfl
 unfold ruTot at h
 omega
def eqFrom : List UInt8 → Nat → Option Nat
 | [], _ => none
 | c :: t, k => if (c :: t).take 3 = [32, 61, 32] then some k else eqFrom t (k + 1)
def rulePart (h e : Ex) : Ru := match h.args with
 | [] => ⟨h.name, ⟨#[]⟩, [], [], e⟩
 | a :: t => if a.kind = 2 then ⟨h.name, a.name, a.args.map Ex.name, t.map Ex.name, e⟩ else ⟨h.name, ⟨#[]⟩, [], (a :: t).map Ex.name, e⟩
theorem part_name (h e : Ex) : (rulePart h e).name = h.name ∧ (rulePart h e).body = e := by
 unfold rulePart
 split
 · exact ⟨rfl, rfl⟩
 split <;> exact ⟨rfl, rfl⟩
def leftOf (line : ByteArray) (i : Nat) : ByteArray := ⟨(line.data.toList.take i).toArray⟩
def rightOf (line : ByteArray) (i : Nat) : ByteArray := ⟨(line.data.toList.drop (i + 3)).toArray⟩
def readWith (ok : Ex → Ru → Bool) (line : ByteArray) : Option Ru := match eqFrom line.data.toList 0 with
 | none => none
 | some i => match exParse (leftOf line i), exParse (rightOf line i) with
  | some h, some e => if ok h (rulePart h e) = true ∧ ruStr (rulePart h e) = line then some (rulePart h e) else none
  | _, _ => none
def readRu (line : ByteArray) : Option Ru := readWith (fun h r => decide (h.kind = 3) && headOk r) line
theorem read_some {line : ByteArray} {r : Ru} (h : readRu line = some r) : headOk r = true ∧ exValid r.body = true ∧ ruStr r = line := by
 unfold readRu readWith at h
 split at h
 · cases h
 rename_i i hi
 split at h
 · rename_i a b ha hb
   split at h
   · rename_i hc
     obtain rfl := Option.some.inj h
     rw [Bool.and_eq_true] at hc
     exact ⟨hc.1.2, by rw [(part_name a b).2]; exact (parse_some hb).1, hc.2⟩
   cases h
 cases h
def nlStr : ByteArray := ⟨#[10]⟩
def linesOf (acc : ByteArray) : List Ru → ByteArray
 | [] => acc
 | r :: t => linesOf (acc ++ (ruStr r ++ nlStr)) t
def prStr (l : List Ru) : ByteArray := if validR l then linesOf ⟨#[]⟩ l else ⟨#[]⟩
theorem linesOf_snoc : ∀ (a : List Ru) (acc : ByteArray) (r : Ru), linesOf acc (a ++ [r]) = linesOf acc a ++ (ruStr r ++ nlStr) := by
 intro a
 induction a with
 | nil => intro acc r; rfl
 | cons x t ih => intro acc r; rw [List.cons_append, linesOf, ih, linesOf]
theorem linesOf_size : ∀ (l : List Ru) (acc : ByteArray), (∀ r ∈ l, ruTot r ≤ 1048576) → (linesOf acc l).size ≤ acc.size + l.length * 4194305 := by
 intro l
 induction l with
 | nil => intro acc _; simp [linesOf]
 | cons r t ih =>
  intro acc h
  rw [linesOf]
  have h1 := ih (acc ++ (ruStr r ++ nlStr)) (fun x hx => h x (by simp [hx]))
  have h2 := ruStr_size (h r (by simp))
  rw [ByteArray.size_append, ByteArray.size_append] at h1
  have h3 : nlStr.size = 1 := rfl
  rw [lC, Nat.add_mul]
  omega
theorem validR_len {l : List Ru} (h : validR l = true) : l.length ≤ 24 := by
 unfold validR at h
 simp only [Bool.and_eq_true, decide_eq_true_eq] at h
 exact h.2
end Go.Proofs.YtiaknfnhmoinpaaGreat
namespace Go.Proofs.YtiaknfnhmoinpaaGreat
open Go
def parts (b : UInt8) : List UInt8 → List UInt8 → List (List UInt8)
 | acc, [] => [acc]
 | acc, c :: r => if c = b then acc :: parts b [] r else parts b (acc ++ [c]) r
theorem parts_nil (b : UInt8) (acc : List UInt8) : parts b acc [] = [acc] := rfl
theorem parts_hit (b : UInt8) (acc r : List UInt8) : parts b acc (b :: r) = acc :: parts b [] r := by simp [parts]
theorem parts_other (b c : UInt8) (acc r : List UInt8) (h : c ≠ b) : parts b acc (c :: r) = parts b (acc ++ [c]) r := by simp [parts, h]
theorem index_cons (b c : UInt8) (r : List UInt8) : Lib.index (c :: r) [b] = if c = b then 0 else if Lib.index r [b] = -1 then -1 else Lib.index r [b] + 1 := by
 rw [Lib.index]
 by_cases h : c = b
 · subst h; simp
 have hp : ([b].isPrefixOf (c :: r)) = false := by
  simp only [List.isPrefixOf, Bool.and_true, beq_eq_false_iff_ne]
  exact fun e => h e.symm
 rw [hp, if_neg (by simp), if_neg h]
 by_cases h2 : Lib.index r [b] = -1
 · simp [h2]
 simp [h2]
theorem parts_miss (b : UInt8) : ∀ (l acc : List UInt8), Lib.index l [b] = -1 → parts b acc l = [acc ++ l] := by
 intro l
 induction l with
 | nil => intro acc _; simp [parts]
 | cons c r ih =>
  intro acc h
  rw [index_cons] at h
  by_cases hc : c = b
  · rw [if_pos hc] at h; cases h
  rw [if_neg hc] at h
  have hr : Lib.index r [b] = -1 := by
   by_cases h2 : Lib.index r [b] = -1
   · exact h2
   rw [if_neg h2] at h
   have := Lib.index_ge r [b]
   omega
  rw [parts_other b c acc r hc, ih _ hr, List.append_assoc]
  rfl
theorem parts_index (b : UInt8) : ∀ (l acc : List UInt8) (i : Nat), Lib.index l [b] = i → parts b acc l = (acc ++ l.take i) :: parts b [] (l.drop (i + 1)) := by
 intro l
 induction l with
 | nil => intro acc i h; simp [Lib.index] at h
 | cons c r ih =>
  intro acc i h
  rw [index_cons] at h
  by_cases hc : c = b
  · rw [if_pos hc] at h
    obtain rfl : i = 0 := by omega
    subst hc
    rw [parts_hit]; simp
  rw [if_neg hc] at h
  have hge := Lib.index_ge r [b]
  have h2 : ¬ Lib.index r [b] = -1 := fun e => by rw [if_pos e] at h; omega
  rw [if_neg h2] at h
  obtain ⟨j, rfl⟩ : ∃ j, i = j + 1 := ⟨i - 1, by omega⟩
  rw [parts_other b c acc r hc, ih _ j (by omega), List.append_assoc]
  simp
theorem split_parts (b : UInt8) : ∀ (n : Nat) (l : List UInt8), l.length ≤ n → Lib.splitK [b] 0 (Lib.count l [b]) l = parts b [] l := by
 intro n
 induction n with
 | zero =>
  intro l h
  obtain rfl : l = [] := List.eq_nil_of_length_eq_zero (by omega)
  rfl
 | succ n ih =>
  intro l hl
  have hge := Lib.index_ge l [b]
  by_cases h : Lib.index l [b] = -1
  · rw [Lib.count_miss h, parts_miss b l [] h]; rfl
  obtain ⟨i, hi⟩ : ∃ i : Nat, Lib.index l [b] = i := ⟨(Lib.index l [b]).toNat, by omega⟩
  have hroom := Lib.index_room l [b] (by omega)
  simp only [lC, List.length_nil] at hroom
  have hdl : (l.drop (i + 1)).length ≤ n := by rw [List.length_drop]; omega
  have hn : ¬ (Lib.index l [b] == -1) = true := fun e => h (beq_iff_eq.1 e)
  rw [Lib.count_hit (List.cons_ne_nil _ _) hi, parts_index b l [] i hi, Nat.add_comm 1, Lib.splitK, if_neg hn, show (Lib.index l [b]).toNat = i by omega]
  simp only [lC, List.length_nil, Nat.zero_add, Nat.add_zero, List.nil_append]
  rw [ih _ hdl]
theorem parts_length (b : UInt8) : ∀ l acc, (parts b acc l).length ≤ l.length + 1 := by
 intro l
 induction l with
 | nil => intro acc; simp [parts]
 | cons c r ih =>
  intro acc
  by_cases h : c = b
  · subst h; rw [parts_hit]; have := ih []; simp only [lC]; omega
  rw [parts_other b c acc r h]; have := ih (acc ++ [c]); simp only [lC]; omega
theorem split_length (b : UInt8) (l : List UInt8) : (parts b [] l).length = Lib.count l [b] + 1 := by
 suffices h : ∀ (n : Nat) (l : List UInt8), l.length ≤ n → (parts b [] l).length = Lib.count l [b] + 1 from h l.length l (nR _)
 intro n
 induction n with
 | zero =>
  intro l h
  obtain rfl : l = [] := List.eq_nil_of_length_eq_zero (by omega)
  rfl
 | succ n ih =>
  intro l hl
  have hge := Lib.index_ge l [b]
  by_cases h : Lib.index l [b] = -1
  · rw [Lib.count_miss h, parts_miss b l [] h]; rfl
  obtain ⟨i, hi⟩ : ∃ i : Nat, Lib.index l [b] = i := ⟨(Lib.index l [b]).toNat, by omega⟩
  have hroom := Lib.index_room l [b] (by omega)
  simp only [lC, List.length_nil] at hroom
  have hdl : (l.drop (i + 1)).length ≤ n := by rw [List.length_drop]; omega
  rw [Lib.count_hit (List.cons_ne_nil _ _) hi, parts_index b l [] i hi, lC, ih _ hdl]
  simp only [lC, List.length_nil, Nat.zero_add]
  omega
def pieces (s : ByteArray) (b : UInt8) : List ByteArray := (parts b [] s.data.toList).map fun l => ⟨l.toArray⟩
theorem bytes_of (s : ByteArray) : (⟨s.data.toList.toArray⟩ : ByteArray) = s := by
 have h : s.data.toList.toArray = s.data := by simp
 rw [h]
theorem pieces_eq (s : ByteArray) (b : UInt8) (xs : List ByteArray) (h : xs.map (·.data.toList) = parts b [] s.data.toList) : xs = pieces s b := by
 unfold pieces
 rw [← h, List.map_map]
 conv => lhs; rw [← List.map_id xs]
 exact List.map_congr_left fun x _ => (bytes_of x).symm
theorem pieces_length (s : ByteArray) (b : UInt8) : (pieces s b).length = Lib.countB s ⟨#[b]⟩ + 1 := by
 unfold pieces
 rw [List.length_map]; exact split_length b _
theorem pieces_le (s : ByteArray) (b : UInt8) : (pieces s b).length ≤ s.size + 1 := by
 unfold pieces
 rw [List.length_map]
 have := parts_length b s.data.toList []
 have e : s.data.toList.length = s.size := Array.length_toList
 omega
end Go.Proofs.YtiaknfnhmoinpaaGreat
