/- A part of the proof of the seat's statement: LawPrograms. Condition: as each says. -/
import Derived.Test.YtiaknfnhmoinpaaGreatSet
import Derived.Test.YtiaknfnhmoinpaaGreatPrDrawE
import Derived.Test.YtiaknfnhmoinpaaGreatOwnValidP
import Derived.Test.YtiaknfnhmoinpaaGreatSpecPrText
import Derived.Test.YtiaknfnhmoinpaaGreatOwnRule
import Derived.Test.YtiaknfnhmoinpaaGreatRuGet
import Derived.Test.YtiaknfnhmoinpaaGreatOwnRuFlat
import Derived.Test.YtiaknfnhmoinpaaGreatRuFits
set_option maxHeartbeats 8000000
namespace Go.Proofs.YtiaknfnhmoinpaaGreat
open Go Go.RowKit
def TrueP (w : World) (r : Ending) (w' : World) : Prop := r = .returned (.bool true) ∧ Below w.heap.size w w'
theorem bigP_yes (A : Option Addr) (n cap : Nat) (w : World) (h : 1048576 < (n : Int)) : Calls Tryz.prog 4 #[.slice A n cap] w fun e w' => e = .returned (.bool true) ∧ w = w' := by
 go_enter Tryz.func4, Tryz.ntmps4
 go_wp2
 go_ret
 exact ⟨by simp, rfl⟩
theorem bigP_no (A : Option Addr) (n cap : Nat) (w : World) (h : (n : Int) ≤ 1048576) : Calls Tryz.prog 4 #[.slice A n cap] w fun e w' => e = .returned (.bool false) ∧ w = w' := by
 go_enter Tryz.func4, Tryz.ntmps4
 go_wp2
 go_ret
 exact ⟨by simp; omega, rfl⟩
theorem valid_rule {l : List Ru} (h : validR l = true) {k : Nat} {r : Ru} (hk : l[k]? = some r) :
 findR l r.name r.con = (k : Int) ∧ arityR l r.name = (r.params.length : Int) + (if r.con.size = 0 then 0 else 1) ∧ kindR l r.name = (if r.con.size = 0 then 1 else 2) ∧ exFor l r.body = true := by
 unfold validR at h
 rw [Bool.and_eq_true] at h
 have h1 := (rulesOk_iff l l 0).1 h.1 k r hk
 unfold ruleOk at h1
 simp only [Bool.and_eq_true, decide_eq_true_eq, Nat.zero_add] at h1
 obtain ⟨-, b, -, d, e⟩ := h1
 unfold sameAs at e
 rcases hf : l.find? (named r.name) with _ | f
 · rw [hf] at e
   cases e
 rw [hf] at e
 simp only [Bool.and_eq_true, decide_eq_true_eq, beq_iff_eq] at e
 obtain ⟨e1, e2, -⟩ := e
 have e3 : f.con.size = 0 ↔ r.con.size = 0 := decide_eq_decide.1 e1
 refine ⟨d, ?_, ?_, b⟩
 · unfold arityR
   rw [hf]
   show (f.params.length : Int) + (if f.con.size = 0 then 0 else 1) = _
   rw [e2]
   by_cases h0 : r.con.size = 0
   · rw [if_pos h0, if_pos (e3.2 h0)]
   rw [if_neg h0, if_neg (fun h9 => h0 (e3.1 h9))]
 unfold kindR
 rw [hf]
 show (if f.con.size = 0 then (1 : Int) else 2) = _
 by_cases h0 : r.con.size = 0
 · rw [if_pos h0, if_pos (e3.2 h0)]
 rw [if_neg h0, if_neg (fun h9 => h0 (e3.1 h9))]
structure Lw (w : World) (P : Nat) (v : Value) (l : List Ru) (bs : List Nat) (X : World) : Prop where
 low : Below w.heap.size w X
 box : PBox X P v
 is : Drawn X (.agg #[v]) l bs
theorem Lw.below {w : World} {P : Nat} {v : Value} {l : List Ru} {bs : List Nat} {X X2 : World} (h : Lw w P v l bs X) (hb : Below X.heap.size X X2) : Lw w P v l bs X2 :=
 ⟨h.low.trans (hb.mono h.low.size), h.box.below hb, h.is.below hb⟩
theorem RsIs.getM {w : World} {A : Option Addr} {n c : Nat} {l : List Ru} {bs : List Nat} (h : RsIs w (.slice A n c) l bs) (k : Nat) (hk : k < l.length) : ∃ g o r v1 v2 u b, RuleAt w A l k g o r v1 v2 u b ∧ ∀ x ∈ b, x ∈ bs := by
 obtain ⟨A', c', e, h1, h2, h4⟩ := h
 cases e
 rcases h4 with ⟨rfl, -⟩ | ⟨g, o, bs', rfl, h5, rfl, h6⟩
 · simp at hk
 have hg : l[k]? = some l[k] := List.getElem?_eq_getElem hk
 obtain ⟨b1, ⟨v1, v2, u, h7, h8⟩, h9⟩ := h6.get l 0 bs' k _ hg
 rw [Nat.zero_add] at h7
 exact ⟨g, o, l[k], v1, v2, u, b1, ⟨rfl, h5, hg, List.getElem_mem hk, h7, h8⟩, fun x hx => List.mem_cons_of_mem _ (h9 x hx)⟩
structure Lq (w : World) (P : Nat) (v : Value) (l : List Ru) (bs : List Nat) (bR : Nat) (r : Ru) (v1 v2 u : Value) (b : List Nat) (X : World) : Prop where
 lw : Lw w P v l bs X
 rb : Box7 X bR 34 (.string r.name) (.string r.con) v1 v2 (.int .i64 r.body.kind) (.string r.body.name) u
 ri : RuIs X (.agg #[.string r.name, .string r.con, v1, v2, .int .i64 r.body.kind, .string r.body.name, u]) r b
 sub : ∀ x ∈ b, x ∈ bs
theorem Lq.below {w : World} {P : Nat} {v : Value} {l : List Ru} {bs : List Nat} {bR : Nat} {r : Ru} {v1 v2 u : Value} {b : List Nat} {X X2 : World} (h : Lq w P v l bs bR r v1 v2 u b X) (hb : Below X.heap.size X X2) : Lq w P v l bs bR r v1 v2 u b X2 :=
 ⟨h.lw.below hb, (hb.block _ h.rb.lt).trans h.rb, h.ri.below hb, h.sub⟩
theorem Lq.drew {w : World} {P : Nat} {v : Value} {l : List Ru} {bs : List Nat} {bR : Nat} {r : Ru} {v1 v2 u : Value} {b : List Nat} {X : World} (h : Lq w P v l bs bR r v1 v2 u b X) : Lq w P v l bs bR r v1 v2 u b X.drew := h.below (wB _ _).drew
theorem Lq.weak {w : World} {P : Nat} {v : Value} {l : List Ru} {bs : List Nat} {bR : Nat} {r : Ru} {v1 v2 u : Value} {b : List Nat} {X : World} (h : Lq w P v l bs bR r v1 v2 u b X) :
 X.cell? ⟨P, 0, none⟩ = some v ∧ X.cell? ⟨bR, 0, none⟩ = some (.string r.name) ∧ X.cell? ⟨bR, 1, none⟩ = some (.string r.con) ∧ X.cell? ⟨bR, 3, none⟩ = some v2 ∧ X.cell? ⟨bR, 4, none⟩ = some (.int .i64 r.body.kind) ∧ X.cell? ⟨bR, 5, none⟩ = some (.string r.body.name) ∧ X.cell? ⟨bR, 6, none⟩ = some u := by
 obtain ⟨t0, t1, t2, t3, t4, t5, t6⟩ := h.rb.cells
 exact ⟨h.lw.box.facts.1, t0, t1, t3, t4, t5, t6⟩
structure L1 (w : World) (P : Nat) (v : Value) (l : List Ru) (bs : List Nat) (X : World) : Prop where
 low : Below w.heap.size w X
 box : PBox X P v
 is : Drawn X (.agg #[v]) l bs
theorem L1.below {w : World} {P : Nat} {v : Value} {l : List Ru} {bs : List Nat} {X X2 : World} (h : L1 w P v l bs X) (hb : Below X.heap.size X X2) : L1 w P v l bs X2 := ⟨h.low.trans (hb.mono h.low.size), h.box.below hb, h.is.below hb⟩
theorem L1.make {w X : World} {v : Value} {l : List Ru} {bs : List Nat} (hd : Drawn X (.agg #[v]) l bs) (hb : Below w.heap.size w X) : L1 w X.heap.size v l bs (X.alloc (.cells #[v] 26)) :=
 ⟨hb.alloc hb.size _, PBox.new X _, hd.below ((wB _ _).alloc (nR _) _)⟩
structure L2 (Pe : Nat) (K : Int) (S : ByteArray) (u : Value) (e : Ex) (be : List Nat) (X : World) : Prop where
 row : Row X Pe 32 [.int .i64 K, .string S, u]
 is : ExIs X (.agg #[.int .i64 K, .string S, u]) e be
 th : Thawed X be
 sz : exSize e ≤ 1000 ∧ exTot e ≤ 1048576
theorem L2.below {Pe : Nat} {K : Int} {S : ByteArray} {u : Value} {e : Ex} {be : List Nat} {X X2 : World} (h : L2 Pe K S u e be X) (hb : Below X.heap.size X X2) : L2 Pe K S u e be X2 :=
 ⟨(hb.block _ h.row.lt).trans h.row, h.is.below hb, fun x hx => ⟨nL (h.th x hx).1 hb.size, fun o => (World.frozen?_of_block (w := X) (a := ⟨x, o, none⟩) (hb.block x (h.th x hx).1)).trans ((h.th x hx).2 o)⟩, h.sz⟩
structure L4 (w : World) (Pq : Nat) (vq : Value) (lq : List Ru) (bq : List Nat) (Pu : Nat) (vu : Value) (lu : List Ru) (bu : List Nat) (K : Int) (S : ByteArray) (ue : Value) (e : Ex) (be : List Nat) (Px : Nat) (vx : Value) (lx : List Ru) (bx : List Nat) (X : World) : Prop where
 q : L1 w Pq vq lq bq X
 u : L1 w Pu vu lu bu X
 e : L2 (Pu + 1) K S ue e be X
 x : L1 w Px vx lx bx X
theorem L4.below {w : World} {Pq : Nat} {vq : Value} {lq : List Ru} {bq : List Nat} {Pu : Nat} {vu : Value} {lu : List Ru} {bu : List Nat} {K : Int} {S : ByteArray} {ue : Value} {e : Ex} {be : List Nat} {Px : Nat} {vx : Value} {lx : List Ru} {bx : List Nat} {X X2 : World} (h : L4 w Pq vq lq bq Pu vu lu bu K S ue e be Px vx lx bx X) (hb : Below X.heap.size X X2) : L4 w Pq vq lq bq Pu vu lu bu K S ue e be Px vx lx bx X2 :=
 ⟨h.q.below hb, h.u.below hb, h.e.below hb, h.x.below hb⟩
theorem L4.drew {w : World} {Pq : Nat} {vq : Value} {lq : List Ru} {bq : List Nat} {Pu : Nat} {vu : Value} {lu : List Ru} {bu : List Nat} {K : Int} {S : ByteArray} {ue : Value} {e : Ex} {be : List Nat} {Px : Nat} {vx : Value} {lx : List Ru} {bx : List Nat} {X : World} (h : L4 w Pq vq lq bq Pu vu lu bu K S ue e be Px vx lx bx X) : L4 w Pq vq lq bq Pu vu lu bu K S ue e be Px vx lx bx X.drew := h.below (wB _ _).drew
theorem L4.weak {w : World} {Pq : Nat} {vq : Value} {lq : List Ru} {bq : List Nat} {Pu : Nat} {vu : Value} {lu : List Ru} {bu : List Nat} {K : Int} {S : ByteArray} {ue : Value} {e : Ex} {be : List Nat} {Px : Nat} {vx : Value} {lx : List Ru} {bx : List Nat} {X : World} (h : L4 w Pq vq lq bq Pu vu lu bu K S ue e be Px vx lx bx X) :
 X.cell? ⟨Pq, 0, none⟩ = some vq ∧ X.cell? ⟨Pu, 0, none⟩ = some vu ∧ X.cell? ⟨Pu + 1, 0, none⟩ = some (.int .i64 K) ∧ X.cell? ⟨Pu + 1, 1, none⟩ = some (.string S) ∧ X.cell? ⟨Pu + 1, 2, none⟩ = some ue ∧ X.cell? ⟨Px, 0, none⟩ = some vx :=
 ⟨h.q.box.facts.1, h.u.box.facts.1, h.e.row.cell 0 _ rfl, h.e.row.cell 1 _ rfl, h.e.row.cell 2 _ rfl, h.x.box.facts.1⟩
theorem mid_body {l : List Ru} (h : MidPr l) {r : Ru} (hr : r ∈ l) : exSize r.body ≤ 1099511627776 ∧ exTot r.body ≤ 1048576 ∧ r.params.length ≤ 1099511627776 := by
 have h1 := rusTot_mem hr
 have h2 := h.tot
 have h3 := h.each r hr
 have h4 := (tot_size _).1 r.body (nR _)
 unfold ruTot at h1
 omega
set_option maxRecDepth 1000000 in
theorem law_programs (A : Option Addr) (zs : List Int) (cap : Nat) (w : World) (hs : Bytes w w.heap.size A zs) (hn : zs.length ≤ 1048576) :
 Calls Tryz.prog 3 #[.slice A zs.length cap] w (TrueP w) := by
 have HBG := zH (bigP_no A zs.length cap w (by omega))
 have HD1 := zH (fun (X : World) (hb : Below w.heap.size w X) => draw_valid A zs cap X (fun i z hz => by
  obtain ⟨a, h1, h2, h3, h4, h5⟩ := (hs.below hb) i z hz
  exact ⟨a, h1, h2, h3, h4, nL h5 hb.size⟩) hn)
 have HD2 := zH (fun (X : World) (hb : Below w.heap.size w X) => draw_con A zs cap X (fun i z hz => by
  obtain ⟨a, h1, h2, h3, h4, h5⟩ := (hs.below hb) i z hz
  exact ⟨a, h1, h2, h3, h4, nL h5 hb.size⟩) hn)
 have HD3 := zH (fun (X : World) (hb : Below w.heap.size w X) => draw_exfor A zs cap X (fun i z hz => by
  obtain ⟨a, h1, h2, h3, h4, h5⟩ := (hs.below hb) i z hz
  exact ⟨a, h1, h2, h3, h4, nL h5 hb.size⟩) hn)
 have HD4 := zH (fun (X : World) (hb : Below w.heap.size w X) => draw_find A zs cap X (fun i z hz => by
  obtain ⟨a, h1, h2, h3, h4, h5⟩ := (hs.below hb) i z hz
  exact ⟨a, h1, h2, h3, h4, nL h5 hb.size⟩) hn)
 clear hs hn
 generalize hq : zs.length = q at *
 go_enter Tryz.func3, Tryz.ntmps3
 go_wp2_with fail
 go_at_call 4
 refine HBG.out.mono ?_
 rintro r w0 ⟨rfl, rfl⟩
 go_wp2_with fail
 go_at_call 5
 refine (HD1.out w (wB _ _)).mono ?_
 rintro r w1 ⟨v, l, bs, rfl, hd, -, hb1⟩
 have HDP := zH hd
 have HB1 := zH hb1
 obtain ⟨u, rfl, hu⟩ := id hd.1
 obtain ⟨A1, c1, rfl, hc1, -, -⟩ := id hu
 have HL1 := zH (show Lw w w1.heap.size (.slice A1 l.length c1) l bs (w1.alloc (.cells #[.slice A1 l.length c1] 26)) from
  ⟨hb1.alloc hb1.size _, PBox.new w1 _, hd.below ((wB _ _).alloc (nR _) _)⟩)
 have HMD := zH hd.2.2
 have HV1 := zH (fun (X : World) (h : Lw w w1.heap.size (.slice A1 l.length c1) l bs X) => own_validp l _ bs X h.is.1 h.is.2.1 (by have := h.is.2.2.tot; omega))
 have HV2 := zH (fun (X : World) (h : Lw w w1.heap.size (.slice A1 l.length c1) l bs X) => validp_any l _ bs X h.is.1 (by have := h.is.2.2.tot; omega))
 obtain ⟨n, hln⟩ : ∃ n, n = l.length := ⟨_, rfl⟩
 have HLN := zH hln
 have hn25 : n ≤ 25 := by rw [hln]; exact hd.2.2.hi
 rw [← hln] at HL1 HV1 HV2 hc1 ⊢
 obtain ⟨ok, hok⟩ : ∃ ok, ok = validR l := ⟨_, rfl⟩
 have HOK := zH hok
 rw [← hok] at HV1 HV2
 clear hd hb1 hu hln hok HDP HB1
 go_wp2_with fail
 go_at_call 6
 refine (HV1.out _ HL1.out).mono ?_
 rintro r w2 ⟨rfl, hb2⟩
 have HL2 := zH (HL1.out.below hb2)
 clear hb2 HL1 HV1
 obtain ⟨p0, pf, pl⟩ := HL2.out.box.facts
 go_wp2_with fail
 go_at_call 7
 refine (HV2.out _ HL2.out).mono ?_
 rintro r w3 ⟨rfl, hb3⟩
 have HL3 := zH (HL2.out.below hb3)
 have hbb : (ok != ok) = false := by simp
 clear hb3 HL2 HV2 p0 pf pl
 obtain ⟨p0, pf, pl⟩ := HL3.out.box.facts
 go_wp2_with fail
 go_loopw [5] (fun i wr => ∃ (k : Nat), i = .int .i64 (k : Int) ∧ k ≤ n ∧ Hid (Lw w w1.heap.size (.slice A1 n c1) l bs wr)) (fun i _ => n - (intOf i).toNat)
 case atStart => exact ⟨0, rfl, Nat.zero_le _, HL3⟩
 case round =>
  obtain ⟨k, rfl, hkn, HLR⟩ := hrel
  clear HL3 p0 pf pl
  obtain ⟨p0, pf, pl⟩ := HLR.out.box.facts
  by_cases hlt : k < n ∧ ok = true
  · obtain ⟨hlt, rfl⟩ := hlt
    have hki : (k : Int) < (n : Int) := by omega
    have hk0 : (0 : Int) ≤ (k : Int) := by omega
    obtain ⟨r, hr⟩ : ∃ r, l[k]? = some r := ⟨_, List.getElem?_eq_getElem (by rw [← HLN.out]; exact hlt)⟩
    obtain ⟨e1, e2, e3, e4⟩ := valid_rule HOK.out.symm hr
    obtain ⟨uu, euu, hrs⟩ := HLR.out.is.1
    simp only [Value.agg.injEq, Array.mk.injEq, List.cons.injEq, and_true] at euu
    subst euu
    obtain ⟨gR, oR, r', v1, v2, u3, b3, ⟨rfl, hgR, hget, hmem, hcells, hris⟩, hsub⟩ := hrs.getM k (by rw [← HLN.out]; exact hlt)
    obtain rfl : r' = r := Option.some.inj (hget.symm.trans hr)
    obtain ⟨c10, c11, c12, c13, c14, c15, c16⟩ := hcells
    obtain ⟨b1', b2', b3', hbb3, -, -, hss1, hss2, hss3⟩ := hris.parts
    obtain ⟨A3, c3, rfl⟩ := hss1.slice
    obtain ⟨A4, c4, rfl⟩ := hss2.slice
    obtain ⟨A5, z5, c5, rfl⟩ := his_slice0 hss3
    have HMEM := zH hmem
    have HQ0 := zH (show Lq w w1.heap.size (.slice (some ⟨gR, oR, none⟩) n c1) l bs wr.heap.size r' (.slice A3 r'.vars.length c3) (.slice A4 r'.params.length c4) (.slice A5 z5 c5) b3 (wr.alloc (.cells #[.string r'.name, .string r'.con, .slice A3 r'.vars.length c3, .slice A4 r'.params.length c4, .int .i64 r'.body.kind, .string r'.body.name, .slice A5 z5 c5] 34)) from
     ⟨HLR.out.below ((wB _ _).alloc (nR _) _), heap_alloc_new wr _, hris.below ((wB _ _).alloc (nR _) _), hsub⟩)
    have HMB := zH (fun r (hr : r ∈ l) => mid_body HMD.out hr)
    have HC1 := zH (fun (X : World) (h : Lq w w1.heap.size (.slice (some ⟨gR, oR, none⟩) n c1) l bs wr.heap.size r' (.slice A3 r'.vars.length c3) (.slice A4 r'.params.length c4) (.slice A5 z5 c5) b3 X) => own_find l r'.name r'.con _ bs X h.lw.is.1 (by have := HLN.out; omega))
    have HC2 := zH (fun (X : World) (h : Lq w w1.heap.size (.slice (some ⟨gR, oR, none⟩) n c1) l bs wr.heap.size r' (.slice A3 r'.vars.length c3) (.slice A4 r'.params.length c4) (.slice A5 z5 c5) b3 X) => own_farity l r'.name _ bs X h.lw.is.1 (by have := HLN.out; omega) (fun r hr => (HMB.out r hr).2.2))
    have HC3 := zH (fun (X : World) (h : Lq w w1.heap.size (.slice (some ⟨gR, oR, none⟩) n c1) l bs wr.heap.size r' (.slice A3 r'.vars.length c3) (.slice A4 r'.params.length c4) (.slice A5 z5 c5) b3 X) => own_fkind l r'.name _ bs X h.lw.is.1 (by have := HLN.out; omega))
    have HC4 := zH (fun (X : World) (h : Lq w w1.heap.size (.slice (some ⟨gR, oR, none⟩) n c1) l bs wr.heap.size r' (.slice A3 r'.vars.length c3) (.slice A4 r'.params.length c4) (.slice A5 z5 c5) b3 X) => show Calls Tryz.prog 11 #[.agg #[.slice (some ⟨gR, oR, none⟩) n c1], .agg #[.int .i64 r'.body.kind, .string r'.body.name, .slice A5 z5 c5]] X (RetPost (.bool true) X) from by
     obtain ⟨d1, d2, d3, hdd, -, -, -, -, hxx⟩ := h.ri.parts
     have h9 := own_for l r'.body _ _ bs d3 X h.lw.is.1 hxx (fun x hx => by
      rcases List.mem_append.1 hx with hx | hx
      · exact h.lw.is.2.1 x hx
      exact h.lw.is.2.1 x (h.sub x (by rw [hdd]; simp [hx]))) (fun r hr => (HMB.out r hr).1) (by have := HLN.out; omega) (fun r hr => (HMB.out r hr).2.2) (HMB.out r' HMEM.out).1
     rw [e4] at h9
     exact h9)
    rw [e1] at HC1
    obtain ⟨np, hnp⟩ : ∃ np, np = r'.params.length := ⟨_, rfl⟩
    have hnp3 : np ≤ 3 := by rw [hnp]; exact (HMD.out.each r' HMEM.out).1
    have hw0 : IntKind.i64.wrap (np : Int) = (np : Int) := IntWalk.i64_in _ (by omega)
    have hw1 : IntKind.i64.wrap ((np : Int) + 1) = (np : Int) + 1 := IntWalk.i64_in _ (by omega)
    by_cases hcon : r'.con.size = 0
    · have hxe := empty_yes hcon
      rw [if_pos hcon] at e2 e3
      rw [e2, Int.add_zero, ← hnp] at HC2
      rw [e3] at HC3
      clear hss1 hss2 hss3 hris hmem hget hr hrs hsub hbb3 e1 e2 e3 e4
      rw [← hnp] at HQ0 HC1 HC3 HC4 c13
      clear hnp
      go_wp2_with fail
      clear c10 c11 c12 c13 c14 c15 c16 p0 pf pl hbb hxe hgR hc1
      refine wp_region_held_drew (S := (fun X => X.cell? ⟨w1.heap.size, 0, none⟩ = some (.slice (some ⟨gR, oR, none⟩) n c1) ∧ X.cell? ⟨wr.heap.size, 0, none⟩ = some (.string r'.name) ∧ X.cell? ⟨wr.heap.size, 1, none⟩ = some (.string r'.con) ∧ X.cell? ⟨wr.heap.size, 3, none⟩ = some (.slice A4 np c4) ∧ X.cell? ⟨wr.heap.size, 4, none⟩ = some (.int .i64 r'.body.kind) ∧ X.cell? ⟨wr.heap.size, 5, none⟩ = some (.string r'.body.name) ∧ X.cell? ⟨wr.heap.size, 6, none⟩ = some (.slice A5 z5 c5))) (by kernel_rfl) ?_ (fun hHeld => ?_)
      · exact HQ0.out.drew.weak
      refine zT (i := 0) (oi := (⟨some 43, Op.load 26 (.tmp 3), 26, "laws.go:199", #[], none⟩ : Oper)) (v := (.agg #[.slice (some ⟨gR, oR, none⟩) n c1])) rfl (fun X hSw => ?_) hHeld ?_
      · (try dsimp only at hSw)
        go_simp
      try simp only [Act.put, sJ, tJ, uJ]
      refine zT (i := 1) (oi := (⟨some 44, Op.fieldAddr 34 (.tmp 6) 0, 0, "laws.go:199", #[], none⟩ : Oper)) (v := (.pointer (some ⟨wr.heap.size, 0, none⟩))) rfl (fun X hSw => ?_) hHeld ?_
      · (try dsimp only at hSw)
        go_simp
      try simp only [Act.put, sJ, tJ, uJ]
      refine zT (i := 2) (oi := (⟨some 45, Op.load 9 (.tmp 44), 9, "laws.go:199", #[⟨1, .data⟩], none⟩ : Oper)) (v := (.string r'.name)) rfl (fun X hSw => ?_) hHeld ?_
      · (try dsimp only at hSw)
        go_simp
      try simp only [Act.put, sJ, tJ, uJ]
      refine zT (i := 3) (oi := (⟨some 46, Op.fieldAddr 34 (.tmp 6) 1, 0, "laws.go:199", #[], none⟩ : Oper)) (v := (.pointer (some ⟨wr.heap.size, 1, none⟩))) rfl (fun X hSw => ?_) hHeld ?_
      · (try dsimp only at hSw)
        go_simp
      try simp only [Act.put, sJ, tJ, uJ]
      refine zT (i := 4) (oi := (⟨some 47, Op.load 9 (.tmp 46), 9, "laws.go:199", #[⟨3, .data⟩], none⟩ : Oper)) (v := (.string r'.con)) rfl (fun X hSw => ?_) hHeld ?_
      · (try dsimp only at hSw)
        go_simp
      try simp only [Act.put, sJ, tJ, uJ]
      refine zT (i := 6) (oi := (⟨some 49, Op.move (.tmp 5), 3, "laws.go:199", #[], none⟩ : Oper)) (v := (.int .i64 (k : Int))) rfl (fun X hSw => ?_) hHeld ?_
      · (try dsimp only at hSw)
        go_simp
      try simp only [Act.put, sJ, tJ, uJ]
      clear hHeld
      refine zC (i := 5) (o := (⟨some 48, Op.call { callee := Callee.value (.func 8), args := #[.tmp 43, .tmp 45, .tmp 47], argTypes := #[26, 9, 9] }, 3, "laws.go:199", #[⟨0, .data⟩, ⟨2, .data⟩, ⟨4, .data⟩], none⟩ : Oper)) rfl fun K hK => ?_
      go_simp
      go_at_call 8
      refine (HC1.out _ HQ0.out.drew).mono ?_
      rintro e w5 ⟨rfl, hb⟩
      have HQ1 := zH ((HQ0.out.drew).below hb)
      clear hb
      refine hK.out _ _ HQ1.out.weak (fun hHeld => ?_)
      try simp only [Act.put, sJ, tJ, uJ]
      refine zT (i := 7) (oi := (⟨some 50, Op.binOp BinOp.neq 3 (.tmp 48) (.tmp 49) 3, 4, "laws.go:199", #[⟨5, .data⟩, ⟨6, .data⟩], none⟩ : Oper)) (v := (.bool false)) rfl (fun X hSw => ?_) hHeld ?_
      · (try dsimp only at hSw)
        go_simp
      try simp only [Act.put, sJ, tJ, uJ]
      refine zT (i := 8) (oi := (⟨some 51, Op.move (.tmp 50), 4, "laws.go:199", #[⟨7, .data⟩, ⟨5, .chain⟩], none⟩ : Oper)) (v := (.bool false)) rfl (fun X hSw => ?_) hHeld ?_
      · (try dsimp only at hSw)
        go_simp
      try simp only [Act.put, sJ, tJ, uJ]
      refine zT (i := 9) (oi := (⟨some 52, Op.load 26 (.tmp 3), 26, "laws.go:199", #[⟨8, .guard⟩], some (8, false)⟩ : Oper)) (v := (.agg #[.slice (some ⟨gR, oR, none⟩) n c1])) rfl (fun X hSw => ?_) hHeld ?_
      · (try dsimp only at hSw)
        go_simp
      try simp only [Act.put, sJ, tJ, uJ]
      refine zT (i := 10) (oi := (⟨some 53, Op.fieldAddr 34 (.tmp 6) 0, 0, "laws.go:199", #[⟨8, .guard⟩], some (8, false)⟩ : Oper)) (v := (.pointer (some ⟨wr.heap.size, 0, none⟩))) rfl (fun X hSw => ?_) hHeld ?_
      · (try dsimp only at hSw)
        go_simp
      try simp only [Act.put, sJ, tJ, uJ]
      refine zT (i := 11) (oi := (⟨some 54, Op.load 9 (.tmp 53), 9, "laws.go:199", #[⟨10, .data⟩, ⟨8, .guard⟩], some (8, false)⟩ : Oper)) (v := (.string r'.name)) rfl (fun X hSw => ?_) hHeld ?_
      · (try dsimp only at hSw)
        go_simp
      try simp only [Act.put, sJ, tJ, uJ]
      refine zT (i := 13) (oi := (⟨some 56, Op.fieldAddr 34 (.tmp 6) 3, 0, "laws.go:199", #[⟨8, .guard⟩], some (8, false)⟩ : Oper)) (v := (.pointer (some ⟨wr.heap.size, 3, none⟩))) rfl (fun X hSw => ?_) hHeld ?_
      · (try dsimp only at hSw)
        go_simp
      try simp only [Act.put, sJ, tJ, uJ]
      refine zT (i := 14) (oi := (⟨some 57, Op.load 29 (.tmp 56), 29, "laws.go:199", #[⟨13, .data⟩, ⟨8, .guard⟩], some (8, false)⟩ : Oper)) (v := (.slice A4 np c4)) rfl (fun X hSw => ?_) hHeld ?_
      · (try dsimp only at hSw)
        go_simp
      try simp only [Act.put, sJ, tJ, uJ]
      refine zT (i := 15) (oi := (⟨some 58, Op.call { callee := Callee.builtin Builtin.len, args := #[.tmp 57], argTypes := #[29] }, 3, "laws.go:199", #[⟨14, .data⟩, ⟨8, .guard⟩], some (8, false)⟩ : Oper)) (v := (.int .i64 (np : Int))) rfl (fun X hSw => ?_) hHeld ?_
      · (try dsimp only at hSw)
        go_simp
      try simp only [Act.put, sJ, tJ, uJ]
      refine zT (i := 16) (oi := (⟨some 59, Op.move (.tmp 7), 3, "laws.go:199", #[⟨8, .guard⟩], some (8, false)⟩ : Oper)) (v := (.int .i64 0)) rfl (fun X hSw => ?_) hHeld ?_
      · (try dsimp only at hSw)
        go_simp
      try simp only [Act.put, sJ, tJ, uJ]
      refine zT (i := 17) (oi := (⟨some 60, Op.binOp BinOp.add 3 (.tmp 58) (.tmp 59) 3, 3, "laws.go:199", #[⟨15, .data⟩, ⟨16, .data⟩, ⟨8, .guard⟩], some (8, false)⟩ : Oper)) (v := (.int .i64 (np : Int))) rfl (fun X hSw => ?_) hHeld ?_
      · (try dsimp only at hSw)
        go_simp
      try simp only [Act.put, sJ, tJ, uJ]
      clear hHeld
      refine zC (i := 12) (o := (⟨some 55, Op.call { callee := Callee.value (.func 9), args := #[.tmp 52, .tmp 54], argTypes := #[26, 9] }, 3, "laws.go:199", #[⟨9, .data⟩, ⟨11, .data⟩, ⟨8, .chain⟩, ⟨8, .guard⟩], some (8, false)⟩ : Oper)) rfl fun K hK => ?_
      go_simp
      go_at_call 9
      refine (HC2.out _ HQ1.out).mono ?_
      rintro e w6 ⟨rfl, hb⟩
      have HQ2 := zH ((HQ1.out).below hb)
      clear hb
      refine hK.out _ _ HQ2.out.weak (fun hHeld => ?_)
      try simp only [Act.put, sJ, tJ, uJ]
      refine zT (i := 18) (oi := (⟨some 61, Op.binOp BinOp.neq 3 (.tmp 55) (.tmp 60) 3, 4, "laws.go:199", #[⟨12, .data⟩, ⟨17, .data⟩, ⟨8, .guard⟩], some (8, false)⟩ : Oper)) (v := (.bool false)) rfl (fun X hSw => ?_) hHeld ?_
      · (try dsimp only at hSw)
        go_simp
      try simp only [Act.put, sJ, tJ, uJ]
      refine zT (i := 19) (oi := (⟨some 62, Op.pick (.tmp 51) (.const (Value.bool true)) (.tmp 61), 4, "laws.go:199", #[⟨8, .data⟩, ⟨18, .data⟩], none⟩ : Oper)) (v := (.bool false)) rfl (fun X hSw => ?_) hHeld ?_
      · (try dsimp only at hSw)
        go_simp
      try simp only [Act.put, sJ, tJ, uJ]
      refine zT (i := 20) (oi := (⟨some 63, Op.move (.tmp 62), 4, "laws.go:199", #[⟨19, .data⟩, ⟨12, .chain⟩], none⟩ : Oper)) (v := (.bool false)) rfl (fun X hSw => ?_) hHeld ?_
      · (try dsimp only at hSw)
        go_simp
      try simp only [Act.put, sJ, tJ, uJ]
      refine zT (i := 21) (oi := (⟨some 64, Op.load 26 (.tmp 3), 26, "laws.go:199", #[⟨20, .guard⟩], some (20, false)⟩ : Oper)) (v := (.agg #[.slice (some ⟨gR, oR, none⟩) n c1])) rfl (fun X hSw => ?_) hHeld ?_
      · (try dsimp only at hSw)
        go_simp
      try simp only [Act.put, sJ, tJ, uJ]
      refine zT (i := 22) (oi := (⟨some 65, Op.fieldAddr 34 (.tmp 6) 0, 0, "laws.go:199", #[⟨20, .guard⟩], some (20, false)⟩ : Oper)) (v := (.pointer (some ⟨wr.heap.size, 0, none⟩))) rfl (fun X hSw => ?_) hHeld ?_
      · (try dsimp only at hSw)
        go_simp
      try simp only [Act.put, sJ, tJ, uJ]
      refine zT (i := 23) (oi := (⟨some 66, Op.load 9 (.tmp 65), 9, "laws.go:199", #[⟨22, .data⟩, ⟨20, .guard⟩], some (20, false)⟩ : Oper)) (v := (.string r'.name)) rfl (fun X hSw => ?_) hHeld ?_
      · (try dsimp only at hSw)
        go_simp
      try simp only [Act.put, sJ, tJ, uJ]
      refine zT (i := 25) (oi := (⟨some 68, Op.move (.tmp 7), 3, "laws.go:199", #[⟨20, .guard⟩], some (20, false)⟩ : Oper)) (v := (.int .i64 0)) rfl (fun X hSw => ?_) hHeld ?_
      · (try dsimp only at hSw)
        go_simp
      try simp only [Act.put, sJ, tJ, uJ]
      refine zT (i := 26) (oi := (⟨some 69, Op.binOp BinOp.add 3 (.const (Value.int IntKind.i64 1)) (.tmp 68) 3, 3, "laws.go:199", #[⟨25, .data⟩, ⟨20, .guard⟩], some (20, false)⟩ : Oper)) (v := (.int .i64 1)) rfl (fun X hSw => ?_) hHeld ?_
      · (try dsimp only at hSw)
        go_simp
        exact IntWalk.i64_in _ (by omega)
      try simp only [Act.put, sJ, tJ, uJ]
      clear hHeld
      refine zC (i := 24) (o := (⟨some 67, Op.call { callee := Callee.value (.func 10), args := #[.tmp 64, .tmp 66], argTypes := #[26, 9] }, 3, "laws.go:199", #[⟨21, .data⟩, ⟨23, .data⟩, ⟨20, .chain⟩, ⟨20, .guard⟩], some (20, false)⟩ : Oper)) rfl fun K hK => ?_
      go_simp
      go_at_call 10
      refine (HC3.out _ HQ2.out).mono ?_
      rintro e w7 ⟨rfl, hb⟩
      have HQ3 := zH ((HQ2.out).below hb)
      clear hb
      refine hK.out _ _ HQ3.out.weak (fun hHeld => ?_)
      try simp only [Act.put, sJ, tJ, uJ]
      refine zT (i := 27) (oi := (⟨some 70, Op.binOp BinOp.neq 3 (.tmp 67) (.tmp 69) 3, 4, "laws.go:199", #[⟨24, .data⟩, ⟨26, .data⟩, ⟨20, .guard⟩], some (20, false)⟩ : Oper)) (v := (.bool false)) rfl (fun X hSw => ?_) hHeld ?_
      · (try dsimp only at hSw)
        go_simp
      try simp only [Act.put, sJ, tJ, uJ]
      refine zT (i := 28) (oi := (⟨some 71, Op.pick (.tmp 63) (.const (Value.bool true)) (.tmp 70), 4, "laws.go:199", #[⟨20, .data⟩, ⟨27, .data⟩], none⟩ : Oper)) (v := (.bool false)) rfl (fun X hSw => ?_) hHeld ?_
      · (try dsimp only at hSw)
        go_simp
      try simp only [Act.put, sJ, tJ, uJ]
      refine zT (i := 29) (oi := (⟨some 72, Op.move (.tmp 71), 4, "laws.go:199", #[⟨28, .data⟩, ⟨24, .chain⟩], none⟩ : Oper)) (v := (.bool false)) rfl (fun X hSw => ?_) hHeld ?_
      · (try dsimp only at hSw)
        go_simp
      try simp only [Act.put, sJ, tJ, uJ]
      refine zT (i := 30) (oi := (⟨some 73, Op.load 26 (.tmp 3), 26, "laws.go:199", #[⟨29, .guard⟩], some (29, false)⟩ : Oper)) (v := (.agg #[.slice (some ⟨gR, oR, none⟩) n c1])) rfl (fun X hSw => ?_) hHeld ?_
      · (try dsimp only at hSw)
        go_simp
      try simp only [Act.put, sJ, tJ, uJ]
      refine zT (i := 31) (oi := (⟨some 74, Op.fieldAddr 34 (.tmp 6) 4, 0, "laws.go:199", #[⟨29, .guard⟩], some (29, false)⟩ : Oper)) (v := (.pointer (some ⟨wr.heap.size, 4, none⟩))) rfl (fun X hSw => ?_) hHeld ?_
      · (try dsimp only at hSw)
        go_simp
      try simp only [Act.put, sJ, tJ, uJ]
      refine zT (i := 32) (oi := (⟨some 75, Op.load 32 (.tmp 74), 32, "laws.go:199", #[⟨31, .data⟩, ⟨29, .guard⟩], some (29, false)⟩ : Oper)) (v := (.agg #[.int .i64 r'.body.kind, .string r'.body.name, .slice A5 z5 c5])) rfl (fun X hSw => ?_) hHeld ?_
      · (try dsimp only at hSw)
        go_simp
      try simp only [Act.put, sJ, tJ, uJ]
      clear hHeld
      refine zC (i := 33) (o := (⟨some 76, Op.call { callee := Callee.value (.func 11), args := #[.tmp 73, .tmp 75], argTypes := #[26, 32] }, 4, "laws.go:199", #[⟨30, .data⟩, ⟨32, .data⟩, ⟨29, .chain⟩, ⟨29, .guard⟩], some (29, false)⟩ : Oper)) rfl fun K hK => ?_
      go_simp
      go_at_call 11
      refine (HC4.out _ HQ3.out).mono ?_
      rintro e w8 ⟨rfl, hb⟩
      have HQ4 := zH ((HQ3.out).below hb)
      clear hb
      refine hK.out _ _ HQ4.out.weak (fun hHeld => ?_)
      try simp only [Act.put, sJ, tJ, uJ]
      refine zT (i := 34) (oi := (⟨some 77, Op.unOp UnOp.not 4 (.tmp 76), 4, "laws.go:199", #[⟨33, .data⟩, ⟨29, .guard⟩], some (29, false)⟩ : Oper)) (v := (.bool false)) rfl (fun X hSw => ?_) hHeld ?_
      · (try dsimp only at hSw)
        go_simp
      try simp only [Act.put, sJ, tJ, uJ]
      refine zT (i := 35) (oi := (⟨some 78, Op.pick (.tmp 72) (.const (Value.bool true)) (.tmp 77), 4, "laws.go:199", #[⟨29, .data⟩, ⟨34, .data⟩], none⟩ : Oper)) (v := (.bool false)) rfl (fun X hSw => ?_) hHeld ?_
      · (try dsimp only at hSw)
        go_simp
      try simp only [Act.put, sJ, tJ, uJ]
      refine wpAnyH_done (by kernel_rfl) ?_ _
      clear hHeld
      have HLR2 := zH HQ4.out.lw
      clear HQ0 HQ1 HQ2 HQ3 HQ4 HC1 HC2 HC3 HC4 HMB hw0 hw1
      go_wp2_with fail
      go_roundw
      case rel => exact ⟨k + 1, by go_num, by omega, HLR2⟩
      case measure => simp [intOf]; omega
    have hxe := empty_not hcon
    rw [if_neg hcon] at e2 e3
    rw [e2, ← hnp] at HC2
    rw [e3] at HC3
    clear hss1 hss2 hss3 hris hmem hget hr hrs hsub hbb3 e1 e2 e3 e4
    rw [← hnp] at HQ0 HC1 HC3 HC4 c13
    clear hnp
    go_wp2_with fail
    clear c10 c11 c12 c13 c14 c15 c16 p0 pf pl hbb hxe hgR hc1
    refine wp_region_held_drew (S := (fun X => X.cell? ⟨w1.heap.size, 0, none⟩ = some (.slice (some ⟨gR, oR, none⟩) n c1) ∧ X.cell? ⟨wr.heap.size, 0, none⟩ = some (.string r'.name) ∧ X.cell? ⟨wr.heap.size, 1, none⟩ = some (.string r'.con) ∧ X.cell? ⟨wr.heap.size, 3, none⟩ = some (.slice A4 np c4) ∧ X.cell? ⟨wr.heap.size, 4, none⟩ = some (.int .i64 r'.body.kind) ∧ X.cell? ⟨wr.heap.size, 5, none⟩ = some (.string r'.body.name) ∧ X.cell? ⟨wr.heap.size, 6, none⟩ = some (.slice A5 z5 c5))) (by kernel_rfl) ?_ (fun hHeld => ?_)
    · exact HQ0.out.drew.weak
    refine zT (i := 0) (oi := (⟨some 43, Op.load 26 (.tmp 3), 26, "laws.go:199", #[], none⟩ : Oper)) (v := (.agg #[.slice (some ⟨gR, oR, none⟩) n c1])) rfl (fun X hSw => ?_) hHeld ?_
    · (try dsimp only at hSw)
      go_simp
    try simp only [Act.put, sJ, tJ, uJ]
    refine zT (i := 1) (oi := (⟨some 44, Op.fieldAddr 34 (.tmp 6) 0, 0, "laws.go:199", #[], none⟩ : Oper)) (v := (.pointer (some ⟨wr.heap.size, 0, none⟩))) rfl (fun X hSw => ?_) hHeld ?_
    · (try dsimp only at hSw)
      go_simp
    try simp only [Act.put, sJ, tJ, uJ]
    refine zT (i := 2) (oi := (⟨some 45, Op.load 9 (.tmp 44), 9, "laws.go:199", #[⟨1, .data⟩], none⟩ : Oper)) (v := (.string r'.name)) rfl (fun X hSw => ?_) hHeld ?_
    · (try dsimp only at hSw)
      go_simp
    try simp only [Act.put, sJ, tJ, uJ]
    refine zT (i := 3) (oi := (⟨some 46, Op.fieldAddr 34 (.tmp 6) 1, 0, "laws.go:199", #[], none⟩ : Oper)) (v := (.pointer (some ⟨wr.heap.size, 1, none⟩))) rfl (fun X hSw => ?_) hHeld ?_
    · (try dsimp only at hSw)
      go_simp
    try simp only [Act.put, sJ, tJ, uJ]
    refine zT (i := 4) (oi := (⟨some 47, Op.load 9 (.tmp 46), 9, "laws.go:199", #[⟨3, .data⟩], none⟩ : Oper)) (v := (.string r'.con)) rfl (fun X hSw => ?_) hHeld ?_
    · (try dsimp only at hSw)
      go_simp
    try simp only [Act.put, sJ, tJ, uJ]
    refine zT (i := 6) (oi := (⟨some 49, Op.move (.tmp 5), 3, "laws.go:199", #[], none⟩ : Oper)) (v := (.int .i64 (k : Int))) rfl (fun X hSw => ?_) hHeld ?_
    · (try dsimp only at hSw)
      go_simp
    try simp only [Act.put, sJ, tJ, uJ]
    clear hHeld
    refine zC (i := 5) (o := (⟨some 48, Op.call { callee := Callee.value (.func 8), args := #[.tmp 43, .tmp 45, .tmp 47], argTypes := #[26, 9, 9] }, 3, "laws.go:199", #[⟨0, .data⟩, ⟨2, .data⟩, ⟨4, .data⟩], none⟩ : Oper)) rfl fun K hK => ?_
    go_simp
    go_at_call 8
    refine (HC1.out _ HQ0.out.drew).mono ?_
    rintro e w5 ⟨rfl, hb⟩
    have HQ1 := zH ((HQ0.out.drew).below hb)
    clear hb
    refine hK.out _ _ HQ1.out.weak (fun hHeld => ?_)
    try simp only [Act.put, sJ, tJ, uJ]
    refine zT (i := 7) (oi := (⟨some 50, Op.binOp BinOp.neq 3 (.tmp 48) (.tmp 49) 3, 4, "laws.go:199", #[⟨5, .data⟩, ⟨6, .data⟩], none⟩ : Oper)) (v := (.bool false)) rfl (fun X hSw => ?_) hHeld ?_
    · (try dsimp only at hSw)
      go_simp
    try simp only [Act.put, sJ, tJ, uJ]
    refine zT (i := 8) (oi := (⟨some 51, Op.move (.tmp 50), 4, "laws.go:199", #[⟨7, .data⟩, ⟨5, .chain⟩], none⟩ : Oper)) (v := (.bool false)) rfl (fun X hSw => ?_) hHeld ?_
    · (try dsimp only at hSw)
      go_simp
    try simp only [Act.put, sJ, tJ, uJ]
    refine zT (i := 9) (oi := (⟨some 52, Op.load 26 (.tmp 3), 26, "laws.go:199", #[⟨8, .guard⟩], some (8, false)⟩ : Oper)) (v := (.agg #[.slice (some ⟨gR, oR, none⟩) n c1])) rfl (fun X hSw => ?_) hHeld ?_
    · (try dsimp only at hSw)
      go_simp
    try simp only [Act.put, sJ, tJ, uJ]
    refine zT (i := 10) (oi := (⟨some 53, Op.fieldAddr 34 (.tmp 6) 0, 0, "laws.go:199", #[⟨8, .guard⟩], some (8, false)⟩ : Oper)) (v := (.pointer (some ⟨wr.heap.size, 0, none⟩))) rfl (fun X hSw => ?_) hHeld ?_
    · (try dsimp only at hSw)
      go_simp
    try simp only [Act.put, sJ, tJ, uJ]
    refine zT (i := 11) (oi := (⟨some 54, Op.load 9 (.tmp 53), 9, "laws.go:199", #[⟨10, .data⟩, ⟨8, .guard⟩], some (8, false)⟩ : Oper)) (v := (.string r'.name)) rfl (fun X hSw => ?_) hHeld ?_
    · (try dsimp only at hSw)
      go_simp
    try simp only [Act.put, sJ, tJ, uJ]
    refine zT (i := 13) (oi := (⟨some 56, Op.fieldAddr 34 (.tmp 6) 3, 0, "laws.go:199", #[⟨8, .guard⟩], some (8, false)⟩ : Oper)) (v := (.pointer (some ⟨wr.heap.size, 3, none⟩))) rfl (fun X hSw => ?_) hHeld ?_
    · (try dsimp only at hSw)
      go_simp
    try simp only [Act.put, sJ, tJ, uJ]
    refine zT (i := 14) (oi := (⟨some 57, Op.load 29 (.tmp 56), 29, "laws.go:199", #[⟨13, .data⟩, ⟨8, .guard⟩], some (8, false)⟩ : Oper)) (v := (.slice A4 np c4)) rfl (fun X hSw => ?_) hHeld ?_
    · (try dsimp only at hSw)
      go_simp
    try simp only [Act.put, sJ, tJ, uJ]
    refine zT (i := 15) (oi := (⟨some 58, Op.call { callee := Callee.builtin Builtin.len, args := #[.tmp 57], argTypes := #[29] }, 3, "laws.go:199", #[⟨14, .data⟩, ⟨8, .guard⟩], some (8, false)⟩ : Oper)) (v := (.int .i64 (np : Int))) rfl (fun X hSw => ?_) hHeld ?_
    · (try dsimp only at hSw)
      go_simp
    try simp only [Act.put, sJ, tJ, uJ]
    refine zT (i := 16) (oi := (⟨some 59, Op.move (.tmp 7), 3, "laws.go:199", #[⟨8, .guard⟩], some (8, false)⟩ : Oper)) (v := (.int .i64 1)) rfl (fun X hSw => ?_) hHeld ?_
    · (try dsimp only at hSw)
      go_simp
    try simp only [Act.put, sJ, tJ, uJ]
    refine zT (i := 17) (oi := (⟨some 60, Op.binOp BinOp.add 3 (.tmp 58) (.tmp 59) 3, 3, "laws.go:199", #[⟨15, .data⟩, ⟨16, .data⟩, ⟨8, .guard⟩], some (8, false)⟩ : Oper)) (v := (.int .i64 ((np : Int) + 1))) rfl (fun X hSw => ?_) hHeld ?_
    · (try dsimp only at hSw)
      go_simp
    try simp only [Act.put, sJ, tJ, uJ]
    clear hHeld
    refine zC (i := 12) (o := (⟨some 55, Op.call { callee := Callee.value (.func 9), args := #[.tmp 52, .tmp 54], argTypes := #[26, 9] }, 3, "laws.go:199", #[⟨9, .data⟩, ⟨11, .data⟩, ⟨8, .chain⟩, ⟨8, .guard⟩], some (8, false)⟩ : Oper)) rfl fun K hK => ?_
    go_simp
    go_at_call 9
    refine (HC2.out _ HQ1.out).mono ?_
    rintro e w6 ⟨rfl, hb⟩
    have HQ2 := zH ((HQ1.out).below hb)
    clear hb
    refine hK.out _ _ HQ2.out.weak (fun hHeld => ?_)
    try simp only [Act.put, sJ, tJ, uJ]
    refine zT (i := 18) (oi := (⟨some 61, Op.binOp BinOp.neq 3 (.tmp 55) (.tmp 60) 3, 4, "laws.go:199", #[⟨12, .data⟩, ⟨17, .data⟩, ⟨8, .guard⟩], some (8, false)⟩ : Oper)) (v := (.bool false)) rfl (fun X hSw => ?_) hHeld ?_
    · (try dsimp only at hSw)
      go_simp
    try simp only [Act.put, sJ, tJ, uJ]
    refine zT (i := 19) (oi := (⟨some 62, Op.pick (.tmp 51) (.const (Value.bool true)) (.tmp 61), 4, "laws.go:199", #[⟨8, .data⟩, ⟨18, .data⟩], none⟩ : Oper)) (v := (.bool false)) rfl (fun X hSw => ?_) hHeld ?_
    · (try dsimp only at hSw)
      go_simp
    try simp only [Act.put, sJ, tJ, uJ]
    refine zT (i := 20) (oi := (⟨some 63, Op.move (.tmp 62), 4, "laws.go:199", #[⟨19, .data⟩, ⟨12, .chain⟩], none⟩ : Oper)) (v := (.bool false)) rfl (fun X hSw => ?_) hHeld ?_
    · (try dsimp only at hSw)
      go_simp
    try simp only [Act.put, sJ, tJ, uJ]
    refine zT (i := 21) (oi := (⟨some 64, Op.load 26 (.tmp 3), 26, "laws.go:199", #[⟨20, .guard⟩], some (20, false)⟩ : Oper)) (v := (.agg #[.slice (some ⟨gR, oR, none⟩) n c1])) rfl (fun X hSw => ?_) hHeld ?_
    · (try dsimp only at hSw)
      go_simp
    try simp only [Act.put, sJ, tJ, uJ]
    refine zT (i := 22) (oi := (⟨some 65, Op.fieldAddr 34 (.tmp 6) 0, 0, "laws.go:199", #[⟨20, .guard⟩], some (20, false)⟩ : Oper)) (v := (.pointer (some ⟨wr.heap.size, 0, none⟩))) rfl (fun X hSw => ?_) hHeld ?_
    · (try dsimp only at hSw)
      go_simp
    try simp only [Act.put, sJ, tJ, uJ]
    refine zT (i := 23) (oi := (⟨some 66, Op.load 9 (.tmp 65), 9, "laws.go:199", #[⟨22, .data⟩, ⟨20, .guard⟩], some (20, false)⟩ : Oper)) (v := (.string r'.name)) rfl (fun X hSw => ?_) hHeld ?_
    · (try dsimp only at hSw)
      go_simp
    try simp only [Act.put, sJ, tJ, uJ]
    refine zT (i := 25) (oi := (⟨some 68, Op.move (.tmp 7), 3, "laws.go:199", #[⟨20, .guard⟩], some (20, false)⟩ : Oper)) (v := (.int .i64 1)) rfl (fun X hSw => ?_) hHeld ?_
    · (try dsimp only at hSw)
      go_simp
    try simp only [Act.put, sJ, tJ, uJ]
    refine zT (i := 26) (oi := (⟨some 69, Op.binOp BinOp.add 3 (.const (Value.int IntKind.i64 1)) (.tmp 68) 3, 3, "laws.go:199", #[⟨25, .data⟩, ⟨20, .guard⟩], some (20, false)⟩ : Oper)) (v := (.int .i64 2)) rfl (fun X hSw => ?_) hHeld ?_
    · (try dsimp only at hSw)
      go_simp
      exact IntWalk.i64_in _ (by omega)
    try simp only [Act.put, sJ, tJ, uJ]
    clear hHeld
    refine zC (i := 24) (o := (⟨some 67, Op.call { callee := Callee.value (.func 10), args := #[.tmp 64, .tmp 66], argTypes := #[26, 9] }, 3, "laws.go:199", #[⟨21, .data⟩, ⟨23, .data⟩, ⟨20, .chain⟩, ⟨20, .guard⟩], some (20, false)⟩ : Oper)) rfl fun K hK => ?_
    go_simp
    go_at_call 10
    refine (HC3.out _ HQ2.out).mono ?_
    rintro e w7 ⟨rfl, hb⟩
    have HQ3 := zH ((HQ2.out).below hb)
    clear hb
    refine hK.out _ _ HQ3.out.weak (fun hHeld => ?_)
    try simp only [Act.put, sJ, tJ, uJ]
    refine zT (i := 27) (oi := (⟨some 70, Op.binOp BinOp.neq 3 (.tmp 67) (.tmp 69) 3, 4, "laws.go:199", #[⟨24, .data⟩, ⟨26, .data⟩, ⟨20, .guard⟩], some (20, false)⟩ : Oper)) (v := (.bool false)) rfl (fun X hSw => ?_) hHeld ?_
    · (try dsimp only at hSw)
      go_simp
    try simp only [Act.put, sJ, tJ, uJ]
    refine zT (i := 28) (oi := (⟨some 71, Op.pick (.tmp 63) (.const (Value.bool true)) (.tmp 70), 4, "laws.go:199", #[⟨20, .data⟩, ⟨27, .data⟩], none⟩ : Oper)) (v := (.bool false)) rfl (fun X hSw => ?_) hHeld ?_
    · (try dsimp only at hSw)
      go_simp
    try simp only [Act.put, sJ, tJ, uJ]
    refine zT (i := 29) (oi := (⟨some 72, Op.move (.tmp 71), 4, "laws.go:199", #[⟨28, .data⟩, ⟨24, .chain⟩], none⟩ : Oper)) (v := (.bool false)) rfl (fun X hSw => ?_) hHeld ?_
    · (try dsimp only at hSw)
      go_simp
    try simp only [Act.put, sJ, tJ, uJ]
    refine zT (i := 30) (oi := (⟨some 73, Op.load 26 (.tmp 3), 26, "laws.go:199", #[⟨29, .guard⟩], some (29, false)⟩ : Oper)) (v := (.agg #[.slice (some ⟨gR, oR, none⟩) n c1])) rfl (fun X hSw => ?_) hHeld ?_
    · (try dsimp only at hSw)
      go_simp
    try simp only [Act.put, sJ, tJ, uJ]
    refine zT (i := 31) (oi := (⟨some 74, Op.fieldAddr 34 (.tmp 6) 4, 0, "laws.go:199", #[⟨29, .guard⟩], some (29, false)⟩ : Oper)) (v := (.pointer (some ⟨wr.heap.size, 4, none⟩))) rfl (fun X hSw => ?_) hHeld ?_
    · (try dsimp only at hSw)
      go_simp
    try simp only [Act.put, sJ, tJ, uJ]
    refine zT (i := 32) (oi := (⟨some 75, Op.load 32 (.tmp 74), 32, "laws.go:199", #[⟨31, .data⟩, ⟨29, .guard⟩], some (29, false)⟩ : Oper)) (v := (.agg #[.int .i64 r'.body.kind, .string r'.body.name, .slice A5 z5 c5])) rfl (fun X hSw => ?_) hHeld ?_
    · (try dsimp only at hSw)
      go_simp
    try simp only [Act.put, sJ, tJ, uJ]
    clear hHeld
    refine zC (i := 33) (o := (⟨some 76, Op.call { callee := Callee.value (.func 11), args := #[.tmp 73, .tmp 75], argTypes := #[26, 32] }, 4, "laws.go:199", #[⟨30, .data⟩, ⟨32, .data⟩, ⟨29, .chain⟩, ⟨29, .guard⟩], some (29, false)⟩ : Oper)) rfl fun K hK => ?_
    go_simp
    go_at_call 11
    refine (HC4.out _ HQ3.out).mono ?_
    rintro e w8 ⟨rfl, hb⟩
    have HQ4 := zH ((HQ3.out).below hb)
    clear hb
    refine hK.out _ _ HQ4.out.weak (fun hHeld => ?_)
    try simp only [Act.put, sJ, tJ, uJ]
    refine zT (i := 34) (oi := (⟨some 77, Op.unOp UnOp.not 4 (.tmp 76), 4, "laws.go:199", #[⟨33, .data⟩, ⟨29, .guard⟩], some (29, false)⟩ : Oper)) (v := (.bool false)) rfl (fun X hSw => ?_) hHeld ?_
    · (try dsimp only at hSw)
      go_simp
    try simp only [Act.put, sJ, tJ, uJ]
    refine zT (i := 35) (oi := (⟨some 78, Op.pick (.tmp 72) (.const (Value.bool true)) (.tmp 77), 4, "laws.go:199", #[⟨29, .data⟩, ⟨34, .data⟩], none⟩ : Oper)) (v := (.bool false)) rfl (fun X hSw => ?_) hHeld ?_
    · (try dsimp only at hSw)
      go_simp
    try simp only [Act.put, sJ, tJ, uJ]
    refine wpAnyH_done (by kernel_rfl) ?_ _
    clear hHeld
    have HLR2 := zH HQ4.out.lw
    clear HQ0 HQ1 HQ2 HQ3 HQ4 HC1 HC2 HC3 HC4 HMB hw0 hw1
    go_wp2_with fail
    go_roundw
    case rel => exact ⟨k + 1, by go_num, by omega, HLR2⟩
    case measure => simp [intOf]; omega
  by_cases hk9 : k < n
  · have hof : ok = false := by
     cases hoo : ok with
     | true => exact absurd ⟨hk9, hoo⟩ hlt
     | false => rfl
    subst hof
    have hki : (k : Int) < (n : Int) := by omega
    go_wp2_with fail
    go_at_call 12
    refine (HD2.out wr HLR.out.low).mono ?_
    rintro r w4 ⟨vq, nm, lq, bq, rfl, hdq, -, -, hb4⟩
    obtain ⟨uq, rfl, huq⟩ := id hdq.1
    obtain ⟨Aq, cq, rfl, -⟩ := id huq
    have HQ4 := zH (L1.make hdq (HLR.out.low.trans (hb4.mono HLR.out.low.size)))
    clear hdq hb4 huq HLR p0 pf pl
    generalize hlq : lq.length = zq at *
    go_wp2_with fail
    go_at_call 13
    refine (HD3.out _ HQ4.out.low).mono ?_
    rintro r w5 ⟨vu, ve, lu, ee, bu, be, rfl, hdu, hxe, hte, hz1, hz2, hb5⟩
    obtain ⟨uu, rfl, huu⟩ := id hdu.1
    obtain ⟨Au, cu, rfl, -⟩ := id huu
    obtain ⟨ue, rfl, -, hue⟩ := id hxe
    obtain ⟨Ae, ce, rfl, -⟩ := id hue
    have hlow5 := HQ4.out.low.trans (hb5.mono HQ4.out.low.size)
    have HU5 := zH (L1.make hdu hlow5)
    have HQ5 := zH ((HQ4.out.below hb5).below ((wB _ _).alloc (nR _) (.cells #[.slice Au lu.length cu] 26)))
    have HE5 := zH (show ∀ X, Below w5.heap.size w5 X → ExIs X (.agg #[.int .i64 ee.kind, .string ee.name, .slice Ae ee.args.length ce]) ee be ∧ Thawed X be from fun X hX => ⟨hxe.below hX, fun x hx => ⟨nL (hte x hx).1 hX.size, fun o => (World.frozen?_of_block (w := w5) (a := ⟨x, o, none⟩) (hX.block x (hte x hx).1)).trans ((hte x hx).2 o)⟩⟩)
    have HZ5 := zH (aI hz1 hz2)
    clear hdu hxe hte hz1 hz2 hb5 huu hue hlow5 HQ4
    go_wp2_with fail
    have HU6 := zH (HU5.out.below ((wB _ _).alloc (nR _) (.cells #[.int .i64 ee.kind, .string ee.name, .slice Ae ee.args.length ce] 32)))
    have HQ6 := zH (HQ5.out.below ((wB _ _).alloc (nR _) (.cells #[.int .i64 ee.kind, .string ee.name, .slice Ae ee.args.length ce] 32)))
    have HE6 := zH (show L2 (w5.heap.size + 1) ee.kind ee.name (.slice Ae ee.args.length ce) ee be ((w5.alloc (.cells #[.slice Au lu.length cu] 26)).alloc (.cells #[.int .i64 ee.kind, .string ee.name, .slice Ae ee.args.length ce] 32)) from by
     have hbl : Below w5.heap.size w5 ((w5.alloc (.cells #[.slice Au lu.length cu] 26)).alloc (.cells #[.int .i64 ee.kind, .string ee.name, .slice Ae ee.args.length ce] 32)) := ((wB _ _).alloc (nR _) _).alloc (by simp) _
     have hr := Row.new (w5.alloc (.cells #[.slice Au lu.length cu] 26)) 32 [.int .i64 ee.kind, .string ee.name, .slice Ae ee.args.length ce]
     simp only [World.size_alloc] at hr
     exact ⟨hr, (HE5.out _ hbl).1, (HE5.out _ hbl).2, HZ5.out⟩)
    clear HU5 HQ5 HE5 HZ5
    go_at_call 14
    refine (HD4.out _ HQ6.out.low).mono ?_
    rintro r w6 ⟨vx, s1, s2, lx, bx, rfl, hdx, -, hb6⟩
    obtain ⟨ux, rfl, hux⟩ := id hdx.1
    obtain ⟨Ax, cx, rfl, -⟩ := id hux
    have hb7 := hb6.alloc hb6.size (.cells #[.slice Ax lx.length cx] 26)
    have HX7 := zH (L1.make hdx (HQ6.out.low.trans (hb6.mono HQ6.out.low.size)))
    have HU7 := zH (HU6.out.below hb7)
    have HQ7 := zH (HQ6.out.below hb7)
    have HE7 := zH (HE6.out.below hb7)
    clear hdx hb6 hux hb7 HU6 HQ6 HE6
    generalize w4.heap.size = Pq at *
    generalize w5.heap.size = Pu at *
    obtain ⟨zu, hzu⟩ : ∃ z, z = lu.length := ⟨_, rfl⟩
    obtain ⟨zx, hzx⟩ : ∃ z, z = lx.length := ⟨_, rfl⟩
    obtain ⟨ze, hze⟩ : ∃ z, z = ee.args.length := ⟨_, rfl⟩
    have hz0 := L4.mk (Px := w6.heap.size) HQ7.out HU7.out HE7.out HX7.out
    rw [← hzu, ← hzx, ← hze] at hz0
    rw [← hzu, ← hzx, ← hze]
    have HZ0 := zH hz0.drew
    have H00 := zH hz0
    clear hz0 hzu hzx hze hlq HQ7 HU7 HE7 HX7
    have HM1 := zH (fun r (hr : r ∈ lq) => mid_body H00.out.q.is.2.2 hr)
    have HM2 := zH (fun r (hr : r ∈ lu) => mid_body H00.out.u.is.2.2 hr)
    have HM3 := zH (show rusTot lq ≤ 1048576 ∧ lq.length ≤ 25 ∧ rusTot lu ≤ 1048576 ∧ lu.length ≤ 25 ∧ lx.length ≤ 25 from ⟨by have := H00.out.q.is.2.2.tot; omega, H00.out.q.is.2.2.hi, by have := H00.out.u.is.2.2.tot; omega, H00.out.u.is.2.2.hi, H00.out.x.is.2.2.hi⟩)
    have C1 := zH (fun (X : World) (h : L4 w Pq (.slice Aq zq cq) lq bq Pu (.slice Au zu cu) lu bu ee.kind ee.name (.slice Ae ze ce) ee be w6.heap.size (.slice Ax zx cx) lx bx X) => own_con lq nm _ bq X h.q.is.1 h.q.is.2.1 (fun r hr => (HM1.out r hr).1))
    have C2 := zH (fun (X : World) (h : L4 w Pq (.slice Aq zq cq) lq bq Pu (.slice Au zu cu) lu bu ee.kind ee.name (.slice Ae ze ce) ee be w6.heap.size (.slice Ax zx cx) lx bx X) => conr_any lq _ bq nm X h.q.is.1 HM3.out.1)
    have C3 := zH (fun (X : World) (h : L4 w Pq (.slice Aq zq cq) lq bq Pu (.slice Au zu cu) lu bu ee.kind ee.name (.slice Ae ze ce) ee be w6.heap.size (.slice Ax zx cx) lx bx X) => own_for lu ee _ _ bu be X h.u.is.1 h.e.is (fun x hx => by
     rcases List.mem_append.1 hx with hx | hx
     · exact h.u.is.2.1 x hx
     exact h.e.th x hx) (fun r hr => (HM2.out r hr).1) (by have := HM3.out.2.2.2.1; omega) (fun r hr => (HM2.out r hr).2.2) (by have := h.e.sz.1; omega))
    have C4 := zH (fun (X : World) (h : L4 w Pq (.slice Aq zq cq) lq bq Pu (.slice Au zu cu) lu bu ee.kind ee.name (.slice Ae ze ce) ee be w6.heap.size (.slice Ax zx cx) lx bx X) => exfor_any lu ee _ _ bu be X h.u.is.1 h.e.is HM3.out.2.2.1 h.e.sz.2)
    have C5 := zH (fun (X : World) (h : L4 w Pq (.slice Aq zq cq) lq bq Pu (.slice Au zu cu) lu bu ee.kind ee.name (.slice Ae ze ce) ee be w6.heap.size (.slice Ax zx cx) lx bx X) => own_find lx s1 s2 _ bx X h.x.is.1 (by have := HM3.out.2.2.2.2; omega))
    have C6 := zH (fun (X : World) (h : L4 w Pq (.slice Aq zq cq) lq bq Pu (.slice Au zu cu) lu bu ee.kind ee.name (.slice Ae ze ce) ee be w6.heap.size (.slice Ax zx cx) lx bx X) => find_any lx _ bx s1 s2 X h.x.is.1 (by have := HM3.out.2.2.2.2; omega))
    have C7 := zH (fun (X : World) (h : L4 w Pq (.slice Aq zq cq) lq bq Pu (.slice Au zu cu) lu bu ee.kind ee.name (.slice Ae ze ce) ee be w6.heap.size (.slice Ax zx cx) lx bx X) => own_fkind lq nm _ bq X h.q.is.1 (by have := HM3.out.2.1; omega))
    have C8 := zH (fun (X : World) (h : L4 w Pq (.slice Aq zq cq) lq bq Pu (.slice Au zu cu) lu bu ee.kind ee.name (.slice Ae ze ce) ee be w6.heap.size (.slice Ax zx cx) lx bx X) => kind_any lq _ bq nm X h.q.is.1 (by have := HM3.out.2.1; omega))
    have C9 := zH (fun (X : World) (h : L4 w Pq (.slice Aq zq cq) lq bq Pu (.slice Au zu cu) lu bu ee.kind ee.name (.slice Ae ze ce) ee be w6.heap.size (.slice Ax zx cx) lx bx X) => own_farity lq nm _ bq X h.q.is.1 (by have := HM3.out.2.1; omega) (fun r hr => (HM1.out r hr).2.2))
    have C10 := zH (fun (X : World) (h : L4 w Pq (.slice Aq zq cq) lq bq Pu (.slice Au zu cu) lu bu ee.kind ee.name (.slice Ae ze ce) ee be w6.heap.size (.slice Ax zx cx) lx bx X) => arity_any lq _ bq nm X h.q.is.1 HM3.out.1)
    clear HM1 HM2 HM3 H00
    generalize conR nm lq = i1 at *
    generalize exFor lu ee = i2 at *
    generalize findR lx s1 s2 = i3 at *
    generalize kindR lq nm = i4 at *
    generalize arityR lq nm = i5 at *
    go_wp2_with fail
    refine wp_region_held_drew (S := (fun X => X.cell? ⟨Pq, 0, none⟩ = some (.slice Aq zq cq) ∧ X.cell? ⟨Pu, 0, none⟩ = some (.slice Au zu cu) ∧ X.cell? ⟨Pu + 1, 0, none⟩ = some (.int .i64 ee.kind) ∧ X.cell? ⟨Pu + 1, 1, none⟩ = some (.string ee.name) ∧ X.cell? ⟨Pu + 1, 2, none⟩ = some (.slice Ae ze ce) ∧ X.cell? ⟨w6.heap.size, 0, none⟩ = some (.slice Ax zx cx))) (by kernel_rfl) ?_ (fun hHeld => ?_)
    · exact HZ0.out.weak
    refine zT (i := 0) (oi := (⟨some 95, Op.load 26 (.tmp 8), 26, "laws.go:206", #[], none⟩ : Oper)) (v := (.agg #[.slice Aq zq cq])) rfl (fun X hSw => ?_) hHeld ?_
    · (try dsimp only at hSw)
      go_simp
    try simp only [Act.put, sJ, tJ, uJ]
    refine zT (i := 1) (oi := (⟨some 96, Op.move (.tmp 9), 9, "laws.go:206", #[], none⟩ : Oper)) (v := (.string nm)) rfl (fun X hSw => ?_) hHeld ?_
    · (try dsimp only at hSw)
      go_simp
    try simp only [Act.put, sJ, tJ, uJ]
    refine zT (i := 3) (oi := (⟨some 98, Op.load 26 (.tmp 8), 26, "laws.go:206", #[], none⟩ : Oper)) (v := (.agg #[.slice Aq zq cq])) rfl (fun X hSw => ?_) hHeld ?_
    · (try dsimp only at hSw)
      go_simp
    try simp only [Act.put, sJ, tJ, uJ]
    refine zT (i := 4) (oi := (⟨some 99, Op.move (.tmp 9), 9, "laws.go:206", #[], none⟩ : Oper)) (v := (.string nm)) rfl (fun X hSw => ?_) hHeld ?_
    · (try dsimp only at hSw)
      go_simp
    try simp only [Act.put, sJ, tJ, uJ]
    clear hHeld
    refine zC (i := 2) (o := (⟨some 97, Op.call { callee := Callee.value (.func 15), args := #[.tmp 95, .tmp 96], argTypes := #[26, 9] }, 3, "laws.go:206", #[⟨0, .data⟩, ⟨1, .data⟩], none⟩ : Oper)) rfl fun K hK => ?_
    refine cast (if_pos (by rfl)).symm ?_
    go_simp
    go_at_call 15
    refine (C1.out _ HZ0.out).mono ?_
    rintro e v0 ⟨rfl, hb⟩
    have HZ1 := zH (HZ0.out.below hb)
    clear hb HZ0
    refine hK.out _ _ HZ1.out.weak (fun hHeld => ?_)
    try simp only [Act.put, sJ, tJ, uJ]
    clear hHeld
    refine zC (i := 5) (o := (⟨some 100, Op.call { callee := Callee.value (.func 16), args := #[.tmp 98, .tmp 99], argTypes := #[26, 9] }, 3, "laws.go:206", #[⟨3, .data⟩, ⟨4, .data⟩, ⟨2, .chain⟩], none⟩ : Oper)) rfl fun K hK => ?_
    refine cast (if_pos (by rfl)).symm ?_
    go_simp
    go_at_call 16
    refine (C2.out _ HZ1.out).mono ?_
    rintro e v1 ⟨rfl, hb⟩
    have HZ2 := zH (HZ1.out.below hb)
    clear hb HZ1
    refine hK.out _ _ HZ2.out.weak (fun hHeld => ?_)
    try simp only [Act.put, sJ, tJ, uJ]
    refine zT (i := 6) (oi := (⟨some 101, Op.binOp BinOp.eql 3 (.tmp 97) (.tmp 100) 3, 4, "laws.go:206", #[⟨2, .data⟩, ⟨5, .data⟩], none⟩ : Oper)) (v := (.bool true)) rfl (fun X hSw => ?_) hHeld ?_
    · (try dsimp only at hSw)
      go_simp
    try simp only [Act.put, sJ, tJ, uJ]
    refine zT (i := 7) (oi := (⟨some 102, Op.move (.tmp 101), 4, "laws.go:206", #[⟨6, .data⟩, ⟨5, .chain⟩], none⟩ : Oper)) (v := (.bool true)) rfl (fun X hSw => ?_) hHeld ?_
    · (try dsimp only at hSw)
      go_simp
    try simp only [Act.put, sJ, tJ, uJ]
    refine zT (i := 8) (oi := (⟨some 103, Op.load 26 (.tmp 10), 26, "laws.go:206", #[⟨7, .guard⟩], some (7, true)⟩ : Oper)) (v := (.agg #[.slice Au zu cu])) rfl (fun X hSw => ?_) hHeld ?_
    · (try dsimp only at hSw)
      go_simp
    try simp only [Act.put, sJ, tJ, uJ]
    refine zT (i := 9) (oi := (⟨some 104, Op.load 32 (.tmp 11), 32, "laws.go:206", #[⟨7, .guard⟩], some (7, true)⟩ : Oper)) (v := (.agg #[.int .i64 ee.kind, .string ee.name, .slice Ae ze ce])) rfl (fun X hSw => ?_) hHeld ?_
    · (try dsimp only at hSw)
      go_simp
    try simp only [Act.put, sJ, tJ, uJ]
    refine zT (i := 11) (oi := (⟨some 106, Op.load 26 (.tmp 10), 26, "laws.go:206", #[⟨7, .guard⟩], some (7, true)⟩ : Oper)) (v := (.agg #[.slice Au zu cu])) rfl (fun X hSw => ?_) hHeld ?_
    · (try dsimp only at hSw)
      go_simp
    try simp only [Act.put, sJ, tJ, uJ]
    refine zT (i := 12) (oi := (⟨some 107, Op.load 32 (.tmp 11), 32, "laws.go:206", #[⟨7, .guard⟩], some (7, true)⟩ : Oper)) (v := (.agg #[.int .i64 ee.kind, .string ee.name, .slice Ae ze ce])) rfl (fun X hSw => ?_) hHeld ?_
    · (try dsimp only at hSw)
      go_simp
    try simp only [Act.put, sJ, tJ, uJ]
    clear hHeld
    refine zC (i := 10) (o := (⟨some 105, Op.call { callee := Callee.value (.func 11), args := #[.tmp 103, .tmp 104], argTypes := #[26, 32] }, 4, "laws.go:206", #[⟨8, .data⟩, ⟨9, .data⟩, ⟨7, .chain⟩, ⟨7, .guard⟩], some (7, true)⟩ : Oper)) rfl fun K hK => ?_
    refine cast (if_pos (by rfl)).symm ?_
    go_simp
    go_at_call 11
    refine (C3.out _ HZ2.out).mono ?_
    rintro e v2 ⟨rfl, hb⟩
    have HZ3 := zH (HZ2.out.below hb)
    clear hb HZ2
    refine hK.out _ _ HZ3.out.weak (fun hHeld => ?_)
    try simp only [Act.put, sJ, tJ, uJ]
    clear hHeld
    refine zC (i := 13) (o := (⟨some 108, Op.call { callee := Callee.value (.func 17), args := #[.tmp 106, .tmp 107], argTypes := #[26, 32] }, 4, "laws.go:206", #[⟨11, .data⟩, ⟨12, .data⟩, ⟨10, .chain⟩, ⟨7, .guard⟩], some (7, true)⟩ : Oper)) rfl fun K hK => ?_
    refine cast (if_pos (by rfl)).symm ?_
    go_simp
    go_at_call 17
    refine (C4.out _ HZ3.out).mono ?_
    rintro e v3 ⟨rfl, hb⟩
    have HZ4 := zH (HZ3.out.below hb)
    clear hb HZ3
    refine hK.out _ _ HZ4.out.weak (fun hHeld => ?_)
    try simp only [Act.put, sJ, tJ, uJ]
    refine zT (i := 14) (oi := (⟨some 109, Op.binOp BinOp.eql 4 (.tmp 105) (.tmp 108) 4, 4, "laws.go:206", #[⟨10, .data⟩, ⟨13, .data⟩, ⟨7, .guard⟩], some (7, true)⟩ : Oper)) (v := (.bool true)) rfl (fun X hSw => ?_) hHeld ?_
    · (try dsimp only at hSw)
      go_simp
    try simp only [Act.put, sJ, tJ, uJ]
    refine zT (i := 15) (oi := (⟨some 110, Op.pick (.tmp 102) (.tmp 109) (.const (Value.bool false)), 4, "laws.go:206", #[⟨7, .data⟩, ⟨14, .data⟩], none⟩ : Oper)) (v := (.bool true)) rfl (fun X hSw => ?_) hHeld ?_
    · (try dsimp only at hSw)
      go_simp
    try simp only [Act.put, sJ, tJ, uJ]
    refine zT (i := 16) (oi := (⟨some 111, Op.move (.tmp 110), 4, "laws.go:206", #[⟨15, .data⟩, ⟨13, .chain⟩], none⟩ : Oper)) (v := (.bool true)) rfl (fun X hSw => ?_) hHeld ?_
    · (try dsimp only at hSw)
      go_simp
    try simp only [Act.put, sJ, tJ, uJ]
    refine zT (i := 17) (oi := (⟨some 112, Op.load 26 (.tmp 12), 26, "laws.go:206", #[⟨16, .guard⟩], some (16, true)⟩ : Oper)) (v := (.agg #[.slice Ax zx cx])) rfl (fun X hSw => ?_) hHeld ?_
    · (try dsimp only at hSw)
      go_simp
    try simp only [Act.put, sJ, tJ, uJ]
    refine zT (i := 18) (oi := (⟨some 113, Op.move (.tmp 13), 9, "laws.go:206", #[⟨16, .guard⟩], some (16, true)⟩ : Oper)) (v := (.string s1)) rfl (fun X hSw => ?_) hHeld ?_
    · (try dsimp only at hSw)
      go_simp
    try simp only [Act.put, sJ, tJ, uJ]
    refine zT (i := 19) (oi := (⟨some 114, Op.move (.tmp 14), 9, "laws.go:206", #[⟨16, .guard⟩], some (16, true)⟩ : Oper)) (v := (.string s2)) rfl (fun X hSw => ?_) hHeld ?_
    · (try dsimp only at hSw)
      go_simp
    try simp only [Act.put, sJ, tJ, uJ]
    refine zT (i := 21) (oi := (⟨some 116, Op.load 26 (.tmp 12), 26, "laws.go:206", #[⟨16, .guard⟩], some (16, true)⟩ : Oper)) (v := (.agg #[.slice Ax zx cx])) rfl (fun X hSw => ?_) hHeld ?_
    · (try dsimp only at hSw)
      go_simp
    try simp only [Act.put, sJ, tJ, uJ]
    refine zT (i := 22) (oi := (⟨some 117, Op.move (.tmp 13), 9, "laws.go:206", #[⟨16, .guard⟩], some (16, true)⟩ : Oper)) (v := (.string s1)) rfl (fun X hSw => ?_) hHeld ?_
    · (try dsimp only at hSw)
      go_simp
    try simp only [Act.put, sJ, tJ, uJ]
    refine zT (i := 23) (oi := (⟨some 118, Op.move (.tmp 14), 9, "laws.go:206", #[⟨16, .guard⟩], some (16, true)⟩ : Oper)) (v := (.string s2)) rfl (fun X hSw => ?_) hHeld ?_
    · (try dsimp only at hSw)
      go_simp
    try simp only [Act.put, sJ, tJ, uJ]
    clear hHeld
    refine zC (i := 20) (o := (⟨some 115, Op.call { callee := Callee.value (.func 8), args := #[.tmp 112, .tmp 113, .tmp 114], argTypes := #[26, 9, 9] }, 3, "laws.go:206", #[⟨17, .data⟩, ⟨18, .data⟩, ⟨19, .data⟩, ⟨16, .chain⟩, ⟨16, .guard⟩], some (16, true)⟩ : Oper)) rfl fun K hK => ?_
    refine cast (if_pos (by rfl)).symm ?_
    go_simp
    go_at_call 8
    refine (C5.out _ HZ4.out).mono ?_
    rintro e v4 ⟨rfl, hb⟩
    have HZ5 := zH (HZ4.out.below hb)
    clear hb HZ4
    refine hK.out _ _ HZ5.out.weak (fun hHeld => ?_)
    try simp only [Act.put, sJ, tJ, uJ]
    clear hHeld
    refine zC (i := 24) (o := (⟨some 119, Op.call { callee := Callee.value (.func 18), args := #[.tmp 116, .tmp 117, .tmp 118], argTypes := #[26, 9, 9] }, 3, "laws.go:206", #[⟨21, .data⟩, ⟨22, .data⟩, ⟨23, .data⟩, ⟨20, .chain⟩, ⟨16, .guard⟩], some (16, true)⟩ : Oper)) rfl fun K hK => ?_
    refine cast (if_pos (by rfl)).symm ?_
    go_simp
    go_at_call 18
    refine (C6.out _ HZ5.out).mono ?_
    rintro e v5 ⟨rfl, hb⟩
    have HZ6 := zH (HZ5.out.below hb)
    clear hb HZ5
    refine hK.out _ _ HZ6.out.weak (fun hHeld => ?_)
    try simp only [Act.put, sJ, tJ, uJ]
    refine zT (i := 25) (oi := (⟨some 120, Op.binOp BinOp.eql 3 (.tmp 115) (.tmp 119) 3, 4, "laws.go:206", #[⟨20, .data⟩, ⟨24, .data⟩, ⟨16, .guard⟩], some (16, true)⟩ : Oper)) (v := (.bool true)) rfl (fun X hSw => ?_) hHeld ?_
    · (try dsimp only at hSw)
      go_simp
    try simp only [Act.put, sJ, tJ, uJ]
    refine zT (i := 26) (oi := (⟨some 121, Op.pick (.tmp 111) (.tmp 120) (.const (Value.bool false)), 4, "laws.go:206", #[⟨16, .data⟩, ⟨25, .data⟩], none⟩ : Oper)) (v := (.bool true)) rfl (fun X hSw => ?_) hHeld ?_
    · (try dsimp only at hSw)
      go_simp
    try simp only [Act.put, sJ, tJ, uJ]
    refine zT (i := 27) (oi := (⟨some 122, Op.move (.tmp 121), 4, "laws.go:206", #[⟨26, .data⟩, ⟨24, .chain⟩], none⟩ : Oper)) (v := (.bool true)) rfl (fun X hSw => ?_) hHeld ?_
    · (try dsimp only at hSw)
      go_simp
    try simp only [Act.put, sJ, tJ, uJ]
    refine zT (i := 28) (oi := (⟨some 123, Op.load 26 (.tmp 8), 26, "laws.go:206", #[⟨27, .guard⟩], some (27, true)⟩ : Oper)) (v := (.agg #[.slice Aq zq cq])) rfl (fun X hSw => ?_) hHeld ?_
    · (try dsimp only at hSw)
      go_simp
    try simp only [Act.put, sJ, tJ, uJ]
    refine zT (i := 29) (oi := (⟨some 124, Op.move (.tmp 9), 9, "laws.go:206", #[⟨27, .guard⟩], some (27, true)⟩ : Oper)) (v := (.string nm)) rfl (fun X hSw => ?_) hHeld ?_
    · (try dsimp only at hSw)
      go_simp
    try simp only [Act.put, sJ, tJ, uJ]
    refine zT (i := 31) (oi := (⟨some 126, Op.load 26 (.tmp 8), 26, "laws.go:206", #[⟨27, .guard⟩], some (27, true)⟩ : Oper)) (v := (.agg #[.slice Aq zq cq])) rfl (fun X hSw => ?_) hHeld ?_
    · (try dsimp only at hSw)
      go_simp
    try simp only [Act.put, sJ, tJ, uJ]
    refine zT (i := 32) (oi := (⟨some 127, Op.move (.tmp 9), 9, "laws.go:206", #[⟨27, .guard⟩], some (27, true)⟩ : Oper)) (v := (.string nm)) rfl (fun X hSw => ?_) hHeld ?_
    · (try dsimp only at hSw)
      go_simp
    try simp only [Act.put, sJ, tJ, uJ]
    clear hHeld
    refine zC (i := 30) (o := (⟨some 125, Op.call { callee := Callee.value (.func 10), args := #[.tmp 123, .tmp 124], argTypes := #[26, 9] }, 3, "laws.go:206", #[⟨28, .data⟩, ⟨29, .data⟩, ⟨27, .chain⟩, ⟨27, .guard⟩], some (27, true)⟩ : Oper)) rfl fun K hK => ?_
    refine cast (if_pos (by rfl)).symm ?_
    go_simp
    go_at_call 10
    refine (C7.out _ HZ6.out).mono ?_
    rintro e v6 ⟨rfl, hb⟩
    have HZ7 := zH (HZ6.out.below hb)
    clear hb HZ6
    refine hK.out _ _ HZ7.out.weak (fun hHeld => ?_)
    try simp only [Act.put, sJ, tJ, uJ]
    clear hHeld
    refine zC (i := 33) (o := (⟨some 128, Op.call { callee := Callee.value (.func 19), args := #[.tmp 126, .tmp 127], argTypes := #[26, 9] }, 3, "laws.go:206", #[⟨31, .data⟩, ⟨32, .data⟩, ⟨30, .chain⟩, ⟨27, .guard⟩], some (27, true)⟩ : Oper)) rfl fun K hK => ?_
    refine cast (if_pos (by rfl)).symm ?_
    go_simp
    go_at_call 19
    refine (C8.out _ HZ7.out).mono ?_
    rintro e v7 ⟨rfl, hb⟩
    have HZ8 := zH (HZ7.out.below hb)
    clear hb HZ7
    refine hK.out _ _ HZ8.out.weak (fun hHeld => ?_)
    try simp only [Act.put, sJ, tJ, uJ]
    refine zT (i := 34) (oi := (⟨some 129, Op.binOp BinOp.eql 3 (.tmp 125) (.tmp 128) 3, 4, "laws.go:206", #[⟨30, .data⟩, ⟨33, .data⟩, ⟨27, .guard⟩], some (27, true)⟩ : Oper)) (v := (.bool true)) rfl (fun X hSw => ?_) hHeld ?_
    · (try dsimp only at hSw)
      go_simp
    try simp only [Act.put, sJ, tJ, uJ]
    refine zT (i := 35) (oi := (⟨some 130, Op.pick (.tmp 122) (.tmp 129) (.const (Value.bool false)), 4, "laws.go:206", #[⟨27, .data⟩, ⟨34, .data⟩], none⟩ : Oper)) (v := (.bool true)) rfl (fun X hSw => ?_) hHeld ?_
    · (try dsimp only at hSw)
      go_simp
    try simp only [Act.put, sJ, tJ, uJ]
    refine zT (i := 36) (oi := (⟨some 131, Op.move (.tmp 130), 4, "laws.go:206", #[⟨35, .data⟩, ⟨33, .chain⟩], none⟩ : Oper)) (v := (.bool true)) rfl (fun X hSw => ?_) hHeld ?_
    · (try dsimp only at hSw)
      go_simp
    try simp only [Act.put, sJ, tJ, uJ]
    refine zT (i := 37) (oi := (⟨some 132, Op.load 26 (.tmp 8), 26, "laws.go:206", #[⟨36, .guard⟩], some (36, true)⟩ : Oper)) (v := (.agg #[.slice Aq zq cq])) rfl (fun X hSw => ?_) hHeld ?_
    · (try dsimp only at hSw)
      go_simp
    try simp only [Act.put, sJ, tJ, uJ]
    refine zT (i := 38) (oi := (⟨some 133, Op.move (.tmp 9), 9, "laws.go:206", #[⟨36, .guard⟩], some (36, true)⟩ : Oper)) (v := (.string nm)) rfl (fun X hSw => ?_) hHeld ?_
    · (try dsimp only at hSw)
      go_simp
    try simp only [Act.put, sJ, tJ, uJ]
    refine zT (i := 40) (oi := (⟨some 135, Op.load 26 (.tmp 8), 26, "laws.go:206", #[⟨36, .guard⟩], some (36, true)⟩ : Oper)) (v := (.agg #[.slice Aq zq cq])) rfl (fun X hSw => ?_) hHeld ?_
    · (try dsimp only at hSw)
      go_simp
    try simp only [Act.put, sJ, tJ, uJ]
    refine zT (i := 41) (oi := (⟨some 136, Op.move (.tmp 9), 9, "laws.go:206", #[⟨36, .guard⟩], some (36, true)⟩ : Oper)) (v := (.string nm)) rfl (fun X hSw => ?_) hHeld ?_
    · (try dsimp only at hSw)
      go_simp
    try simp only [Act.put, sJ, tJ, uJ]
    clear hHeld
    refine zC (i := 39) (o := (⟨some 134, Op.call { callee := Callee.value (.func 9), args := #[.tmp 132, .tmp 133], argTypes := #[26, 9] }, 3, "laws.go:206", #[⟨37, .data⟩, ⟨38, .data⟩, ⟨36, .chain⟩, ⟨36, .guard⟩], some (36, true)⟩ : Oper)) rfl fun K hK => ?_
    refine cast (if_pos (by rfl)).symm ?_
    go_simp
    go_at_call 9
    refine (C9.out _ HZ8.out).mono ?_
    rintro e v8 ⟨rfl, hb⟩
    have HZ9 := zH (HZ8.out.below hb)
    clear hb HZ8
    refine hK.out _ _ HZ9.out.weak (fun hHeld => ?_)
    try simp only [Act.put, sJ, tJ, uJ]
    clear hHeld
    refine zC (i := 42) (o := (⟨some 137, Op.call { callee := Callee.value (.func 20), args := #[.tmp 135, .tmp 136], argTypes := #[26, 9] }, 3, "laws.go:206", #[⟨40, .data⟩, ⟨41, .data⟩, ⟨39, .chain⟩, ⟨36, .guard⟩], some (36, true)⟩ : Oper)) rfl fun K hK => ?_
    refine cast (if_pos (by rfl)).symm ?_
    go_simp
    go_at_call 20
    refine (C10.out _ HZ9.out).mono ?_
    rintro e v9 ⟨rfl, hb⟩
    have HZ10 := zH (HZ9.out.below hb)
    clear hb HZ9
    refine hK.out _ _ HZ10.out.weak (fun hHeld => ?_)
    try simp only [Act.put, sJ, tJ, uJ]
    refine zT (i := 43) (oi := (⟨some 138, Op.binOp BinOp.eql 3 (.tmp 134) (.tmp 137) 3, 4, "laws.go:206", #[⟨39, .data⟩, ⟨42, .data⟩, ⟨36, .guard⟩], some (36, true)⟩ : Oper)) (v := (.bool true)) rfl (fun X hSw => ?_) hHeld ?_
    · (try dsimp only at hSw)
      go_simp
    try simp only [Act.put, sJ, tJ, uJ]
    refine zT (i := 44) (oi := (⟨some 139, Op.pick (.tmp 131) (.tmp 138) (.const (Value.bool false)), 4, "laws.go:206", #[⟨36, .data⟩, ⟨43, .data⟩], none⟩ : Oper)) (v := (.bool true)) rfl (fun X hSw => ?_) hHeld ?_
    · (try dsimp only at hSw)
      go_simp
    try simp only [Act.put, sJ, tJ, uJ]
    refine zT (i := 45) (oi := (⟨some 2, Op.assign (.tmp 139), 4, "laws.go:206", #[⟨44, .data⟩, ⟨42, .chain⟩, ⟨0, .phase⟩, ⟨1, .phase⟩, ⟨2, .phase⟩, ⟨3, .phase⟩, ⟨4, .phase⟩, ⟨5, .phase⟩, ⟨6, .phase⟩, ⟨7, .phase⟩, ⟨8, .phase⟩, ⟨9, .phase⟩, ⟨10, .phase⟩, ⟨11, .phase⟩, ⟨12, .phase⟩, ⟨13, .phase⟩, ⟨14, .phase⟩, ⟨15, .phase⟩, ⟨16, .phase⟩, ⟨17, .phase⟩, ⟨18, .phase⟩, ⟨19, .phase⟩, ⟨20, .phase⟩, ⟨21, .phase⟩, ⟨22, .phase⟩, ⟨23, .phase⟩, ⟨24, .phase⟩, ⟨25, .phase⟩, ⟨26, .phase⟩, ⟨27, .phase⟩, ⟨28, .phase⟩, ⟨29, .phase⟩, ⟨30, .phase⟩, ⟨31, .phase⟩, ⟨32, .phase⟩, ⟨33, .phase⟩, ⟨34, .phase⟩, ⟨35, .phase⟩, ⟨36, .phase⟩, ⟨37, .phase⟩, ⟨38, .phase⟩, ⟨39, .phase⟩, ⟨40, .phase⟩, ⟨41, .phase⟩, ⟨42, .phase⟩, ⟨43, .phase⟩, ⟨44, .phase⟩], none⟩ : Oper)) (v := (.bool true)) rfl (fun X hSw => ?_) hHeld ?_
    · (try dsimp only at hSw)
      go_simp
    try simp only [Act.put, sJ, tJ, uJ]
    refine wpAnyH_done (by kernel_rfl) ?_ _
    clear hHeld
    have HLAST := zH HZ10.out.q.low
    go_wp2_with fail
    go_ret
    exact ⟨rfl, HLAST.out⟩
  have hki : ¬ (k : Int) < (n : Int) := by omega
  go_wp2_with fail
  go_at_call 12
  refine (HD2.out wr HLR.out.low).mono ?_
  rintro r w4 ⟨vq, nm, lq, bq, rfl, hdq, -, -, hb4⟩
  obtain ⟨uq, rfl, huq⟩ := id hdq.1
  obtain ⟨Aq, cq, rfl, -⟩ := id huq
  have HQ4 := zH (L1.make hdq (HLR.out.low.trans (hb4.mono HLR.out.low.size)))
  clear hdq hb4 huq HLR p0 pf pl
  generalize hlq : lq.length = zq at *
  go_wp2_with fail
  go_at_call 13
  refine (HD3.out _ HQ4.out.low).mono ?_
  rintro r w5 ⟨vu, ve, lu, ee, bu, be, rfl, hdu, hxe, hte, hz1, hz2, hb5⟩
  obtain ⟨uu, rfl, huu⟩ := id hdu.1
  obtain ⟨Au, cu, rfl, -⟩ := id huu
  obtain ⟨ue, rfl, -, hue⟩ := id hxe
  obtain ⟨Ae, ce, rfl, -⟩ := id hue
  have hlow5 := HQ4.out.low.trans (hb5.mono HQ4.out.low.size)
  have HU5 := zH (L1.make hdu hlow5)
  have HQ5 := zH ((HQ4.out.below hb5).below ((wB _ _).alloc (nR _) (.cells #[.slice Au lu.length cu] 26)))
  have HE5 := zH (show ∀ X, Below w5.heap.size w5 X → ExIs X (.agg #[.int .i64 ee.kind, .string ee.name, .slice Ae ee.args.length ce]) ee be ∧ Thawed X be from fun X hX => ⟨hxe.below hX, fun x hx => ⟨nL (hte x hx).1 hX.size, fun o => (World.frozen?_of_block (w := w5) (a := ⟨x, o, none⟩) (hX.block x (hte x hx).1)).trans ((hte x hx).2 o)⟩⟩)
  have HZ5 := zH (aI hz1 hz2)
  clear hdu hxe hte hz1 hz2 hb5 huu hue hlow5 HQ4
  go_wp2_with fail
  have HU6 := zH (HU5.out.below ((wB _ _).alloc (nR _) (.cells #[.int .i64 ee.kind, .string ee.name, .slice Ae ee.args.length ce] 32)))
  have HQ6 := zH (HQ5.out.below ((wB _ _).alloc (nR _) (.cells #[.int .i64 ee.kind, .string ee.name, .slice Ae ee.args.length ce] 32)))
  have HE6 := zH (show L2 (w5.heap.size + 1) ee.kind ee.name (.slice Ae ee.args.length ce) ee be ((w5.alloc (.cells #[.slice Au lu.length cu] 26)).alloc (.cells #[.int .i64 ee.kind, .string ee.name, .slice Ae ee.args.length ce] 32)) from by
   have hbl : Below w5.heap.size w5 ((w5.alloc (.cells #[.slice Au lu.length cu] 26)).alloc (.cells #[.int .i64 ee.kind, .string ee.name, .slice Ae ee.args.length ce] 32)) := ((wB _ _).alloc (nR _) _).alloc (by simp) _
   have hr := Row.new (w5.alloc (.cells #[.slice Au lu.length cu] 26)) 32 [.int .i64 ee.kind, .string ee.name, .slice Ae ee.args.length ce]
   simp only [World.size_alloc] at hr
   exact ⟨hr, (HE5.out _ hbl).1, (HE5.out _ hbl).2, HZ5.out⟩)
  clear HU5 HQ5 HE5 HZ5
  go_at_call 14
  refine (HD4.out _ HQ6.out.low).mono ?_
  rintro r w6 ⟨vx, s1, s2, lx, bx, rfl, hdx, -, hb6⟩
  obtain ⟨ux, rfl, hux⟩ := id hdx.1
  obtain ⟨Ax, cx, rfl, -⟩ := id hux
  have hb7 := hb6.alloc hb6.size (.cells #[.slice Ax lx.length cx] 26)
  have HX7 := zH (L1.make hdx (HQ6.out.low.trans (hb6.mono HQ6.out.low.size)))
  have HU7 := zH (HU6.out.below hb7)
  have HQ7 := zH (HQ6.out.below hb7)
  have HE7 := zH (HE6.out.below hb7)
  clear hdx hb6 hux hb7 HU6 HQ6 HE6
  generalize w4.heap.size = Pq at *
  generalize w5.heap.size = Pu at *
  obtain ⟨zu, hzu⟩ : ∃ z, z = lu.length := ⟨_, rfl⟩
  obtain ⟨zx, hzx⟩ : ∃ z, z = lx.length := ⟨_, rfl⟩
  obtain ⟨ze, hze⟩ : ∃ z, z = ee.args.length := ⟨_, rfl⟩
  have hz0 := L4.mk (Px := w6.heap.size) HQ7.out HU7.out HE7.out HX7.out
  rw [← hzu, ← hzx, ← hze] at hz0
  rw [← hzu, ← hzx, ← hze]
  have HZ0 := zH hz0.drew
  have H00 := zH hz0
  clear hz0 hzu hzx hze hlq HQ7 HU7 HE7 HX7
  have HM1 := zH (fun r (hr : r ∈ lq) => mid_body H00.out.q.is.2.2 hr)
  have HM2 := zH (fun r (hr : r ∈ lu) => mid_body H00.out.u.is.2.2 hr)
  have HM3 := zH (show rusTot lq ≤ 1048576 ∧ lq.length ≤ 25 ∧ rusTot lu ≤ 1048576 ∧ lu.length ≤ 25 ∧ lx.length ≤ 25 from ⟨by have := H00.out.q.is.2.2.tot; omega, H00.out.q.is.2.2.hi, by have := H00.out.u.is.2.2.tot; omega, H00.out.u.is.2.2.hi, H00.out.x.is.2.2.hi⟩)
  have C1 := zH (fun (X : World) (h : L4 w Pq (.slice Aq zq cq) lq bq Pu (.slice Au zu cu) lu bu ee.kind ee.name (.slice Ae ze ce) ee be w6.heap.size (.slice Ax zx cx) lx bx X) => own_con lq nm _ bq X h.q.is.1 h.q.is.2.1 (fun r hr => (HM1.out r hr).1))
  have C2 := zH (fun (X : World) (h : L4 w Pq (.slice Aq zq cq) lq bq Pu (.slice Au zu cu) lu bu ee.kind ee.name (.slice Ae ze ce) ee be w6.heap.size (.slice Ax zx cx) lx bx X) => conr_any lq _ bq nm X h.q.is.1 HM3.out.1)
  have C3 := zH (fun (X : World) (h : L4 w Pq (.slice Aq zq cq) lq bq Pu (.slice Au zu cu) lu bu ee.kind ee.name (.slice Ae ze ce) ee be w6.heap.size (.slice Ax zx cx) lx bx X) => own_for lu ee _ _ bu be X h.u.is.1 h.e.is (fun x hx => by
   rcases List.mem_append.1 hx with hx | hx
   · exact h.u.is.2.1 x hx
   exact h.e.th x hx) (fun r hr => (HM2.out r hr).1) (by have := HM3.out.2.2.2.1; omega) (fun r hr => (HM2.out r hr).2.2) (by have := h.e.sz.1; omega))
  have C4 := zH (fun (X : World) (h : L4 w Pq (.slice Aq zq cq) lq bq Pu (.slice Au zu cu) lu bu ee.kind ee.name (.slice Ae ze ce) ee be w6.heap.size (.slice Ax zx cx) lx bx X) => exfor_any lu ee _ _ bu be X h.u.is.1 h.e.is HM3.out.2.2.1 h.e.sz.2)
  have C5 := zH (fun (X : World) (h : L4 w Pq (.slice Aq zq cq) lq bq Pu (.slice Au zu cu) lu bu ee.kind ee.name (.slice Ae ze ce) ee be w6.heap.size (.slice Ax zx cx) lx bx X) => own_find lx s1 s2 _ bx X h.x.is.1 (by have := HM3.out.2.2.2.2; omega))
  have C6 := zH (fun (X : World) (h : L4 w Pq (.slice Aq zq cq) lq bq Pu (.slice Au zu cu) lu bu ee.kind ee.name (.slice Ae ze ce) ee be w6.heap.size (.slice Ax zx cx) lx bx X) => find_any lx _ bx s1 s2 X h.x.is.1 (by have := HM3.out.2.2.2.2; omega))
  have C7 := zH (fun (X : World) (h : L4 w Pq (.slice Aq zq cq) lq bq Pu (.slice Au zu cu) lu bu ee.kind ee.name (.slice Ae ze ce) ee be w6.heap.size (.slice Ax zx cx) lx bx X) => own_fkind lq nm _ bq X h.q.is.1 (by have := HM3.out.2.1; omega))
  have C8 := zH (fun (X : World) (h : L4 w Pq (.slice Aq zq cq) lq bq Pu (.slice Au zu cu) lu bu ee.kind ee.name (.slice Ae ze ce) ee be w6.heap.size (.slice Ax zx cx) lx bx X) => kind_any lq _ bq nm X h.q.is.1 (by have := HM3.out.2.1; omega))
  have C9 := zH (fun (X : World) (h : L4 w Pq (.slice Aq zq cq) lq bq Pu (.slice Au zu cu) lu bu ee.kind ee.name (.slice Ae ze ce) ee be w6.heap.size (.slice Ax zx cx) lx bx X) => own_farity lq nm _ bq X h.q.is.1 (by have := HM3.out.2.1; omega) (fun r hr => (HM1.out r hr).2.2))
  have C10 := zH (fun (X : World) (h : L4 w Pq (.slice Aq zq cq) lq bq Pu (.slice Au zu cu) lu bu ee.kind ee.name (.slice Ae ze ce) ee be w6.heap.size (.slice Ax zx cx) lx bx X) => arity_any lq _ bq nm X h.q.is.1 HM3.out.1)
  clear HM1 HM2 HM3 H00
  generalize conR nm lq = i1 at *
  generalize exFor lu ee = i2 at *
  generalize findR lx s1 s2 = i3 at *
  generalize kindR lq nm = i4 at *
  generalize arityR lq nm = i5 at *
  go_wp2_with fail
  refine wp_region_held_drew (S := (fun X => X.cell? ⟨Pq, 0, none⟩ = some (.slice Aq zq cq) ∧ X.cell? ⟨Pu, 0, none⟩ = some (.slice Au zu cu) ∧ X.cell? ⟨Pu + 1, 0, none⟩ = some (.int .i64 ee.kind) ∧ X.cell? ⟨Pu + 1, 1, none⟩ = some (.string ee.name) ∧ X.cell? ⟨Pu + 1, 2, none⟩ = some (.slice Ae ze ce) ∧ X.cell? ⟨w6.heap.size, 0, none⟩ = some (.slice Ax zx cx))) (by kernel_rfl) ?_ (fun hHeld => ?_)
  · exact HZ0.out.weak
  refine zT (i := 0) (oi := (⟨some 95, Op.load 26 (.tmp 8), 26, "laws.go:206", #[], none⟩ : Oper)) (v := (.agg #[.slice Aq zq cq])) rfl (fun X hSw => ?_) hHeld ?_
  · (try dsimp only at hSw)
    go_simp
  try simp only [Act.put, sJ, tJ, uJ]
  refine zT (i := 1) (oi := (⟨some 96, Op.move (.tmp 9), 9, "laws.go:206", #[], none⟩ : Oper)) (v := (.string nm)) rfl (fun X hSw => ?_) hHeld ?_
  · (try dsimp only at hSw)
    go_simp
  try simp only [Act.put, sJ, tJ, uJ]
  refine zT (i := 3) (oi := (⟨some 98, Op.load 26 (.tmp 8), 26, "laws.go:206", #[], none⟩ : Oper)) (v := (.agg #[.slice Aq zq cq])) rfl (fun X hSw => ?_) hHeld ?_
  · (try dsimp only at hSw)
    go_simp
  try simp only [Act.put, sJ, tJ, uJ]
  refine zT (i := 4) (oi := (⟨some 99, Op.move (.tmp 9), 9, "laws.go:206", #[], none⟩ : Oper)) (v := (.string nm)) rfl (fun X hSw => ?_) hHeld ?_
  · (try dsimp only at hSw)
    go_simp
  try simp only [Act.put, sJ, tJ, uJ]
  clear hHeld
  refine zC (i := 2) (o := (⟨some 97, Op.call { callee := Callee.value (.func 15), args := #[.tmp 95, .tmp 96], argTypes := #[26, 9] }, 3, "laws.go:206", #[⟨0, .data⟩, ⟨1, .data⟩], none⟩ : Oper)) rfl fun K hK => ?_
  refine cast (if_pos (by rfl)).symm ?_
  go_simp
  go_at_call 15
  refine (C1.out _ HZ0.out).mono ?_
  rintro e v0 ⟨rfl, hb⟩
  have HZ1 := zH (HZ0.out.below hb)
  clear hb HZ0
  refine hK.out _ _ HZ1.out.weak (fun hHeld => ?_)
  try simp only [Act.put, sJ, tJ, uJ]
  clear hHeld
  refine zC (i := 5) (o := (⟨some 100, Op.call { callee := Callee.value (.func 16), args := #[.tmp 98, .tmp 99], argTypes := #[26, 9] }, 3, "laws.go:206", #[⟨3, .data⟩, ⟨4, .data⟩, ⟨2, .chain⟩], none⟩ : Oper)) rfl fun K hK => ?_
  refine cast (if_pos (by rfl)).symm ?_
  go_simp
  go_at_call 16
  refine (C2.out _ HZ1.out).mono ?_
  rintro e v1 ⟨rfl, hb⟩
  have HZ2 := zH (HZ1.out.below hb)
  clear hb HZ1
  refine hK.out _ _ HZ2.out.weak (fun hHeld => ?_)
  try simp only [Act.put, sJ, tJ, uJ]
  refine zT (i := 6) (oi := (⟨some 101, Op.binOp BinOp.eql 3 (.tmp 97) (.tmp 100) 3, 4, "laws.go:206", #[⟨2, .data⟩, ⟨5, .data⟩], none⟩ : Oper)) (v := (.bool true)) rfl (fun X hSw => ?_) hHeld ?_
  · (try dsimp only at hSw)
    go_simp
  try simp only [Act.put, sJ, tJ, uJ]
  refine zT (i := 7) (oi := (⟨some 102, Op.move (.tmp 101), 4, "laws.go:206", #[⟨6, .data⟩, ⟨5, .chain⟩], none⟩ : Oper)) (v := (.bool true)) rfl (fun X hSw => ?_) hHeld ?_
  · (try dsimp only at hSw)
    go_simp
  try simp only [Act.put, sJ, tJ, uJ]
  refine zT (i := 8) (oi := (⟨some 103, Op.load 26 (.tmp 10), 26, "laws.go:206", #[⟨7, .guard⟩], some (7, true)⟩ : Oper)) (v := (.agg #[.slice Au zu cu])) rfl (fun X hSw => ?_) hHeld ?_
  · (try dsimp only at hSw)
    go_simp
  try simp only [Act.put, sJ, tJ, uJ]
  refine zT (i := 9) (oi := (⟨some 104, Op.load 32 (.tmp 11), 32, "laws.go:206", #[⟨7, .guard⟩], some (7, true)⟩ : Oper)) (v := (.agg #[.int .i64 ee.kind, .string ee.name, .slice Ae ze ce])) rfl (fun X hSw => ?_) hHeld ?_
  · (try dsimp only at hSw)
    go_simp
  try simp only [Act.put, sJ, tJ, uJ]
  refine zT (i := 11) (oi := (⟨some 106, Op.load 26 (.tmp 10), 26, "laws.go:206", #[⟨7, .guard⟩], some (7, true)⟩ : Oper)) (v := (.agg #[.slice Au zu cu])) rfl (fun X hSw => ?_) hHeld ?_
  · (try dsimp only at hSw)
    go_simp
  try simp only [Act.put, sJ, tJ, uJ]
  refine zT (i := 12) (oi := (⟨some 107, Op.load 32 (.tmp 11), 32, "laws.go:206", #[⟨7, .guard⟩], some (7, true)⟩ : Oper)) (v := (.agg #[.int .i64 ee.kind, .string ee.name, .slice Ae ze ce])) rfl (fun X hSw => ?_) hHeld ?_
  · (try dsimp only at hSw)
    go_simp
  try simp only [Act.put, sJ, tJ, uJ]
  clear hHeld
  refine zC (i := 10) (o := (⟨some 105, Op.call { callee := Callee.value (.func 11), args := #[.tmp 103, .tmp 104], argTypes := #[26, 32] }, 4, "laws.go:206", #[⟨8, .data⟩, ⟨9, .data⟩, ⟨7, .chain⟩, ⟨7, .guard⟩], some (7, true)⟩ : Oper)) rfl fun K hK => ?_
  refine cast (if_pos (by rfl)).symm ?_
  go_simp
  go_at_call 11
  refine (C3.out _ HZ2.out).mono ?_
  rintro e v2 ⟨rfl, hb⟩
  have HZ3 := zH (HZ2.out.below hb)
  clear hb HZ2
  refine hK.out _ _ HZ3.out.weak (fun hHeld => ?_)
  try simp only [Act.put, sJ, tJ, uJ]
  clear hHeld
  refine zC (i := 13) (o := (⟨some 108, Op.call { callee := Callee.value (.func 17), args := #[.tmp 106, .tmp 107], argTypes := #[26, 32] }, 4, "laws.go:206", #[⟨11, .data⟩, ⟨12, .data⟩, ⟨10, .chain⟩, ⟨7, .guard⟩], some (7, true)⟩ : Oper)) rfl fun K hK => ?_
  refine cast (if_pos (by rfl)).symm ?_
  go_simp
  go_at_call 17
  refine (C4.out _ HZ3.out).mono ?_
  rintro e v3 ⟨rfl, hb⟩
  have HZ4 := zH (HZ3.out.below hb)
  clear hb HZ3
  refine hK.out _ _ HZ4.out.weak (fun hHeld => ?_)
  try simp only [Act.put, sJ, tJ, uJ]
  refine zT (i := 14) (oi := (⟨some 109, Op.binOp BinOp.eql 4 (.tmp 105) (.tmp 108) 4, 4, "laws.go:206", #[⟨10, .data⟩, ⟨13, .data⟩, ⟨7, .guard⟩], some (7, true)⟩ : Oper)) (v := (.bool true)) rfl (fun X hSw => ?_) hHeld ?_
  · (try dsimp only at hSw)
    go_simp
  try simp only [Act.put, sJ, tJ, uJ]
  refine zT (i := 15) (oi := (⟨some 110, Op.pick (.tmp 102) (.tmp 109) (.const (Value.bool false)), 4, "laws.go:206", #[⟨7, .data⟩, ⟨14, .data⟩], none⟩ : Oper)) (v := (.bool true)) rfl (fun X hSw => ?_) hHeld ?_
  · (try dsimp only at hSw)
    go_simp
  try simp only [Act.put, sJ, tJ, uJ]
  refine zT (i := 16) (oi := (⟨some 111, Op.move (.tmp 110), 4, "laws.go:206", #[⟨15, .data⟩, ⟨13, .chain⟩], none⟩ : Oper)) (v := (.bool true)) rfl (fun X hSw => ?_) hHeld ?_
  · (try dsimp only at hSw)
    go_simp
  try simp only [Act.put, sJ, tJ, uJ]
  refine zT (i := 17) (oi := (⟨some 112, Op.load 26 (.tmp 12), 26, "laws.go:206", #[⟨16, .guard⟩], some (16, true)⟩ : Oper)) (v := (.agg #[.slice Ax zx cx])) rfl (fun X hSw => ?_) hHeld ?_
  · (try dsimp only at hSw)
    go_simp
  try simp only [Act.put, sJ, tJ, uJ]
  refine zT (i := 18) (oi := (⟨some 113, Op.move (.tmp 13), 9, "laws.go:206", #[⟨16, .guard⟩], some (16, true)⟩ : Oper)) (v := (.string s1)) rfl (fun X hSw => ?_) hHeld ?_
  · (try dsimp only at hSw)
    go_simp
  try simp only [Act.put, sJ, tJ, uJ]
  refine zT (i := 19) (oi := (⟨some 114, Op.move (.tmp 14), 9, "laws.go:206", #[⟨16, .guard⟩], some (16, true)⟩ : Oper)) (v := (.string s2)) rfl (fun X hSw => ?_) hHeld ?_
  · (try dsimp only at hSw)
    go_simp
  try simp only [Act.put, sJ, tJ, uJ]
  refine zT (i := 21) (oi := (⟨some 116, Op.load 26 (.tmp 12), 26, "laws.go:206", #[⟨16, .guard⟩], some (16, true)⟩ : Oper)) (v := (.agg #[.slice Ax zx cx])) rfl (fun X hSw => ?_) hHeld ?_
  · (try dsimp only at hSw)
    go_simp
  try simp only [Act.put, sJ, tJ, uJ]
  refine zT (i := 22) (oi := (⟨some 117, Op.move (.tmp 13), 9, "laws.go:206", #[⟨16, .guard⟩], some (16, true)⟩ : Oper)) (v := (.string s1)) rfl (fun X hSw => ?_) hHeld ?_
  · (try dsimp only at hSw)
    go_simp
  try simp only [Act.put, sJ, tJ, uJ]
  refine zT (i := 23) (oi := (⟨some 118, Op.move (.tmp 14), 9, "laws.go:206", #[⟨16, .guard⟩], some (16, true)⟩ : Oper)) (v := (.string s2)) rfl (fun X hSw => ?_) hHeld ?_
  · (try dsimp only at hSw)
    go_simp
  try simp only [Act.put, sJ, tJ, uJ]
  clear hHeld
  refine zC (i := 20) (o := (⟨some 115, Op.call { callee := Callee.value (.func 8), args := #[.tmp 112, .tmp 113, .tmp 114], argTypes := #[26, 9, 9] }, 3, "laws.go:206", #[⟨17, .data⟩, ⟨18, .data⟩, ⟨19, .data⟩, ⟨16, .chain⟩, ⟨16, .guard⟩], some (16, true)⟩ : Oper)) rfl fun K hK => ?_
  refine cast (if_pos (by rfl)).symm ?_
  go_simp
  go_at_call 8
  refine (C5.out _ HZ4.out).mono ?_
  rintro e v4 ⟨rfl, hb⟩
  have HZ5 := zH (HZ4.out.below hb)
  clear hb HZ4
  refine hK.out _ _ HZ5.out.weak (fun hHeld => ?_)
  try simp only [Act.put, sJ, tJ, uJ]
  clear hHeld
  refine zC (i := 24) (o := (⟨some 119, Op.call { callee := Callee.value (.func 18), args := #[.tmp 116, .tmp 117, .tmp 118], argTypes := #[26, 9, 9] }, 3, "laws.go:206", #[⟨21, .data⟩, ⟨22, .data⟩, ⟨23, .data⟩, ⟨20, .chain⟩, ⟨16, .guard⟩], some (16, true)⟩ : Oper)) rfl fun K hK => ?_
  refine cast (if_pos (by rfl)).symm ?_
  go_simp
  go_at_call 18
  refine (C6.out _ HZ5.out).mono ?_
  rintro e v5 ⟨rfl, hb⟩
  have HZ6 := zH (HZ5.out.below hb)
  clear hb HZ5
  refine hK.out _ _ HZ6.out.weak (fun hHeld => ?_)
  try simp only [Act.put, sJ, tJ, uJ]
  refine zT (i := 25) (oi := (⟨some 120, Op.binOp BinOp.eql 3 (.tmp 115) (.tmp 119) 3, 4, "laws.go:206", #[⟨20, .data⟩, ⟨24, .data⟩, ⟨16, .guard⟩], some (16, true)⟩ : Oper)) (v := (.bool true)) rfl (fun X hSw => ?_) hHeld ?_
  · (try dsimp only at hSw)
    go_simp
  try simp only [Act.put, sJ, tJ, uJ]
  refine zT (i := 26) (oi := (⟨some 121, Op.pick (.tmp 111) (.tmp 120) (.const (Value.bool false)), 4, "laws.go:206", #[⟨16, .data⟩, ⟨25, .data⟩], none⟩ : Oper)) (v := (.bool true)) rfl (fun X hSw => ?_) hHeld ?_
  · (try dsimp only at hSw)
    go_simp
  try simp only [Act.put, sJ, tJ, uJ]
  refine zT (i := 27) (oi := (⟨some 122, Op.move (.tmp 121), 4, "laws.go:206", #[⟨26, .data⟩, ⟨24, .chain⟩], none⟩ : Oper)) (v := (.bool true)) rfl (fun X hSw => ?_) hHeld ?_
  · (try dsimp only at hSw)
    go_simp
  try simp only [Act.put, sJ, tJ, uJ]
  refine zT (i := 28) (oi := (⟨some 123, Op.load 26 (.tmp 8), 26, "laws.go:206", #[⟨27, .guard⟩], some (27, true)⟩ : Oper)) (v := (.agg #[.slice Aq zq cq])) rfl (fun X hSw => ?_) hHeld ?_
  · (try dsimp only at hSw)
    go_simp
  try simp only [Act.put, sJ, tJ, uJ]
  refine zT (i := 29) (oi := (⟨some 124, Op.move (.tmp 9), 9, "laws.go:206", #[⟨27, .guard⟩], some (27, true)⟩ : Oper)) (v := (.string nm)) rfl (fun X hSw => ?_) hHeld ?_
  · (try dsimp only at hSw)
    go_simp
  try simp only [Act.put, sJ, tJ, uJ]
  refine zT (i := 31) (oi := (⟨some 126, Op.load 26 (.tmp 8), 26, "laws.go:206", #[⟨27, .guard⟩], some (27, true)⟩ : Oper)) (v := (.agg #[.slice Aq zq cq])) rfl (fun X hSw => ?_) hHeld ?_
  · (try dsimp only at hSw)
    go_simp
  try simp only [Act.put, sJ, tJ, uJ]
  refine zT (i := 32) (oi := (⟨some 127, Op.move (.tmp 9), 9, "laws.go:206", #[⟨27, .guard⟩], some (27, true)⟩ : Oper)) (v := (.string nm)) rfl (fun X hSw => ?_) hHeld ?_
  · (try dsimp only at hSw)
    go_simp
  try simp only [Act.put, sJ, tJ, uJ]
  clear hHeld
  refine zC (i := 30) (o := (⟨some 125, Op.call { callee := Callee.value (.func 10), args := #[.tmp 123, .tmp 124], argTypes := #[26, 9] }, 3, "laws.go:206", #[⟨28, .data⟩, ⟨29, .data⟩, ⟨27, .chain⟩, ⟨27, .guard⟩], some (27, true)⟩ : Oper)) rfl fun K hK => ?_
  refine cast (if_pos (by rfl)).symm ?_
  go_simp
  go_at_call 10
  refine (C7.out _ HZ6.out).mono ?_
  rintro e v6 ⟨rfl, hb⟩
  have HZ7 := zH (HZ6.out.below hb)
  clear hb HZ6
  refine hK.out _ _ HZ7.out.weak (fun hHeld => ?_)
  try simp only [Act.put, sJ, tJ, uJ]
  clear hHeld
  refine zC (i := 33) (o := (⟨some 128, Op.call { callee := Callee.value (.func 19), args := #[.tmp 126, .tmp 127], argTypes := #[26, 9] }, 3, "laws.go:206", #[⟨31, .data⟩, ⟨32, .data⟩, ⟨30, .chain⟩, ⟨27, .guard⟩], some (27, true)⟩ : Oper)) rfl fun K hK => ?_
  refine cast (if_pos (by rfl)).symm ?_
  go_simp
  go_at_call 19
  refine (C8.out _ HZ7.out).mono ?_
  rintro e v7 ⟨rfl, hb⟩
  have HZ8 := zH (HZ7.out.below hb)
  clear hb HZ7
  refine hK.out _ _ HZ8.out.weak (fun hHeld => ?_)
  try simp only [Act.put, sJ, tJ, uJ]
  refine zT (i := 34) (oi := (⟨some 129, Op.binOp BinOp.eql 3 (.tmp 125) (.tmp 128) 3, 4, "laws.go:206", #[⟨30, .data⟩, ⟨33, .data⟩, ⟨27, .guard⟩], some (27, true)⟩ : Oper)) (v := (.bool true)) rfl (fun X hSw => ?_) hHeld ?_
  · (try dsimp only at hSw)
    go_simp
  try simp only [Act.put, sJ, tJ, uJ]
  refine zT (i := 35) (oi := (⟨some 130, Op.pick (.tmp 122) (.tmp 129) (.const (Value.bool false)), 4, "laws.go:206", #[⟨27, .data⟩, ⟨34, .data⟩], none⟩ : Oper)) (v := (.bool true)) rfl (fun X hSw => ?_) hHeld ?_
  · (try dsimp only at hSw)
    go_simp
  try simp only [Act.put, sJ, tJ, uJ]
  refine zT (i := 36) (oi := (⟨some 131, Op.move (.tmp 130), 4, "laws.go:206", #[⟨35, .data⟩, ⟨33, .chain⟩], none⟩ : Oper)) (v := (.bool true)) rfl (fun X hSw => ?_) hHeld ?_
  · (try dsimp only at hSw)
    go_simp
  try simp only [Act.put, sJ, tJ, uJ]
  refine zT (i := 37) (oi := (⟨some 132, Op.load 26 (.tmp 8), 26, "laws.go:206", #[⟨36, .guard⟩], some (36, true)⟩ : Oper)) (v := (.agg #[.slice Aq zq cq])) rfl (fun X hSw => ?_) hHeld ?_
  · (try dsimp only at hSw)
    go_simp
  try simp only [Act.put, sJ, tJ, uJ]
  refine zT (i := 38) (oi := (⟨some 133, Op.move (.tmp 9), 9, "laws.go:206", #[⟨36, .guard⟩], some (36, true)⟩ : Oper)) (v := (.string nm)) rfl (fun X hSw => ?_) hHeld ?_
  · (try dsimp only at hSw)
    go_simp
  try simp only [Act.put, sJ, tJ, uJ]
  refine zT (i := 40) (oi := (⟨some 135, Op.load 26 (.tmp 8), 26, "laws.go:206", #[⟨36, .guard⟩], some (36, true)⟩ : Oper)) (v := (.agg #[.slice Aq zq cq])) rfl (fun X hSw => ?_) hHeld ?_
  · (try dsimp only at hSw)
    go_simp
  try simp only [Act.put, sJ, tJ, uJ]
  refine zT (i := 41) (oi := (⟨some 136, Op.move (.tmp 9), 9, "laws.go:206", #[⟨36, .guard⟩], some (36, true)⟩ : Oper)) (v := (.string nm)) rfl (fun X hSw => ?_) hHeld ?_
  · (try dsimp only at hSw)
    go_simp
  try simp only [Act.put, sJ, tJ, uJ]
  clear hHeld
  refine zC (i := 39) (o := (⟨some 134, Op.call { callee := Callee.value (.func 9), args := #[.tmp 132, .tmp 133], argTypes := #[26, 9] }, 3, "laws.go:206", #[⟨37, .data⟩, ⟨38, .data⟩, ⟨36, .chain⟩, ⟨36, .guard⟩], some (36, true)⟩ : Oper)) rfl fun K hK => ?_
  refine cast (if_pos (by rfl)).symm ?_
  go_simp
  go_at_call 9
  refine (C9.out _ HZ8.out).mono ?_
  rintro e v8 ⟨rfl, hb⟩
  have HZ9 := zH (HZ8.out.below hb)
  clear hb HZ8
  refine hK.out _ _ HZ9.out.weak (fun hHeld => ?_)
  try simp only [Act.put, sJ, tJ, uJ]
  clear hHeld
  refine zC (i := 42) (o := (⟨some 137, Op.call { callee := Callee.value (.func 20), args := #[.tmp 135, .tmp 136], argTypes := #[26, 9] }, 3, "laws.go:206", #[⟨40, .data⟩, ⟨41, .data⟩, ⟨39, .chain⟩, ⟨36, .guard⟩], some (36, true)⟩ : Oper)) rfl fun K hK => ?_
  refine cast (if_pos (by rfl)).symm ?_
  go_simp
  go_at_call 20
  refine (C10.out _ HZ9.out).mono ?_
  rintro e v9 ⟨rfl, hb⟩
  have HZ10 := zH (HZ9.out.below hb)
  clear hb HZ9
  refine hK.out _ _ HZ10.out.weak (fun hHeld => ?_)
  try simp only [Act.put, sJ, tJ, uJ]
  refine zT (i := 43) (oi := (⟨some 138, Op.binOp BinOp.eql 3 (.tmp 134) (.tmp 137) 3, 4, "laws.go:206", #[⟨39, .data⟩, ⟨42, .data⟩, ⟨36, .guard⟩], some (36, true)⟩ : Oper)) (v := (.bool true)) rfl (fun X hSw => ?_) hHeld ?_
  · (try dsimp only at hSw)
    go_simp
  try simp only [Act.put, sJ, tJ, uJ]
  refine zT (i := 44) (oi := (⟨some 139, Op.pick (.tmp 131) (.tmp 138) (.const (Value.bool false)), 4, "laws.go:206", #[⟨36, .data⟩, ⟨43, .data⟩], none⟩ : Oper)) (v := (.bool true)) rfl (fun X hSw => ?_) hHeld ?_
  · (try dsimp only at hSw)
    go_simp
  try simp only [Act.put, sJ, tJ, uJ]
  refine zT (i := 45) (oi := (⟨some 2, Op.assign (.tmp 139), 4, "laws.go:206", #[⟨44, .data⟩, ⟨42, .chain⟩, ⟨0, .phase⟩, ⟨1, .phase⟩, ⟨2, .phase⟩, ⟨3, .phase⟩, ⟨4, .phase⟩, ⟨5, .phase⟩, ⟨6, .phase⟩, ⟨7, .phase⟩, ⟨8, .phase⟩, ⟨9, .phase⟩, ⟨10, .phase⟩, ⟨11, .phase⟩, ⟨12, .phase⟩, ⟨13, .phase⟩, ⟨14, .phase⟩, ⟨15, .phase⟩, ⟨16, .phase⟩, ⟨17, .phase⟩, ⟨18, .phase⟩, ⟨19, .phase⟩, ⟨20, .phase⟩, ⟨21, .phase⟩, ⟨22, .phase⟩, ⟨23, .phase⟩, ⟨24, .phase⟩, ⟨25, .phase⟩, ⟨26, .phase⟩, ⟨27, .phase⟩, ⟨28, .phase⟩, ⟨29, .phase⟩, ⟨30, .phase⟩, ⟨31, .phase⟩, ⟨32, .phase⟩, ⟨33, .phase⟩, ⟨34, .phase⟩, ⟨35, .phase⟩, ⟨36, .phase⟩, ⟨37, .phase⟩, ⟨38, .phase⟩, ⟨39, .phase⟩, ⟨40, .phase⟩, ⟨41, .phase⟩, ⟨42, .phase⟩, ⟨43, .phase⟩, ⟨44, .phase⟩], none⟩ : Oper)) (v := (.bool true)) rfl (fun X hSw => ?_) hHeld ?_
  · (try dsimp only at hSw)
    go_simp
  try simp only [Act.put, sJ, tJ, uJ]
  refine wpAnyH_done (by kernel_rfl) ?_ _
  clear hHeld
  have HLAST := zH HZ10.out.q.low
  go_wp2_with fail
  go_ret
  exact ⟨rfl, HLAST.out⟩
end Go.Proofs.YtiaknfnhmoinpaaGreat
