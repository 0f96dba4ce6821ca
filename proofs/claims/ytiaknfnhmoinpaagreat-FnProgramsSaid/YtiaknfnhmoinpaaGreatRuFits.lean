/- A part of the proof of the seat's statement: RuFits. Condition: as each says. -/
import Derived.Test.YtiaknfnhmoinpaaGreatRuCon
set_option maxHeartbeats 8000000
namespace Go.Proofs.YtiaknfnhmoinpaaGreat
open Go Go.RowKit
mutual
def fitE (rs : List Ru) (all : Ex) : Ex → Bool
 | .mk k s l => fitL rs all l && (if k = 3 then decide ((l.length : Int) = arityR rs s) else if k = 2 then decide ((l.length : Int) = (if conR s rs < 0 then conE s all else conR s rs)) else true)
def fitL (rs : List Ru) (all : Ex) : List Ex → Bool
 | [] => true
 | e :: r => fitE rs all e && fitL rs all r
end
def exFor (rs : List Ru) (e : Ex) : Bool := exValid e && fitE rs e e
theorem fitL_here {rs : List Ru} {all : Ex} {l : List Ex} {k : Nat} {e : Ex} (h : l[k]? = some e) : fitL rs all (l.drop k) = (fitE rs all e && fitL rs all (l.drop (k + 1))) := by
 obtain ⟨h1, h2⟩ := List.getElem?_eq_some_iff.1 h
 rw [List.drop_eq_getElem_cons h1, h2, fitL]
theorem kept8_step {wr X w2 : World} {a1 a2 a3 a4 a5 a6 a7 a8 : Addr} {v1 v2 v3 v4 v5 v6 v7 v8 : Value} (hl : Hid (a1.block < wr.heap.size ∧ a2.block < wr.heap.size ∧ a3.block < wr.heap.size ∧ a4.block < wr.heap.size ∧ a5.block < wr.heap.size ∧ a6.block < wr.heap.size ∧ a7.block < wr.heap.size ∧ a8.block < wr.heap.size)) (hb : Below X.heap.size X w2)
 (h : X.cell? a1 = some v1 ∧ X.cell? a2 = some v2 ∧ X.cell? a3 = some v3 ∧ X.cell? a4 = some v4 ∧ X.cell? a5 = some v5 ∧ X.cell? a6 = some v6 ∧ X.cell? a7 = some v7 ∧ X.cell? a8 = some v8 ∧ Hid (Below wr.heap.size wr X)) :
 w2.cell? a1 = some v1 ∧ w2.cell? a2 = some v2 ∧ w2.cell? a3 = some v3 ∧ w2.cell? a4 = some v4 ∧ w2.cell? a5 = some v5 ∧ w2.cell? a6 = some v6 ∧ w2.cell? a7 = some v7 ∧ w2.cell? a8 = some v8 ∧ Hid (Below wr.heap.size wr w2) := by
 obtain ⟨c1, c2, c3, c4, c5, c6, c7, c8, HB⟩ := h
 obtain ⟨l1, l2, l3, l4, l5, l6, l7, l8⟩ := hl.out
 have hs := HB.out.size
 have k : ∀ {a : Addr} {v : Value}, a.block < wr.heap.size → X.cell? a = some v → w2.cell? a = some v := fun {a v} h1 h2 => (hb.cell (p := a) (nL h1 hs)).trans h2
 exact ⟨k l1 c1, k l2 c2, k l3 c3, k l4 c4, k l5 c5, k l6 c6, k l7 c7, k l8 c8, zH (HB.out.trans (hb.mono hs))⟩
theorem kept8_start {wr : World} {a1 a2 a3 a4 a5 a6 a7 a8 : Addr} {v1 v2 v3 v4 v5 v6 v7 v8 : Value} (h : Hid (wr.cell? a1 = some v1 ∧ wr.cell? a2 = some v2 ∧ wr.cell? a3 = some v3 ∧ wr.cell? a4 = some v4 ∧ wr.cell? a5 = some v5 ∧ wr.cell? a6 = some v6 ∧ wr.cell? a7 = some v7 ∧ wr.cell? a8 = some v8)) :
 wr.drew.cell? a1 = some v1 ∧ wr.drew.cell? a2 = some v2 ∧ wr.drew.cell? a3 = some v3 ∧ wr.drew.cell? a4 = some v4 ∧ wr.drew.cell? a5 = some v5 ∧ wr.drew.cell? a6 = some v6 ∧ wr.drew.cell? a7 = some v7 ∧ wr.drew.cell? a8 = some v8 ∧ Hid (Below wr.heap.size wr wr.drew) := by
 obtain ⟨c1, c2, c3, c4, c5, c6, c7, c8⟩ := h.out
 exact ⟨c1, c2, c3, c4, c5, c6, c7, c8, zH (wB _ _).drew⟩
theorem kept3_step {wr X w2 : World} {a1 a2 a3 : Addr} {v1 v2 v3 : Value} (hl : Hid (a1.block < wr.heap.size ∧ a2.block < wr.heap.size ∧ a3.block < wr.heap.size)) (hb : Below X.heap.size X w2)
 (h : X.cell? a1 = some v1 ∧ X.cell? a2 = some v2 ∧ X.cell? a3 = some v3 ∧ Hid (Below wr.heap.size wr X)) :
 w2.cell? a1 = some v1 ∧ w2.cell? a2 = some v2 ∧ w2.cell? a3 = some v3 ∧ Hid (Below wr.heap.size wr w2) := by
 obtain ⟨c1, c2, c3, HB⟩ := h
 obtain ⟨l1, l2, l3⟩ := hl.out
 have hs := HB.out.size
 have k : ∀ {a : Addr} {v : Value}, a.block < wr.heap.size → X.cell? a = some v → w2.cell? a = some v := fun {a v} h1 h2 => (hb.cell (p := a) (nL h1 hs)).trans h2
 exact ⟨k l1 c1, k l2 c2, k l3 c3, zH (HB.out.trans (hb.mono hs))⟩
theorem kept3_start {wr : World} {a1 a2 a3 : Addr} {v1 v2 v3 : Value} (h : Hid (wr.cell? a1 = some v1 ∧ wr.cell? a2 = some v2 ∧ wr.cell? a3 = some v3)) :
 wr.drew.cell? a1 = some v1 ∧ wr.drew.cell? a2 = some v2 ∧ wr.drew.cell? a3 = some v3 ∧ Hid (Below wr.heap.size wr wr.drew) := by
 obtain ⟨c1, c2, c3⟩ := h.out
 exact ⟨c1, c2, c3, zH (wB _ _).drew⟩
def F3 (w : World) (x : Value) (K : Int) (S : ByteArray) (u : Value) (K2 : Int) (S2 : ByteArray) (u2 : Value) : World :=
 ((w.alloc (.cells #[x] 26)).alloc (.cells #[.int .i64 K, .string S, u] 32)).alloc (.cells #[.int .i64 K2, .string S2, u2] 32)
structure F3At (w : World) (x : Value) (K : Int) (S : ByteArray) (u : Value) (K2 : Int) (S2 : ByteArray) (u2 : Value) (W : World) : Prop where
 low : Below w.heap.size w W
 p0 : W.cell? ⟨w.heap.size, 0, none⟩ = some x
 e0 : W.cell? ⟨w.heap.size + 1, 0, none⟩ = some (.int .i64 K)
 e1 : W.cell? ⟨w.heap.size + 1, 1, none⟩ = some (.string S)
 e2 : W.cell? ⟨w.heap.size + 1, 2, none⟩ = some u
 a0 : W.cell? ⟨w.heap.size + 1 + 1, 0, none⟩ = some (.int .i64 K2)
 a1 : W.cell? ⟨w.heap.size + 1 + 1, 1, none⟩ = some (.string S2)
 a2 : W.cell? ⟨w.heap.size + 1 + 1, 2, none⟩ = some u2
 sz : w.heap.size + 3 ≤ W.heap.size
theorem f3_at {w W : World} {x : Value} {K : Int} {S : ByteArray} {u : Value} {K2 : Int} {S2 : ByteArray} {u2 : Value} (h : Below (F3 w x K S u K2 S2 u2).heap.size (F3 w x K S u K2 S2 u2) W) : F3At w x K S u K2 S2 u2 W := by
 have h1 := box_low h
 have h2 := box_low h1
 have a := box_cells2 _ K2 S2 u2 W h
 have e := box_cells2 _ K S u W h1
 simp only [World.size_alloc] at a e
 refine ⟨box_low h2, pbox h2, e.1, e.2.1, e.2.2, a.1, a.2.1, a.2.2, ?_⟩
 have := h.size
 simp [F3] at this
 omega
set_option maxRecDepth 100000 in
theorem fits_loop (rs : List Ru) (all : Ex) (vp va : Value) (bp ba : List Nat) (hrt : rusTot rs ≤ 1048576) (hsa : exSize all ≤ 1048577) (n : Nat)
 (ih : ∀ (e : Ex) (v : Value) (bs : List Nat) (w : World), exSize e ≤ n → PrIs w vp rs bp → ExIs w va all ba → ExIs w v e bs → exSize e ≤ 1048577 → Calls Tryz.prog 43 #[vp, v, va] w (RetPost (.bool (fitE rs all e)) w))
 (e : Ex) (v : Value) (bs : List Nat) (w : World) (hle : exSize e ≤ n + 1) (hp : PrIs w vp rs bp) (ha : ExIs w va all ba) (hv : ExIs w v e bs) (hb : exSize e ≤ 1048577) :
 Calls Tryz.prog 43 #[vp, v, va] w (RetPost (.bool (fitE rs all e)) w) := by
 have HIH := zH (fun (e1 : Ex) (v1 : Value) (b1 : List Nat) (W : World) (hb1 : Below w.heap.size w W) (h1 : exSize e1 ≤ n) (h2 : ExIs W v1 e1 b1) (h3 : exSize e1 ≤ 1048577) => ih e1 v1 b1 W h1 (hp.below hb1) (ha.below hb1) h2 h3)
 have HAR := zH (fun (s : ByteArray) (W : World) (hb1 : Below w.heap.size w W) => arity_any rs vp bp s W (hp.below hb1) hrt)
 have HCR := zH (fun (s : ByteArray) (W : World) (hb1 : Below w.heap.size w W) => conr_any rs vp bp s W (hp.below hb1) hrt)
 have HCE := zH (fun (s : ByteArray) (W : World) (hb1 : Below w.heap.size w W) => con_ex s (exSize all) all va ba W (nR _) (ha.below hb1) (by omega))
 obtain ⟨up, rfl, hup⟩ := hp
 obtain ⟨P, pq, rfl, -⟩ := id hup
 obtain ⟨ua, hua0, -, hua⟩ := ha
 obtain ⟨u, rfl, hsz, hu⟩ := hv
 obtain ⟨A, q, rfl, hc1, hc2, -⟩ := id hu
 cases e with
 | mk K S L =>
 simp only [Ex.kind, Ex.name, Ex.args] at hsz hu hc1 ⊢
 obtain ⟨A3, qa, hua1, -⟩ := id hua
 subst hua1
 subst hua0
 have HF := zH (show fitE rs all (.mk K S L) = (fitL rs all (L.drop 0) && (if K = 3 then decide ((L.length : Int) = arityR rs S) else if K = 2 then decide ((L.length : Int) = (if conR S rs < 0 then conE S all else conR S rs)) else true)) by rw [fitE]; rfl)
 rw [exSize] at hle hb
 have hll := sizes_len L
 obtain ⟨m, hm⟩ : ∃ m, m = L.length := ⟨_, rfl⟩
 have HU := zH hu
 rw [← hm] at hc1 HF HU hll ⊢
 have HM := zH hm
 have HN := zH hle
 have HBD := zH hb
 clear hu hm ih hle hup hua hrt hsa
 generalize rs.length = pm at *
 generalize all.args.length = ma at *
 generalize all.kind = Ka at *
 generalize all.name = Sa at *
 have hmm : m ≤ 1048577 := by omega
 generalize hT : (if K = 3 then decide ((m : Int) = arityR rs S) else if K = 2 then decide ((m : Int) = (if conR S rs < 0 then conE S all else conR S rs)) else true : Bool) = T at HF
 have HT := zH hT
 clear hT hb hll
 have HBX := zH (fun (W : World) (h : Below (F3 w (.slice P pm pq) K S (.slice A m q) Ka Sa (.slice A3 ma qa)).heap.size (F3 w (.slice P pm pq) K S (.slice A m q) Ka Sa (.slice A3 ma qa)) W) => f3_at h)
 unfold F3 at HBX
 go_enter Tryz.func43, Tryz.ntmps43
 go_wp2_with fail
 obtain ⟨W0, hW0⟩ : ∃ W0, W0 = ((w.alloc (.cells #[.slice P pm pq] 26)).alloc (.cells #[.int .i64 K, .string S, .slice A m q] 32)).alloc (.cells #[.int .i64 Ka, .string Sa, .slice A3 ma qa] 32) := ⟨_, rfl⟩
 rw [← hW0] at HBX ⊢
 have HW0 := zH hW0
 clear hW0
 go_loopw [7] (fun i wr => ∃ (k : Nat), k ≤ m ∧ i = .int .i64 (k : Int) ∧ Hid (fitE rs all (.mk K S L) = (fitL rs all (L.drop k) && T)) ∧ Hid (Below W0.heap.size W0 wr)) (fun i _ => m - (intOf i).toNat)
 case atStart => exact ⟨0, Nat.zero_le _, rfl, HF, zH (wB _ _)⟩
 case round =>
  obtain ⟨k, hk, rfl, HK, HB⟩ := hrel
  obtain ⟨hlow, p0, x0, x1, x2, y0, y1, y2, hsz3⟩ := HBX.out wr HB.out
  have HL := zH hlow
  by_cases hlt : k < m
  · obtain ⟨g, o, e1, u, b1, rfl, hbl, hget, hmem, c0, c1, c2, his, -⟩ := (HU.out.below HL.out).get k (by rw [← HM.out]; exact hlt)
    have hsm := exSizes_mem hmem
    have HCALL := zH (fun (W : World) (hb1 : Below wr.heap.size wr W) => HIH.out e1 _ b1 W (HL.out.trans (hb1.mono HL.out.size)) (by have := HN.out; omega) (his.below hb1) (by have := HBD.out; omega))
    have HG := zH (fitL_here (rs := rs) (all := all) hget)
    have H8 := zH (aI p0 (aI x2 (aI c0 (aI c1 (aI c2 (aI y0 (aI y1 y2)))))))
    have HLT := zH (show (⟨w.heap.size, 0, none⟩ : Addr).block < wr.heap.size ∧ (⟨w.heap.size + 1, 2, none⟩ : Addr).block < wr.heap.size ∧ (⟨g, o + k * 3, none⟩ : Addr).block < wr.heap.size ∧ (⟨g, o + k * 3 + 1, none⟩ : Addr).block < wr.heap.size ∧ (⟨g, o + k * 3 + 2, none⟩ : Addr).block < wr.heap.size ∧ (⟨w.heap.size + 1 + 1, 0, none⟩ : Addr).block < wr.heap.size ∧ (⟨w.heap.size + 1 + 1, 1, none⟩ : Addr).block < wr.heap.size ∧ (⟨w.heap.size + 1 + 1, 2, none⟩ : Addr).block < wr.heap.size by simp; omega)
    have hk0 : 0 ≤ (k : Int) := by omega
    have hkm : (k : Int) < (m : Int) := by omega
    clear his hget hmem hsm hlow
    generalize hfe : fitE rs all e1 = b at HCALL HG
    clear hfe
    cases b
    · have HE2 := zH (show fitE rs all (.mk K S L) = false by rw [HK.out, HG.out]; rfl)
      go_wp2_with fail
      go_region_held3 (fun X => X.cell? ⟨w.heap.size, 0, none⟩ = some (.slice P pm pq) ∧ X.cell? ⟨w.heap.size + 1, 2, none⟩ = some (.slice (some ⟨g, o, none⟩) m q) ∧ X.cell? ⟨g, o + k * 3, none⟩ = some (.int .i64 e1.kind) ∧ X.cell? ⟨g, o + k * 3 + 1, none⟩ = some (.string e1.name) ∧ X.cell? ⟨g, o + k * 3 + 2, none⟩ = some u ∧ X.cell? ⟨w.heap.size + 1 + 1, 0, none⟩ = some (.int .i64 Ka) ∧ X.cell? ⟨w.heap.size + 1 + 1, 1, none⟩ = some (.string Sa) ∧ X.cell? ⟨w.heap.size + 1 + 1, 2, none⟩ = some (.slice A3 ma qa) ∧ Hid (Below wr.heap.size wr X))
       (first | exact kept8_start H8 | exact kept8_step HLT hb2 (by assumption))
       (first | (go_at_call 43; have hh := (‹_ ∧ _ ∧ _ ∧ _ ∧ _ ∧ _ ∧ _ ∧ _ ∧ Hid (Below wr.heap.size wr _)›).2.2.2.2.2.2.2.2.out; refine (HCALL.out _ hh).mono ?_; rintro r w2 ⟨rfl, hb2⟩; clear hh))
      all_goals
       have hx := (‹_ ∧ _ ∧ _ ∧ _ ∧ _ ∧ _ ∧ _ ∧ _ ∧ Hid (Below wr.heap.size wr w2)›).2.2.2.2.2.2.2.2.out
       go_wp2_with fail
       go_ret
       exact ⟨by rw [HE2.out]; rfl, HL.out.trans (hx.mono HL.out.size)⟩
    have HE2 := zH (show fitE rs all (.mk K S L) = (fitL rs all (L.drop (k + 1)) && T) by rw [HK.out, HG.out, Bool.true_and])
    go_wp2_with fail
    go_region_held3 (fun X => X.cell? ⟨w.heap.size, 0, none⟩ = some (.slice P pm pq) ∧ X.cell? ⟨w.heap.size + 1, 2, none⟩ = some (.slice (some ⟨g, o, none⟩) m q) ∧ X.cell? ⟨g, o + k * 3, none⟩ = some (.int .i64 e1.kind) ∧ X.cell? ⟨g, o + k * 3 + 1, none⟩ = some (.string e1.name) ∧ X.cell? ⟨g, o + k * 3 + 2, none⟩ = some u ∧ X.cell? ⟨w.heap.size + 1 + 1, 0, none⟩ = some (.int .i64 Ka) ∧ X.cell? ⟨w.heap.size + 1 + 1, 1, none⟩ = some (.string Sa) ∧ X.cell? ⟨w.heap.size + 1 + 1, 2, none⟩ = some (.slice A3 ma qa) ∧ Hid (Below wr.heap.size wr X))
     (first | exact kept8_start H8 | exact kept8_step HLT hb2 (by assumption))
     (first | (go_at_call 43; have hh := (‹_ ∧ _ ∧ _ ∧ _ ∧ _ ∧ _ ∧ _ ∧ _ ∧ Hid (Below wr.heap.size wr _)›).2.2.2.2.2.2.2.2.out; refine (HCALL.out _ hh).mono ?_; rintro r w2 ⟨rfl, hb2⟩; clear hh))
    all_goals
     have hx := (‹_ ∧ _ ∧ _ ∧ _ ∧ _ ∧ _ ∧ _ ∧ _ ∧ Hid (Below wr.heap.size wr w2)›).2.2.2.2.2.2.2.2.out
     have HX := zH (HB.out.trans (hx.mono HB.out.size))
     clear hx
     go_wp2_with fail
     go_roundw
     case rel => exact ⟨k + 1, by omega, by go_num, HE2, HX⟩
     case measure => simp [intOf]; omega
  have HE := zH (show fitE rs all (.mk K S L) = T by rw [HK.out, List.drop_eq_nil_of_le (by rw [← HM.out]; omega), fitL, Bool.true_and])
  clear HIH HU HK
  by_cases h3 : K = 3
  · subst h3
    have HAC := zH (fun (W : World) (hb1 : Below wr.heap.size wr W) => HAR.out S W (HL.out.trans (hb1.mono HL.out.size)))
    have H3 := zH (aI x2 (aI p0 x1))
    have HLT := zH (show (⟨w.heap.size + 1, 2, none⟩ : Addr).block < wr.heap.size ∧ (⟨w.heap.size, 0, none⟩ : Addr).block < wr.heap.size ∧ (⟨w.heap.size + 1, 1, none⟩ : Addr).block < wr.heap.size by simp; omega)
    have HT2 := zH (show T = decide ((m : Int) = arityR rs S) by rw [← HT.out]; rfl)
    generalize arityR rs S = z at *
    have key : ∃ b : Bool, ((m : Int) == z) = b ∧ T = b := by
     by_cases hq : (m : Int) = z
     · exact ⟨true, by simpa using hq, by rw [HT2.out]; simpa using hq⟩
     exact ⟨false, by simpa using hq, by rw [HT2.out]; simpa using hq⟩
    obtain ⟨b, hb1, hb2⟩ := key
    have HTB := zH hb2
    clear hb2 hlow
    go_wp2_with fail
    go_region_held3 (fun X => X.cell? ⟨w.heap.size + 1, 2, none⟩ = some (.slice A m q) ∧ X.cell? ⟨w.heap.size, 0, none⟩ = some (.slice P pm pq) ∧ X.cell? ⟨w.heap.size + 1, 1, none⟩ = some (.string S) ∧ Hid (Below wr.heap.size wr X))
     (first | exact kept3_start H3 | exact kept3_step HLT hb2 (by assumption))
     (first | (go_at_call 20; have hh := (‹_ ∧ _ ∧ _ ∧ Hid (Below wr.heap.size wr _)›).2.2.2.out; refine (HAC.out _ hh).mono ?_; rintro r w2 ⟨rfl, hb2⟩; clear hh))
    all_goals
     have hx := (‹_ ∧ _ ∧ _ ∧ Hid (Below wr.heap.size wr w2)›).2.2.2.out
     go_wp2_with fail
     go_ret
     exact ⟨by rw [HE.out, HTB.out]; rfl, HL.out.trans (hx.mono HL.out.size)⟩
  have h3' : (K == 3) = false := by simpa using h3
  by_cases h2 : K = 2
  · subst h2
    have HCC := zH (HCR.out S wr HL.out)
    have HCX := zH (fun (W : World) (hb1 : Below wr.heap.size wr W) => HCE.out S W (HL.out.trans (hb1.mono HL.out.size)))
    have HT2 := zH (show T = decide ((m : Int) = (if conR S rs < 0 then conE S all else conR S rs)) by rw [← HT.out]; rfl)
    generalize conR S rs = z at *
    generalize conE S all = y at *
    have HBW := zH (fun (W : World) (hb1 : Below wr.heap.size wr W) => HBX.out W (HB.out.trans (hb1.mono HB.out.size)))
    clear hlow
    by_cases hz : z < 0
    · rw [if_pos hz] at HT2
      have key : ∃ b : Bool, ((m : Int) == y) = b ∧ T = b := by
       by_cases hq : (m : Int) = y
       · exact ⟨true, by simpa using hq, by rw [HT2.out]; simpa using hq⟩
       exact ⟨false, by simpa using hq, by rw [HT2.out]; simpa using hq⟩
      obtain ⟨b, hb1, hb2⟩ := key
      have HTB := zH hb2
      clear hb2
      go_wp2_with (first
       | (go_at_call 16; refine HCC.out.mono ?_; rintro r w2 ⟨rfl, hb2⟩; have HB2 := zH hb2; obtain ⟨-, -, x0', x1', x2', y0', y1', y2', -⟩ := HBW.out w2 hb2; clear hb2)
       | (go_at_call 41; refine (HCX.out _ HB2.out).mono ?_; rintro r w3 ⟨rfl, hb3⟩; have HB3 := zH (HB2.out.trans (hb3.mono HB2.out.size)); obtain ⟨-, -, x0'', x1'', x2'', -, -, -, -⟩ := HBW.out w3 HB3.out; clear hb3))
      go_ret
      exact ⟨by rw [HE.out, HTB.out]; rfl, HL.out.trans (HB3.out.mono HL.out.size)⟩
    rw [if_neg hz] at HT2
    have key : ∃ b : Bool, ((m : Int) == z) = b ∧ T = b := by
     by_cases hq : (m : Int) = z
     · exact ⟨true, by simpa using hq, by rw [HT2.out]; simpa using hq⟩
     exact ⟨false, by simpa using hq, by rw [HT2.out]; simpa using hq⟩
    obtain ⟨b, hb1, hb2⟩ := key
    have HTB := zH hb2
    clear hb2
    go_wp2_with (go_at_call 16; refine HCC.out.mono ?_; rintro r w2 ⟨rfl, hb2⟩; have HB2 := zH hb2; obtain ⟨-, -, x0', x1', x2', y0', y1', y2', -⟩ := HBW.out w2 hb2; clear hb2)
    go_ret
    exact ⟨by rw [HE.out, HTB.out]; rfl, HL.out.trans (HB2.out.mono HL.out.size)⟩
  have h2' : (K == 2) = false := by simpa using h2
  have HTB := zH (show T = true by rw [← HT.out, if_neg h3, if_neg h2])
  clear h2 h3 hlow
  go_wp2_with fail
  go_ret
  exact ⟨by rw [HE.out, HTB.out]; rfl, HL.out⟩
theorem fits_any (rs : List Ru) (all : Ex) (vp va : Value) (bp ba : List Nat) (hrt : rusTot rs ≤ 1048576) (hsa : exSize all ≤ 1048577) (n : Nat) :
 ∀ (e : Ex) (v : Value) (bs : List Nat) (w : World), exSize e ≤ n → PrIs w vp rs bp → ExIs w va all ba → ExIs w v e bs → exSize e ≤ 1048577 → Calls Tryz.prog 43 #[vp, v, va] w (RetPost (.bool (fitE rs all e)) w) := by
 induction n with
 | zero => intro e v bs w h; have := exSize_pos e; omega
 | succ n ih => exact fun e v bs w h1 h2 h3 h4 h5 => fits_loop rs all vp va bp ba hrt hsa n ih e v bs w h1 h2 h3 h4 h5
theorem exfor_any (rs : List Ru) (e : Ex) (vp v : Value) (bp bs : List Nat) (w : World) (hp : PrIs w vp rs bp) (hv : ExIs w v e bs) (hrt : rusTot rs ≤ 1048576) (hb : exTot e ≤ 1048576) :
 Calls Tryz.prog 17 #[vp, v] w (RetPost (.bool (exFor rs e)) w) := by
 have hes : exSize e ≤ 1048577 := by have := (tot_size (exSize e)).1 e (nR _); omega
 have HV := zH (fun (W : World) (h : Below w.heap.size w W) => valid_any e v bs W (hv.below h) hb)
 have HFT := zH (fun (W : World) (h : Below w.heap.size w W) => fits_any rs e vp v bp bs hrt hes (exSize e) e v bs W (nR _) (hp.below h) (hv.below h) (hv.below h) hes)
 have HE := zH (show exFor rs e = (exValid e && fitE rs e e) from rfl)
 obtain ⟨up, rfl, hup⟩ := hp
 obtain ⟨P, pq, rfl, -⟩ := id hup
 obtain ⟨u, rfl, -, hu⟩ := hv
 obtain ⟨A, q, rfl, -⟩ := id hu
 clear hup hu hb hrt hes
 generalize rs.length = pm at *
 generalize e.args.length = m at *
 generalize e.kind = K at *
 generalize e.name = S at *
 have HB0 := zH (((wB w.heap.size w).alloc (nR _) (.cells #[.slice P pm pq] 26)).alloc (by simp) (.cells #[.int .i64 K, .string S, .slice A m q] 32))
 have HBX := zH (fun (W : World) (h : Below ((w.alloc (.cells #[.slice P pm pq] 26)).alloc (.cells #[.int .i64 K, .string S, .slice A m q] 32)).heap.size ((w.alloc (.cells #[.slice P pm pq] 26)).alloc (.cells #[.int .i64 K, .string S, .slice A m q] 32)) W) => show W.cell? ⟨w.heap.size, 0, none⟩ = some (.slice P pm pq) ∧ (W.cell? ⟨w.heap.size + 1, 0, none⟩ = some (.int .i64 K) ∧ W.cell? ⟨w.heap.size + 1, 1, none⟩ = some (.string S) ∧ W.cell? ⟨w.heap.size + 1, 2, none⟩ = some (.slice A m q)) by
  have e := box_cells2 _ K S (.slice A m q) W h
  simp only [World.size_alloc] at e
  exact ⟨pbox (box_low h), e⟩)
 generalize fitE rs e e = f at *
 generalize exValid e = a at *
 cases a
 · go_enter Tryz.func17, Tryz.ntmps17
   go_wp2_with (go_at_call 42; refine (HV.out _ HB0.out).mono ?_; rintro r w1 ⟨rfl, hb1⟩; obtain ⟨x0, x1, x2, x3⟩ := HBX.out w1 hb1; have HB1 := zH (HB0.out.trans (hb1.mono HB0.out.size)); clear hb1)
   go_ret
   exact ⟨by rw [HE.out]; rfl, HB1.out⟩
 go_enter Tryz.func17, Tryz.ntmps17
 go_wp2_with (first
  | (go_at_call 42; refine (HV.out _ HB0.out).mono ?_; rintro r w1 ⟨rfl, hb1⟩; obtain ⟨x0, x1, x2, x3⟩ := HBX.out w1 hb1; have HB1 := zH (HB0.out.trans (hb1.mono HB0.out.size)); clear hb1)
  | (go_at_call 43; refine (HFT.out _ HB1.out).mono ?_; rintro r w2 ⟨rfl, hb2⟩; have HB2 := zH (HB1.out.trans (hb2.mono HB1.out.size)); clear hb2))
 go_ret
 exact ⟨by rw [HE.out]; rfl, HB2.out⟩
end Go.Proofs.YtiaknfnhmoinpaaGreat
