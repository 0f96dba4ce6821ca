/- A part of the proof of the seat's statement: ExHeld. Condition: as each says. -/
import Derived.Test.YthljhiklpopmgaaGreatDoorMarkSs
import Derived.Test.YthljhiklpopmgaaGreatDoorRuNames
import Derived.Deep.RegionHeld3
set_option maxHeartbeats 8000000
namespace Go.Proofs.YthljhiklpopmgaaGreatDoor
open Go Go.RowKit
def mkRu (M : Int) (r : Ru) : Ru :=
 ⟨mt M, mt (M + 1), mlist (M + 1 + 1) r.vars.length, mlist (M + 1 + 1 + (r.vars.length : Int)) r.params.length,
  .mk (M + 1 + 1 + (r.vars.length : Int) + (r.params.length : Int)) (mt (M + 1 + 1 + (r.vars.length : Int) + (r.params.length : Int) + 1)) (mkExs (M + 1 + 1 + (r.vars.length : Int) + (r.params.length : Int) + 1 + 1) r.body.args)⟩
def ruW (r : Ru) : Nat := 4 + (r.vars.length + (r.params.length + 2 * exSizes r.body.args))
def rusW : List Ru → Nat
 | [] => 0
 | r :: l => ruW r + rusW l
def mkRus (M : Int) : List Ru → List Ru
 | [] => []
 | r :: l => mkRu M r :: mkRus (M + (ruW r : Int)) l
theorem mkRus_len : ∀ (l : List Ru) (M : Int), (mkRus M l).length = l.length := by
 intro l
 induction l with
 | nil => intro M; rfl
 | cons e r ih => intro M; rw [mkRus, List.length_cons, List.length_cons, ih]
theorem rusW_app : ∀ (a b : List Ru), rusW (a ++ b) = rusW a + rusW b := by
 intro a
 induction a with
 | nil => intro b; simp [rusW]
 | cons x r ih => intro b; rw [List.cons_append, rusW, rusW, ih]; omega
theorem rusW_snoc (l : List Ru) (k : Nat) (e : Ru) (h : l[k]? = some e) : rusW (l.take (k + 1)) = rusW (l.take k) + ruW e := by
 rw [take_ru l k e h, rusW_app]
 simp [rusW]
theorem rusW_take (l : List Ru) (k : Nat) : rusW (l.take k) ≤ rusW l := by
 have h := rusW_app (l.take k) (l.drop k)
 rw [List.take_append_drop] at h
 omega
theorem mkRus_snoc : ∀ (l : List Ru) (M : Int) (e : Ru), mkRus M (l ++ [e]) = mkRus M l ++ [mkRu (M + (rusW l : Int)) e] := by
 intro l
 induction l with
 | nil => intro M e; simp [mkRus, rusW]
 | cons x r ih =>
  intro M e
  rw [List.cons_append, mkRus, mkRus, ih, List.cons_append, rusW]
  congr 3
  congr 1
  omega
theorem mkRus_get : ∀ (l : List Ru) (M : Int) (k : Nat) (e : Ru), l[k]? = some e → (mkRus M l)[k]? = some (mkRu (M + (rusW (l.take k) : Int)) e) := by
 intro l
 induction l with
 | nil => intro M k e h; simp at h
 | cons x r ih =>
  intro M k e h
  rw [mkRus]
  cases k with
  | zero =>
   simp at h
   subst h
   simp [rusW]
  | succ k =>
   rw [List.getElem?_cons_succ, ih _ k e (by simpa using h), List.take_succ_cons, rusW]
   congr 2
   omega
theorem args_tot (e : Ex) : exSizes e.args ≤ exTot e := by
 have h := (tot_size (exSize e)).1 e (Nat.le_refl _)
 have h2 : exSize e = exSizes e.args + 1 := by cases e; rfl
 omega
theorem ruW_le (r : Ru) : ruW r ≤ 2 * ruTot r + 4 := by
 have h := args_tot r.body
 unfold ruW ruTot ssTot
 omega
theorem rusW_le : ∀ l : List Ru, rusW l ≤ 4 * rusTot l := by
 intro l
 induction l with
 | nil => simp [rusW]
 | cons r l ih => rw [rusW, rusTot]; have := ruW_le r; omega
theorem RusAt.from_ {w w' : World} {g o : Nat} : ∀ (l : List Ru) (j : Nat) (bs : List Nat), RusAt w g o j l bs → (∀ m, o + j * 7 ≤ m → w'.cell? ⟨g, m, none⟩ = w.cell? ⟨g, m, none⟩) → Keeps w w' bs → RusAt w' g o j l bs := by
 intro l
 induction l with
 | nil => intro j bs h _ _; exact h
 | cons e r ih =>
  intro j bs h hc hk
  obtain ⟨b1, b2, rfl, h1, h2⟩ := h
  exact ⟨b1, b2, rfl, h1.same (fun m hm1 hm2 => hc m (by omega)) ⟨hk.1, fun x hx => hk.2 x (List.mem_append_left _ hx)⟩,
   ih (j + 1) b2 h2 (fun m hm => hc m (by omega)) ⟨hk.1, fun x hx => hk.2 x (List.mem_append_right _ hx)⟩⟩
structure RMid (wr W : World) (g p : Nat) (x0 x1 x4 x5 v1 v2 u : Value) (ds b1 b2 b3 : List Nat) (vs ps : List ByteArray) (es : List Ex) : Prop where
 cells : Cells7 W g p x0 x1 v1 v2 x4 x5 u
 rest : ∀ m, m < p ∨ p + 7 ≤ m → W.cell? ⟨g, m, none⟩ = wr.cell? ⟨g, m, none⟩
 only : OnlyIn wr W (g :: (b1 ++ (b2 ++ b3)))
 mine : Mine W 0 (g :: ds)
 s1 : SsIs W v1 vs b1
 m1 : Mine W 0 b1
 s2 : SsIs W v2 ps b2
 m2 : Mine W 0 b2
 s3 : SlIs W u es b3
 m3 : Mine W 0 b3
 apart : (g :: (ds ++ (b1 ++ (b2 ++ b3)))).Nodup
theorem apart_parts {g : Nat} {ds b1 b2 b3 : List Nat} (h : (g :: (ds ++ (b1 ++ (b2 ++ b3)))).Nodup) :
 g ∉ b1 ∧ g ∉ b2 ∧ g ∉ b3 ∧ (∀ x ∈ g :: ds, x ∉ b1) ∧ (∀ x ∈ g :: ds, x ∉ b2) ∧ (∀ x ∈ g :: ds, x ∉ b3) ∧ (∀ x ∈ b1, x ∉ b2) ∧ (∀ x ∈ b1, x ∉ b3) ∧ (∀ x ∈ b2, x ∉ b3) := by
 simp only [List.nodup_cons, List.nodup_append, List.mem_append, not_or] at h
 obtain ⟨⟨-, g1, g2, g3⟩, -, ⟨-, ⟨-, -, h23⟩, h1⟩, hd⟩ := h
 refine ⟨g1, g2, g3, ?_, ?_, ?_, fun x hx k => h1 x hx x (Or.inl k) rfl, fun x hx k => h1 x hx x (Or.inr k) rfl, fun x hx k => h23 x hx x k rfl⟩
 · intro x hx k
   rcases List.mem_cons.1 hx with rfl | hx
   · exact g1 k
   exact hd x hx x (Or.inl k) rfl
 · intro x hx k
   rcases List.mem_cons.1 hx with rfl | hx
   · exact g2 k
   exact hd x hx x (Or.inr (Or.inl k)) rfl
 intro x hx k
 rcases List.mem_cons.1 hx with rfl | hx
 · exact g3 k
 exact hd x hx x (Or.inr (Or.inr k)) rfl
section
variable {wr W W2 : World} {g p : Nat} {x0 x1 x4 x5 v1 v2 u : Value} {ds b1 b2 b3 : List Nat} {vs ps : List ByteArray} {es : List Ex}
theorem RMid.lt (h : RMid wr W g p x0 x1 x4 x5 v1 v2 u ds b1 b2 b3 vs ps es) : g < W.heap.size := (h.mine.range g (by simp)).2
theorem RMid.below (h : RMid wr W g p x0 x1 x4 x5 v1 v2 u ds b1 b2 b3 vs ps es) (hb : Below W.heap.size W W2) : RMid wr W2 g p x0 x1 x4 x5 v1 v2 u ds b1 b2 b3 vs ps es :=
 ⟨h.cells.of (fun m _ _ => hb.cell (p := ⟨g, m, none⟩) h.lt), fun m hm => (hb.cell (p := ⟨g, m, none⟩) h.lt).trans (h.rest m hm), h.only.trans (OnlyIn.of_below hb _), h.mine.keeps (keeps_below hb _),
  h.s1.below hb, h.m1.keeps (keeps_below hb _), h.s2.below hb, h.m2.keeps (keeps_below hb _), h.s3.below hb, h.m3.keeps (keeps_below hb _), h.apart⟩
theorem RMid.put {y0 y1 y4 y5 : Value} (h : RMid wr W g p x0 x1 x4 x5 v1 v2 u ds b1 b2 b3 vs ps es) (q : Nat) (y : Value) (hq1 : p ≤ q) (hq2 : q < p + 7) (hc : Cells7 (W.setCell ⟨g, q, none⟩ y) g p y0 y1 v1 v2 y4 y5 u) :
 RMid wr (W.setCell ⟨g, q, none⟩ y) g p y0 y1 y4 y5 v1 v2 u ds b1 b2 b3 vs ps es := by
 obtain ⟨a1, a2, a3, -⟩ := apart_parts h.apart
 have kp : ∀ cs : List Nat, g ∉ cs → Keeps W (W.setCell ⟨g, q, none⟩ y) cs := fun cs hn => keeps_set (fun x hx e => hn (by rw [show g = x from e.symm]; exact hx))
 exact ⟨hc, fun m hm => by rw [set_other _ _ _ _ _ (by omega)]; exact h.rest m hm, h.only.set (by simp) _, h.mine.set _ _,
  h.s1.keeps (kp _ a1), h.m1.set _ _, h.s2.keeps (kp _ a2), h.m2.set _ _, h.s3.keeps (kp _ a3), h.m3.set _ _, h.apart⟩
theorem RMid.put0 (h : RMid wr W g p x0 x1 x4 x5 v1 v2 u ds b1 b2 b3 vs ps es) (y : Value) : RMid wr (W.setCell ⟨g, p, none⟩ y) g p y x1 x4 x5 v1 v2 u ds b1 b2 b3 vs ps es := by
 obtain ⟨c0, c1, c2, c3, c4, c5, c6⟩ := h.cells
 refine h.put p y (by omega) (by omega) ⟨World.cell?_setCell_same _ _ _ c0, ?_, ?_, ?_, ?_, ?_, ?_⟩ <;> (rw [set_other _ _ _ _ _ (by omega)]; assumption)
theorem RMid.put1 (h : RMid wr W g p x0 x1 x4 x5 v1 v2 u ds b1 b2 b3 vs ps es) (y : Value) : RMid wr (W.setCell ⟨g, p + 1, none⟩ y) g p x0 y x4 x5 v1 v2 u ds b1 b2 b3 vs ps es := by
 obtain ⟨c0, c1, c2, c3, c4, c5, c6⟩ := h.cells
 refine h.put (p + 1) y (by omega) (by omega) ⟨?_, World.cell?_setCell_same _ _ _ c1, ?_, ?_, ?_, ?_, ?_⟩ <;> (rw [set_other _ _ _ _ _ (by omega)]; assumption)
theorem RMid.put4 (h : RMid wr W g p x0 x1 x4 x5 v1 v2 u ds b1 b2 b3 vs ps es) (y : Value) : RMid wr (W.setCell ⟨g, p + 4, none⟩ y) g p x0 x1 y x5 v1 v2 u ds b1 b2 b3 vs ps es := by
 obtain ⟨c0, c1, c2, c3, c4, c5, c6⟩ := h.cells
 refine h.put (p + 4) y (by omega) (by omega) ⟨?_, ?_, ?_, ?_, World.cell?_setCell_same _ _ _ c4, ?_, ?_⟩ <;> (rw [set_other _ _ _ _ _ (by omega)]; assumption)
theorem RMid.put5 (h : RMid wr W g p x0 x1 x4 x5 v1 v2 u ds b1 b2 b3 vs ps es) (y : Value) : RMid wr (W.setCell ⟨g, p + 5, none⟩ y) g p x0 x1 x4 y v1 v2 u ds b1 b2 b3 vs ps es := by
 obtain ⟨c0, c1, c2, c3, c4, c5, c6⟩ := h.cells
 refine h.put (p + 5) y (by omega) (by omega) ⟨?_, ?_, ?_, ?_, ?_, World.cell?_setCell_same _ _ _ c5, ?_⟩ <;> (rw [set_other _ _ _ _ _ (by omega)]; assumption)
theorem RMid.call {S : List Nat} (h : RMid wr W g p x0 x1 x4 x5 v1 v2 u ds b1 b2 b3 vs ps es) (ho : OnlyIn W W2 S) (hS : ∀ x ∈ S, x ∈ b1 ++ (b2 ++ b3)) (hn : ∀ x ∈ g :: ds, x ∉ S) {vs' ps' : List ByteArray} {es' : List Ex}
 (s1 : SsIs W2 v1 vs' b1) (m1 : Mine W2 0 b1) (s2 : SsIs W2 v2 ps' b2) (m2 : Mine W2 0 b2) (s3 : SlIs W2 u es' b3) (m3 : Mine W2 0 b3) : RMid wr W2 g p x0 x1 x4 x5 v1 v2 u ds b1 b2 b3 vs' ps' es' := by
 have hc : ∀ m, W2.cell? ⟨g, m, none⟩ = W.cell? ⟨g, m, none⟩ := fun m => World.cell?_of_block (w := W) (a := ⟨g, m, none⟩) (ho.block g h.lt (hn g (by simp)))
 exact ⟨h.cells.of (fun m _ _ => hc m), fun m hm => (hc m).trans (h.rest m hm), h.only.trans (ho.more (fun x hx => List.mem_cons_of_mem _ (hS x hx))), h.mine.keeps (ho.keeps hn), s1, m1, s2, m2, s3, m3, h.apart⟩
theorem RMid.doVars (h : RMid wr W g p x0 x1 x4 x5 v1 v2 u ds b1 b2 b3 vs ps es) {vs' : List ByteArray} (s1 : SsIs W2 v1 vs' b1) (ho : OnlyIn W W2 b1) (m1 : Mine W2 0 b1) : RMid wr W2 g p x0 x1 x4 x5 v1 v2 u ds b1 b2 b3 vs' ps es := by
 obtain ⟨-, -, -, a4, a5, a6, a7, a8, a9⟩ := apart_parts h.apart
 have k2 := ho.keeps (fun x hx k => a7 x k hx : ∀ x ∈ b2, x ∉ b1)
 have k3 := ho.keeps (fun x hx k => a8 x k hx : ∀ x ∈ b3, x ∉ b1)
 exact h.call ho (fun x hx => by simp [hx]) a4 s1 m1 (h.s2.keeps k2) (h.m2.keeps k2) (h.s3.keeps k3) (h.m3.keeps k3)
theorem RMid.doParams (h : RMid wr W g p x0 x1 x4 x5 v1 v2 u ds b1 b2 b3 vs ps es) {ps' : List ByteArray} (s2 : SsIs W2 v2 ps' b2) (ho : OnlyIn W W2 b2) (m2 : Mine W2 0 b2) : RMid wr W2 g p x0 x1 x4 x5 v1 v2 u ds b1 b2 b3 vs ps' es := by
 obtain ⟨-, -, -, a4, a5, a6, a7, a8, a9⟩ := apart_parts h.apart
 have k1 := ho.keeps a7
 have k3 := ho.keeps (fun x hx k => a9 x k hx : ∀ x ∈ b3, x ∉ b2)
 exact h.call ho (fun x hx => by simp [hx]) a5 (h.s1.keeps k1) (h.m1.keeps k1) s2 m2 (h.s3.keeps k3) (h.m3.keeps k3)
theorem RMid.doArgs (h : RMid wr W g p x0 x1 x4 x5 v1 v2 u ds b1 b2 b3 vs ps es) {es' : List Ex} (s3 : SlIs W2 u es' b3) (ho : OnlyIn W W2 b3) (m3 : Mine W2 0 b3) : RMid wr W2 g p x0 x1 x4 x5 v1 v2 u ds b1 b2 b3 vs ps es' := by
 obtain ⟨-, -, -, a4, a5, a6, a7, a8, a9⟩ := apart_parts h.apart
 have k1 := ho.keeps a8
 have k2 := ho.keeps a9
 exact h.call ho (fun x hx => by simp [hx]) a6 (h.s1.keeps k1) (h.m1.keeps k1) (h.s2.keeps k2) (h.m2.keeps k2) s3 m3
end
structure RMarking (w wr : World) (g o : Nat) (M : Int) (l : List Ru) (k : Nat) (d1 d2 : List Nat) : Prop where
 done : RusAt wr g o 0 (mkRus M (l.take k)) d1
 todo : RusAt wr g o k (l.drop k) d2
 only : OnlyIn w wr (g :: (d1 ++ d2))
 mine : Mine wr 0 (g :: (d1 ++ d2))
theorem rmark_start {w : World} {g o : Nat} {M : Int} {l : List Ru} {bs : List Nat} (h : RusAt w g o 0 l bs) (hm : Mine w 0 (g :: bs)) : RMarking w w g o M l 0 [] bs :=
 ⟨by rw [List.take_zero]; rfl, by rw [List.drop_zero]; exact h, OnlyIn.refl _ _, hm⟩
theorem RMarking.open_ {w wr : World} {g o : Nat} {M : Int} {l : List Ru} {k : Nat} {d1 d2 : List Nat} (h : RMarking w wr g o M l k d1 d2) {r : Ru} (hr : l[k]? = some r) :
 ∃ v1 v2 u b1 b2 b3 c2, d2 = (b1 ++ (b2 ++ b3)) ++ c2 ∧ RusAt wr g o (k + 1) (l.drop (k + 1)) c2 ∧
  RMid wr wr g (o + k * 7) (.string r.name) (.string r.con) (.int .i64 r.body.kind) (.string r.body.name) v1 v2 u (d1 ++ c2) b1 b2 b3 r.vars r.params r.body.args := by
 have hk : k < l.length := (List.getElem?_eq_some_iff.1 hr).1
 have ht := h.todo
 rw [List.drop_eq_getElem_cons hk, (List.getElem?_eq_some_iff.1 hr).2] at ht
 obtain ⟨c1, c2, rfl, ⟨v1, v2, u, hc, hi⟩, h2⟩ := ht
 obtain ⟨b1, b2, b3, rfl, -, -, s1, s2, ⟨u', e, -, s3⟩⟩ := hi.parts
 obtain rfl : u = u' := by simpa using e
 have hm := h.mine
 have hap : (g :: ((d1 ++ c2) ++ (b1 ++ (b2 ++ b3)))).Nodup := by
  have hp : List.Perm (g :: (d1 ++ ((b1 ++ (b2 ++ b3)) ++ c2))) (g :: ((d1 ++ c2) ++ (b1 ++ (b2 ++ b3)))) := by
   refine List.Perm.cons _ ?_
   rw [List.append_assoc d1 c2]
   exact List.Perm.append_left _ List.perm_append_comm
  exact hp.nodup_iff.1 hm.nodup
 have hn := hap
 rw [List.nodup_cons, List.nodup_append] at hn
 obtain ⟨hg0, hds, hbb, -⟩ := hn
 rw [List.nodup_append, List.nodup_append] at hbb
 obtain ⟨n1, ⟨n2, n3, -⟩, -⟩ := hbb
 exact ⟨v1, v2, u, b1, b2, b3, c2, rfl, h2, hc, fun _ _ => rfl, OnlyIn.refl _ _,
  hm.sub (fun x hx => by simp only [List.mem_cons, List.mem_append] at hx ⊢; rcases hx with h | h | h <;> simp [h]) (List.nodup_cons.2 ⟨fun hx => hg0 (List.mem_append_left _ hx), hds⟩),
  s1, hm.sub (fun x hx => by simp [hx]) n1, s2, hm.sub (fun x hx => by simp [hx]) n2, s3, hm.sub (fun x hx => by simp [hx]) n3, hap⟩
theorem RMarking.step {w wr W : World} {g o : Nat} {M : Int} {l : List Ru} {k : Nat} {d1 b1 b2 b3 c2 : List Nat} {r : Ru} {v1 v2 u : Value} {z : Int} (h : RMarking w wr g o M l k d1 ((b1 ++ (b2 ++ b3)) ++ c2)) (hr : l[k]? = some r) (htd : RusAt wr g o (k + 1) (l.drop (k + 1)) c2) (hz : z = M + (rusW (l.take k) : Int))
 (hs1 : (mt z).size ≤ 9223372036854775807) (hs2 : (mt (z + 1)).size ≤ 9223372036854775807) (hs3 : (mkRu z r).body.name.size ≤ 9223372036854775807)
 (q : RMid wr W g (o + k * 7) (.string (mkRu z r).name) (.string (mkRu z r).con) (.int .i64 (mkRu z r).body.kind) (.string (mkRu z r).body.name) v1 v2 u (d1 ++ c2) b1 b2 b3 (mkRu z r).vars (mkRu z r).params (mkRu z r).body.args) :
 RMarking w W g o M l (k + 1) (d1 ++ (b1 ++ (b2 ++ b3))) c2 := by
 have hk : k < l.length := (List.getElem?_eq_some_iff.1 hr).1
 have hap := q.apart
 have hap2 := hap
 rw [List.nodup_cons, List.nodup_append, List.nodup_append] at hap2
 obtain ⟨hg0, ⟨hd1, hc2, hdc⟩, hbb, hdis⟩ := hap2
 have gd1 : g ∉ d1 := fun hx => hg0 (by simp [hx])
 have gc2 : g ∉ c2 := fun hx => hg0 (by simp [hx])
 have gbb : g ∉ b1 ++ (b2 ++ b3) := fun hx => hg0 (List.mem_append_right _ hx)
 have kd1 : Keeps wr W d1 := q.only.keeps (fun x hx hx2 => by
  rcases List.mem_cons.1 hx2 with rfl | hx2
  · exact gd1 hx
  exact hdis x (List.mem_append_left _ hx) x hx2 rfl)
 have kc2 : Keeps wr W c2 := q.only.keeps (fun x hx hx2 => by
  rcases List.mem_cons.1 hx2 with rfl | hx2
  · exact gc2 hx
  exact hdis x (List.mem_append_right _ hx) x hx2 rfl)
 have hlen : (mkRus M (l.take k)).length = k := by rw [mkRus_len, List.length_take]; omega
 refine ⟨?_, ?_, ?_, ?_⟩
 · rw [take_ru l k r hr, mkRus_snoc, ← hz]
   refine RusAt.snoc _ 0 d1 (RusAt.same _ 0 d1 h.done (fun m hm2 => q.rest m (by rw [hlen] at hm2; omega)) kd1) ?_
   rw [hlen, Nat.zero_add]
   exact ⟨v1, v2, u, q.cells, v1, v2, u, b1, b2, b3, rfl, hs1, hs2, rfl, q.s1, q.s2, u, rfl, hs3, q.s3⟩
 · exact RusAt.from_ _ (k + 1) c2 htd (fun m hm2 => q.rest m (by omega)) kc2
 · exact (h.only.more (fun x hx => by rw [List.append_assoc]; exact hx)).trans (q.only.more (fun x hx => by
    rcases List.mem_cons.1 hx with rfl | hx
    · simp
    exact List.mem_cons_of_mem _ (List.mem_append_left _ (List.mem_append_right _ hx))))
 refine ⟨by rw [List.append_assoc]; exact h.mine.nodup, fun x hx => ?_, fun x hx o => ?_⟩
 · simp only [List.mem_cons, List.mem_append] at hx
   rcases hx with h | (h | h | h | h) | h
   · exact q.mine.range x (by simp [h])
   · exact q.mine.range x (by simp [h])
   · exact q.m1.range x h
   · exact q.m2.range x h
   · exact q.m3.range x h
   exact q.mine.range x (by simp [h])
 simp only [List.mem_cons, List.mem_append] at hx
 rcases hx with h | (h | h | h | h) | h
 · exact q.mine.free x (by simp [h]) o
 · exact q.mine.free x (by simp [h]) o
 · exact q.m1.free x h o
 · exact q.m2.free x h o
 · exact q.m3.free x h o
 exact q.mine.free x (by simp [h]) o
def MarkRus (M : Int) (l : List Ru) (v : Value) (bs : List Nat) (w : World) (r : Ending) (w' : World) : Prop := r = .returned (.int .i64 (M + (rusW l : Int))) ∧ RsIs w' v (mkRus M l) bs ∧ OnlyIn w w' bs ∧ Mine w' 0 bs
theorem mark_rus0 (A : Option Addr) (c : Nat) (M : Int) (w : World) : Calls Tryz.prog 15 #[.slice A 0 c, .int .i64 M] w fun e w' => e = .returned (.int .i64 M) ∧ w = w' := by
 go_enter Tryz.func15, Tryz.ntmps15
 go_wp2_with fail
 go_loopw [1, 5] (fun m i wr => m = .int .i64 M ∧ i = .int .i64 0 ∧ w = wr) (fun _ _ _ => 0)
 case atStart => exact ⟨rfl, rfl, rfl⟩
 case round =>
  obtain ⟨rfl, rfl, rfl⟩ := hrel
  go_wp2_with fail
  go_ret
  exact ⟨rfl, rfl⟩
set_option maxRecDepth 100000 in
theorem mark_rus (l : List Ru) (v : Value) (bs : List Nat) (w : World) (M : Int) (hv : RsIs w v l bs) (hmi : Mine w 0 bs) (hM0 : 1 ≤ M) (hM1 : M ≤ 1048576) (hb : rusTot l ≤ 1048576) :
 Calls Tryz.prog 15 #[v, .int .i64 M] w (MarkRus M l v bs w) := by
 obtain ⟨A, c, rfl, hc1, hc2, h3⟩ := hv
 rcases h3 with ⟨rfl, rfl⟩ | ⟨g, o, bs', rfl, hg, rfl, hat⟩
 · refine (mark_rus0 A c M w).mono ?_
   rintro e w' ⟨rfl, rfl⟩
   exact ⟨by simp [rusW], ⟨A, c, rfl, Nat.zero_le _, hc2, Or.inl ⟨rfl, rfl⟩⟩, OnlyIn.refl _ _, hmi⟩
 obtain ⟨m, hm⟩ : ∃ m, m = l.length := ⟨_, rfl⟩
 rw [← hm] at hc1 ⊢
 have HM := zH hm
 have HB1 := zH (show M + (rusW l : Int) ≤ 5242880 by have := rusW_le l; omega)
 have HT := zH hb
 have H0 := zH (rmark_start (M := M) hat hmi)
 have hm0 : m ≤ 1048576 := by have := rusTot_ge l; omega
 clear hm hat hmi hg hb
 go_enter Tryz.func15, Tryz.ntmps15
 go_wp2_with fail
 go_loopw [1, 5] (fun mm i wr => ∃ (k : Nat) (z : Int) (d1 d2 : List Nat), k ≤ m ∧ i = .int .i64 (k : Int) ∧ mm = .int .i64 z ∧ 1 ≤ z ∧ z ≤ 5242880 ∧ Hid (z = M + (rusW (l.take k) : Int)) ∧ Hid (d1 ++ d2 = bs') ∧ Hid (RMarking w wr g o M l k d1 d2)) (fun _ i _ => m - (intOf i).toNat)
 case atStart => exact ⟨0, M, [], bs', Nat.zero_le _, rfl, rfl, hM0, by have := HB1.out; omega, zH (by simp [rusW]), zH rfl, H0⟩
 case round =>
  clear H0
  obtain ⟨k, z, d1, d2, hk, rfl, rfl, hz0, hz1, HZ, HD, HK⟩ := hrel
  by_cases hlt : k < m
  · have hkl : k < l.length := by rw [← HM.out]; exact hlt
    obtain ⟨r, hget⟩ : ∃ r, l[k]? = some r := ⟨_, List.getElem?_eq_getElem hkl⟩
    obtain ⟨v1, v2, u, b1, b2, b3, c2, rfl, htd, R0⟩ := HK.out.open_ hget
    have HSN := zH (rusW_snoc l k r hget)
    have HTK := zH (rusW_take l (k + 1))
    have hzb : z + (ruW r : Int) ≤ 5242880 := by
     have h1 := HZ.out
     have h2 := HSN.out
     have h3 := HTK.out
     have h4 := HB1.out
     omega
    have hwr : ruW r = 4 + (r.vars.length + (r.params.length + 2 * exSizes r.body.args)) := rfl
    have HMT := zH (fun (W : World) (q : Int) (h0 : 1 ≤ q) (h1 : q ≤ 5242880) => mark_text q (by omega) (by omega) W)
    have HMV := zH (fun (W : World) (q : Int) (h0 : 1 ≤ q) (h1 : q ≤ 5242880) (hs : SsIs W v1 r.vars b1) (hm : Mine W 0 b1) => mark_ss r.vars v1 b1 W q hs hm h0 (by omega) (by omega))
    have HMP := zH (fun (W : World) (q : Int) (h0 : 1 ≤ q) (h1 : q ≤ 5242880) (hs : SsIs W v2 r.params b2) (hm : Mine W 0 b2) => mark_ss r.params v2 b2 W q hs hm h0 (by omega) (by omega))
    have HME := zH (fun (W : World) (q : Int) (h0 : 1 ≤ q) (h1 : q ≤ 5242880) (hs : SlIs W u r.body.args b3) (hm : Mine W 0 b3) => mark_exs (exSizes r.body.args) r.body.args u b3 W q (Nat.le_refl _) hs hm h0 (by omega))
    have HST := zH (fun (W : World) => HK.out.step (W := W) (z := z) (v1 := v1) (v2 := v2) (u := u) hget htd HZ.out (mt_size z (by omega) (by omega)) (mt_size (z + 1) (by omega) (by omega)) (mt_size _ (by omega) (by omega)))
    obtain ⟨nv, hnv⟩ : ∃ nv, nv = r.vars.length := ⟨_, rfl⟩
    obtain ⟨np, hnp⟩ : ∃ np, np = r.params.length := ⟨_, rfl⟩
    obtain ⟨ne, hne⟩ : ∃ ne, ne = exSizes r.body.args := ⟨_, rfl⟩
    have hbd : z + 4 + (nv : Int) + (np : Int) + 2 * (ne : Int) ≤ 5242880 := by omega
    rw [hnv, hnp, hne] at hbd
    have HW := zH hwr
    have HR0 := zH R0
    have HBD := zH hbd
    obtain ⟨x0, x1, x2, x3, x4, x5, x6⟩ := id HR0.out.cells
    have ff := HR0.out.mine.free g (by simp) (o + k * 7)
    have hgl := HR0.out.lt
    clear R0 hwr hbd hzb htd hnv hnp hne
    go_wp2_with fail
    go_at_call 31
    refine (HMT.out _ z (by omega) (by omega)).mono ?_
    rintro e w1 ⟨rfl, hb1⟩
    have HR1 := zH (HR0.out.below hb1)
    clear hb1
    clear x0 x1 x2 x3 x4 x5 x6 ff hgl
    obtain ⟨x0, x1, x2, x3, x4, x5, x6⟩ := id HR1.out.cells
    have ff := HR1.out.mine.free g (by simp) (o + k * 7)
    have hgl := HR1.out.lt
    go_wp2_with fail
    go_at_call 31
    refine (HMT.out _ (z + 1) (by omega) (by have := HBD.out; omega)).mono ?_
    rintro e w2 ⟨rfl, hb2⟩
    have HR2 := zH ((HR1.out.put0 (.string (mt z))).below hb2)
    clear hb2
    clear x0 x1 x2 x3 x4 x5 x6 ff hgl
    obtain ⟨x0, x1, x2, x3, x4, x5, x6⟩ := id HR2.out.cells
    have ff := HR2.out.mine.free g (by simp) (o + k * 7 + 1)
    have hgl := HR2.out.lt
    have HP2 := zH (HR2.out.put1 (.string (mt (z + 1))))
    go_wp2_with fail
    go_at_call 32
    refine (HMV.out _ (z + 1 + 1) (by omega) (by have := HBD.out; omega) HP2.out.s1 HP2.out.m1).mono ?_
    rintro e w3 ⟨rfl, hs3, ho3, hm3⟩
    have HR3 := zH (HP2.out.doVars hs3 ho3 hm3)
    obtain ⟨z3, hz3⟩ : ∃ z3, z3 = z + 1 + 1 + (r.vars.length : Int) := ⟨_, rfl⟩
    have HZ3 := zH hz3
    have hz31 : 1 ≤ z3 := by omega
    have hz32 : z3 ≤ 5242880 := by have := HBD.out; omega
    rw [← hz3]
    clear hs3 ho3 hm3 hz3 HP2 HR0 HR1 HR2
    clear x0 x1 x2 x3 x4 x5 x6 ff hgl
    obtain ⟨x0, x1, x2, x3, x4, x5, x6⟩ := id HR3.out.cells
    have ff := HR3.out.mine.free g (by simp) (o + k * 7 + 3)
    have hgl := HR3.out.lt
    go_wp2_with fail
    go_at_call 32
    refine (HMP.out _ z3 hz31 hz32 HR3.out.s2 HR3.out.m2).mono ?_
    rintro e w4 ⟨rfl, hs4, ho4, hm4⟩
    have HR4 := zH (HR3.out.doParams hs4 ho4 hm4)
    obtain ⟨z4, hz4⟩ : ∃ z4, z4 = z3 + (r.params.length : Int) := ⟨_, rfl⟩
    have HZ4 := zH (hz4.trans (by rw [HZ3.out] : z3 + (r.params.length : Int) = z + 1 + 1 + (r.vars.length : Int) + (r.params.length : Int)))
    have hz41 : 1 ≤ z4 := by omega
    have hz42 : z4 + 2 ≤ 5242880 := by have := HBD.out; have := HZ4.out; omega
    rw [← hz4]
    clear hs4 ho4 hm4 hz4 HR3
    clear x0 x1 x2 x3 x4 x5 x6 ff hgl
    obtain ⟨x0, x1, x2, x3, x4, x5, x6⟩ := id HR4.out.cells
    have ff := HR4.out.mine.free g (by simp) (o + k * 7 + 4)
    have hgl := HR4.out.lt
    go_wp2_with fail
    go_at_call 31
    refine (HMT.out _ (z4 + 1) (by omega) (by omega)).mono ?_
    rintro e w5 ⟨rfl, hb5⟩
    have HR5 := zH ((HR4.out.put4 (.int .i64 z4)).below hb5)
    clear hb5 HR4
    clear x0 x1 x2 x3 x4 x5 x6 ff hgl
    obtain ⟨x0, x1, x2, x3, x4, x5, x6⟩ := id HR5.out.cells
    have ff := HR5.out.mine.free g (by simp) (o + k * 7 + 5)
    have hgl := HR5.out.lt
    have HP5 := zH (HR5.out.put5 (.string (mt (z4 + 1))))
    go_wp2_with fail
    go_at_call 33
    refine (HME.out _ (z4 + 1 + 1) (by omega) (by omega) HP5.out.s3 HP5.out.m3).mono ?_
    rintro e w6 ⟨rfl, hs6, ho6, hm6⟩
    have HR6 := zH (HP5.out.doArgs hs6 ho6 hm6)
    obtain ⟨z6, hz6⟩ : ∃ z6, z6 = z4 + 1 + 1 + 2 * (exSizes r.body.args : Int) := ⟨_, rfl⟩
    have HZ6 := zH (show z6 = M + (rusW (l.take (k + 1)) : Int) by
     have h1 := HZ.out
     have h2 := HSN.out
     have h3 := HW.out
     have h4 := HZ4.out
     omega)
    have hz61 : 1 ≤ z6 := by omega
    have hz62 : z6 ≤ 5242880 := by have := HBD.out; have := HZ4.out; omega
    rw [← hz6]
    have HST6 := zH (HST.out w6 (by have h := HR6.out; rw [HZ3.out, HZ4.out] at h; exact h))
    clear hs6 ho6 hm6 hz6 HP5 HR5
    clear x0 x1 x2 x3 x4 x5 x6 ff hgl
    go_wp2_with fail
    go_roundw
    case rel => exact ⟨k + 1, z6, d1 ++ (b1 ++ (b2 ++ b3)), c2, by omega, by go_num, rfl, hz61, hz62, HZ6, zH (by rw [← HD.out]; simp only [List.append_assoc]), HST6⟩
    case measure => simp [intOf]; omega
  have HE := zH (show l.take k = l from List.take_of_length_le (by rw [← HM.out]; omega))
  have HEND := zH (show z = M + (rusW l : Int) by have := HZ.out; rw [HE.out] at this; exact this)
  go_wp2_with fail
  go_ret
  have hk := HK.out
  have hd2 : d2 = [] := by
   have h := hk.todo
   rw [List.drop_eq_nil_of_le (by rw [← HM.out]; omega)] at h
   exact h
  have hd := HD.out
  rw [hd2, List.append_nil] at hd
  have h1 := hk.done
  have h2 := hk.only
  have h3 := hk.mine
  rw [hd2, List.append_nil, hd] at h2 h3
  rw [HE.out, hd] at h1
  refine ⟨by rw [← HEND.out]; rfl, ⟨_, c, by rw [mkRus_len, ← HM.out], by rw [mkRus_len, ← HM.out]; exact hc1, hc2, Or.inr ⟨g, o, bs', rfl, (h3.range g (by simp)).2, rfl, h1⟩⟩, h2, h3⟩
def MarkPr (M : Int) (l : List Ru) (v : Value) (bs : List Nat) (w : World) (r : Ending) (w' : World) : Prop := r = .returned (.int .i64 (M + (rusW l : Int))) ∧ PrIs w' v (mkRus M l) bs ∧ OnlyIn w w' bs ∧ Mine w' 0 bs
theorem mark_pr (l : List Ru) (v : Value) (bs : List Nat) (w : World) (M : Int) (hv : PrIs w v l bs) (hm : Mine w 0 bs) (hM0 : 1 ≤ M) (hM1 : M ≤ 1048576) (hb : rusTot l ≤ 1048576) :
 Calls Tryz.prog 7 #[v, .int .i64 M] w (MarkPr M l v bs w) := by
 obtain ⟨u, rfl, hu⟩ := hv
 obtain ⟨A, c, rfl, -⟩ := id hu
 have HB0 := zH ((Below.refl w.heap.size w).alloc (Nat.le_refl _) (.cells #[.slice A l.length c] 24))
 have HC := zH (mark_rus l _ bs _ M (hu.below HB0.out) (hm.keeps (keeps_below HB0.out bs)) hM0 hM1 hb)
 clear hu hm
 go_enter Tryz.func7, Tryz.ntmps7
 go_wp2_with fail
 go_at_call 15
 refine HC.out.mono ?_
 rintro r w1 ⟨rfl, hs1, ho1, hm1⟩
 have HS1 := zH hs1
 have HO1 := zH ((OnlyIn.of_below HB0.out bs).trans ho1)
 have HM1 := zH hm1
 clear hs1 ho1 hm1
 go_wp2_with fail
 go_ret
 exact ⟨rfl, ⟨_, rfl, HS1.out⟩, HO1.out, HM1.out⟩
theorem mkExs_get : ∀ (l : List Ex) (M : Int) (k : Nat) (e : Ex), l[k]? = some e → (mkExs M l)[k]? = some (mkEx (M + 2 * (exSizes (l.take k) : Int)) e) := by
 intro l
 induction l with
 | nil => intro M k e h; simp at h
 | cons x r ih =>
  intro M k e h
  rw [mkExs]
  cases k with
  | zero =>
   simp at h
   subst h
   simp [exSizes]
  | succ k =>
   rw [List.getElem?_cons_succ, ih _ k e (by simpa using h), List.take_succ_cons, exSizes]
   congr 2
   omega
def HeldEnd (M : Int) (l : List Ex) (w : World) (r : Ending) (w' : World) : Prop := r = .returned (.int .i64 (M + 2 * (exSizes l : Int))) ∧ Below w.heap.size w w'
theorem held_exs (n : Nat) : ∀ (l : List Ex) (v : Value) (bs : List Nat) (w : World) (M : Int), exSizes l ≤ n → SlIs w v (mkExs M l) bs → 1 ≤ M → M + 2 * (exSizes l : Int) ≤ 4398046511104 →
 Calls Tryz.prog 35 #[v, .int .i64 M] w (HeldEnd M l w) := by
 induction n with
 | zero =>
  intro l v bs w M hle hv hM0 hM1
  cases l with
  | cons e r => rw [exSizes] at hle; have := exSize_pos e; omega
  | nil =>
   obtain ⟨A, c, rfl, hc1, hc2, -⟩ := hv
   go_enter Tryz.func35, Tryz.ntmps35
   go_wp2_with fail
   go_loopw [1, 5] (fun m i wr => m = .int .i64 M ∧ i = .int .i64 0 ∧ w = wr) (fun _ _ _ => 0)
   case atStart => exact ⟨rfl, rfl, rfl⟩
   case round =>
    obtain ⟨rfl, rfl, rfl⟩ := hrel
    go_wp2_with fail
    go_ret
    exact ⟨by simp [exSizes], Below.refl _ _⟩
 | succ n ih =>
  intro l v bs w M hle hv hM0 hM1
  obtain ⟨A, c, rfl, hc1, hc2, -⟩ := id hv
  rw [mkExs_len] at hc1 hv ⊢
  obtain ⟨m, hm⟩ : ∃ m, m = l.length := ⟨_, rfl⟩
  rw [← hm] at hc1 hv ⊢
  have HM := zH hm
  have HN := zH hle
  have HIH := zH ih
  have HB1 := zH hM1
  have HV := zH hv
  have hc3 : (m : Int) ≤ 9223372036854775807 := by omega
  clear hm hle ih hv hM1
  go_enter Tryz.func35, Tryz.ntmps35
  go_wp2_with fail
  go_loopw [1, 5] (fun mm i wr => ∃ (k : Nat) (z : Int), k ≤ m ∧ i = .int .i64 (k : Int) ∧ mm = .int .i64 z ∧ 1 ≤ z ∧ z ≤ 4398046511104 ∧ Hid (z = M + 2 * (exSizes (l.take k) : Int)) ∧ Hid (Below w.heap.size w wr)) (fun _ i _ => m - (intOf i).toNat)
  case atStart => exact ⟨0, M, Nat.zero_le _, rfl, rfl, hM0, by have := HB1.out; omega, zH (by simp [exSizes]), zH (Below.refl _ _)⟩
  case round =>
   obtain ⟨k, z, hk, rfl, rfl, hz0, hz1, HZ, HB⟩ := hrel
   by_cases hlt : k < m
   · have hkl : k < l.length := by rw [← HM.out]; exact hlt
     obtain ⟨e, hget⟩ : ∃ e, l[k]? = some e := ⟨_, List.getElem?_eq_getElem hkl⟩
     obtain ⟨g, o, e2, u, b1, rfl, hbl, hget2, -, q0, q1, q2, his, -⟩ := (HV.out.below HB.out).get k (by rw [mkExs_len]; exact hkl)
     rw [mkExs_get l M k e hget, ← HZ.out] at hget2
     obtain rfl := Option.some.inj hget2
     have he : mkEx z e = .mk z (mt (z + 1)) (mkExs (z + 2) e.args) := by cases e; rfl
     rw [he] at q0 q1 his
     obtain ⟨u', eu, -, hu⟩ := his
     obtain rfl : u = u' := by simpa using eu
     have q0' : wr.cell? ⟨g, o + k * 3, none⟩ = some (.int .i64 z) := q0
     have q1' : wr.cell? ⟨g, o + k * 3 + 1, none⟩ = some (.string (mt (z + 1))) := q1
     have HUU := zH (show SlIs wr u (mkExs (z + 2) e.args) b1 from hu)
     have HSN := zH (sizes_snoc2 l k e hget)
     have HTK := zH (sizes_take2 l (k + 1))
     have HES := zH (show exSize e = exSizes e.args + 1 by cases e; rfl)
     have HEM := zH (exSizes_mem (List.mem_of_getElem? hget))
     have hzb : z + 2 * (exSize e : Int) ≤ 4398046511104 := by
      have h1 := HZ.out
      have h2 := HSN.out
      have h3 := HTK.out
      have h4 := HB1.out
      omega
     have HZB := zH hzb
     have hp1 := exSize_pos e
     have HC := zH (fun (W : World) => mark_text (z + 1) (by omega) (by omega) W)
     have HCALL := zH (fun (W : World) (h : Hid (Below wr.heap.size wr W)) => HIH.out e.args _ b1 W (z + 1 + 1) (by have := HES.out; have := HEM.out; have := HN.out; omega) (by rw [show z + 1 + 1 = z + 2 by omega]; exact HUU.out.below h.out) (by omega) (by have := HES.out; have := HZB.out; omega))
     obtain ⟨A1, c1, hus, -, -, -⟩ := id HUU.out
     rw [mkExs_len] at hus
     generalize hS : mt (z + 1) = S at *
     clear hS q0 q1 he hu eu hget hzb hget2
     generalize hq : e.args.length = q at *
     clear hq
     subst hus
     have H3 := zH (And.intro q1' q2)
     have hk0 : 0 ≤ (k : Int) := by omega
     have hkm : (k : Int) < (m : Int) := by omega
     go_wp2_with fail
     go_region_held3 (fun X => X.cell? ⟨g, o + k * 3 + 1, none⟩ = some (.string S) ∧ Hid (Below wr.heap.size wr X))
      (first | exact keep_start q1' | exact keep_step (a := ⟨g, o + k * 3 + 1, none⟩) hbl hb2 (by assumption))
      (first | (go_at_call 31; refine (HC.out _).mono ?_; rintro e w2 ⟨rfl, hb2⟩))
     all_goals
      have hx := ‹_ ∧ Hid (Below wr.heap.size wr w2)›
      have HX := zH (zH hx.2.out)
      have q3 : w2.cell? ⟨g, o + k * 3 + 2, none⟩ = some (.slice A1 q c1) := (hx.2.out.cell (p := ⟨g, o + k * 3 + 2, none⟩) hbl).trans q2
      clear hx
      go_wp2_with fail
      go_at_call 35
      refine (HCALL.out _ HX.out).mono ?_
      rintro r w4 ⟨rfl, hb4⟩
      have HB4 := zH (HB.out.trans ((HX.out.out.trans (hb4.mono HX.out.out.size)).mono HB.out.size))
      obtain ⟨z4, hz4⟩ : ∃ z4, z4 = z + 1 + 1 + 2 * (exSizes e.args : Int) := ⟨_, rfl⟩
      rw [← hz4]
      have HZ4 := zH (show z4 = M + 2 * (exSizes (l.take (k + 1)) : Int) by
       have h1 := HZ.out
       have h2 := HSN.out
       have h3 := HES.out
       omega)
      have hz41 : 1 ≤ z4 := by omega
      have hz42 : z4 ≤ 4398046511104 := by have := HZB.out; have := HES.out; omega
      have hz43 : decide (z4 < 0) = false := by simp; omega
      clear hz4 hb4 q0' q1' q2 q3
      go_wp2_with fail
      go_roundw
      case rel => exact ⟨k + 1, z4, by omega, by go_num, rfl, hz41, hz42, HZ4, HB4⟩
      case measure => simp [intOf]; omega
   have HE := zH (show l.take k = l from List.take_of_length_le (by rw [← HM.out]; omega))
   have HEND := zH (show z = M + 2 * (exSizes l : Int) by have := HZ.out; rw [HE.out] at this; exact this)
   go_wp2_with fail
   go_ret
   exact ⟨by rw [← HEND.out]; rfl, HB.out⟩
end Go.Proofs.YthljhiklpopmgaaGreatDoor
