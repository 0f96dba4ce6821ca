/- The contract of the laws' marks in the memory of bindings. Conditions: the blocks are different and may be written; at most 1048576 values and letters. -/
import Derived.Test.YtegigjnlecpplaaBiSz
import Derived.Test.YtegigjnlecpplaaExMark
namespace Go.Proofs.Ytegigjnlecpplaa
open Go Go.RowKit

/-- The binding that a marked one reads as. -/
def mkBi (M : Int) (r : Bi) : Bi := ⟨mt M, .mk (M + 1) (mt (M + 1 + 1)) (mkExs (M + 1 + 1 + 1) r.val.args)⟩
/-- How many marks a binding takes. -/
def biW (r : Bi) : Nat := 3 + 2 * exSizes r.val.args
def bisW : List Bi → Nat
  | [] => 0
  | r :: l => biW r + bisW l
def mkBis (M : Int) : List Bi → List Bi
  | [] => []
  | r :: l => mkBi M r :: mkBis (M + (biW r : Int)) l
theorem mkBis_len : ∀ (l : List Bi) (M : Int), (mkBis M l).length = l.length := by
  intro l
  induction l with
  | nil => intro M; rfl
  | cons e r ih => intro M; rw [mkBis, List.length_cons, List.length_cons, ih]
theorem bisW_app : ∀ (a b : List Bi), bisW (a ++ b) = bisW a + bisW b := by
  intro a
  induction a with
  | nil => intro b; simp [bisW]
  | cons x r ih => intro b; rw [List.cons_append, bisW, bisW, ih]; omega
theorem bisW_snoc (l : List Bi) (k : Nat) (e : Bi) (h : l[k]? = some e) : bisW (l.take (k + 1)) = bisW (l.take k) + biW e := by
  rw [take_bi l k e h, bisW_app]
  simp [bisW]
theorem bisW_take (l : List Bi) (k : Nat) : bisW (l.take k) ≤ bisW l := by
  have h := bisW_app (l.take k) (l.drop k)
  rw [List.take_append_drop] at h
  omega
theorem mkBis_snoc : ∀ (l : List Bi) (M : Int) (e : Bi), mkBis M (l ++ [e]) = mkBis M l ++ [mkBi (M + (bisW l : Int)) e] := by
  intro l
  induction l with
  | nil => intro M e; simp [mkBis, bisW]
  | cons x r ih =>
    intro M e
    rw [List.cons_append, mkBis, mkBis, ih, List.cons_append, bisW]
    congr 3
    congr 1
    omega
theorem args_totB (e : Ex) : exSizes e.args ≤ exTot e := by
  have h := (tot_size (exSize e)).1 e (Nat.le_refl _)
  have h2 : exSize e = exSizes e.args + 1 := by cases e; rfl
  omega
theorem biW_le (r : Bi) : biW r ≤ 2 * biTot r + 3 := by
  have h := args_totB r.val
  unfold biW biTot
  omega
theorem bisW_le : ∀ l : List Bi, bisW l ≤ 3 * bisTot l := by
  intro l
  induction l with
  | nil => simp [bisW]
  | cons r l ih => rw [bisW, bisTot]; have := biW_le r; omega
theorem BisAt.from_ {w w' : World} {g o : Nat} : ∀ (l : List Bi) (j : Nat) (bs : List Nat), BisAt w g o j l bs → (∀ m, o + j * 4 ≤ m → w'.cell? ⟨g, m, none⟩ = w.cell? ⟨g, m, none⟩) → Keeps w w' bs → BisAt w' g o j l bs := by
  intro l
  induction l with
  | nil => intro j bs h _ _; exact h
  | cons e r ih =>
    intro j bs h hc hk
    obtain ⟨b1, b2, rfl, h1, h2⟩ := h
    exact ⟨b1, b2, rfl, h1.same (fun m hm1 hm2 => hc m (by omega)) ⟨hk.1, fun x hx => hk.2 x (List.mem_append_left _ hx)⟩,
      ih (j + 1) b2 h2 (fun m hm => hc m (by omega)) ⟨hk.1, fun x hx => hk.2 x (List.mem_append_right _ hx)⟩⟩

/-- While one binding is marked: its cells, its argument, and what lies beside it. -/
structure BMid (wr W : World) (g p : Nat) (x0 x1 x2 u : Value) (ds b3 : List Nat) (es : List Ex) : Prop where
  cells : Cells4 W g p x0 x1 x2 u
  rest : ∀ m, m < p ∨ p + 4 ≤ m → W.cell? ⟨g, m, none⟩ = wr.cell? ⟨g, m, none⟩
  only : OnlyIn wr W (g :: b3)
  mine : Mine W 0 (g :: ds)
  s3 : SlIs W u es b3
  m3 : Mine W 0 b3
  apart : (g :: (ds ++ b3)).Nodup
section
variable {wr W W2 : World} {g p : Nat} {x0 x1 x2 u : Value} {ds b3 : List Nat} {es : List Ex}
theorem apart_bi (h : (g :: (ds ++ b3)).Nodup) : g ∉ b3 ∧ ∀ x ∈ g :: ds, x ∉ b3 := by
  simp only [List.nodup_cons, List.nodup_append, List.mem_append, not_or] at h
  obtain ⟨⟨-, g3⟩, -, -, hd⟩ := h
  refine ⟨g3, fun x hx k => ?_⟩
  rcases List.mem_cons.1 hx with rfl | hx
  · exact g3 k
  · exact hd x hx x k rfl
theorem BMid.lt (h : BMid wr W g p x0 x1 x2 u ds b3 es) : g < W.heap.size := (h.mine.range g (by simp)).2
theorem BMid.below (h : BMid wr W g p x0 x1 x2 u ds b3 es) (hb : Below W.heap.size W W2) : BMid wr W2 g p x0 x1 x2 u ds b3 es :=
  ⟨h.cells.of (fun m _ _ => hb.cell (p := ⟨g, m, none⟩) h.lt), fun m hm => (hb.cell (p := ⟨g, m, none⟩) h.lt).trans (h.rest m hm), h.only.trans (OnlyIn.of_below hb _), h.mine.keeps (keeps_below hb _),
    h.s3.below hb, h.m3.keeps (keeps_below hb _), h.apart⟩
theorem BMid.put {y0 y1 y2 : Value} (h : BMid wr W g p x0 x1 x2 u ds b3 es) (q : Nat) (y : Value) (hq1 : p ≤ q) (hq2 : q < p + 4) (hc : Cells4 (W.setCell ⟨g, q, none⟩ y) g p y0 y1 y2 u) :
    BMid wr (W.setCell ⟨g, q, none⟩ y) g p y0 y1 y2 u ds b3 es := by
  obtain ⟨a3, -⟩ := apart_bi h.apart
  have kp : ∀ cs : List Nat, g ∉ cs → Keeps W (W.setCell ⟨g, q, none⟩ y) cs := fun cs hn => keeps_set (fun x hx e => hn (by rw [show g = x from e.symm]; exact hx))
  exact ⟨hc, fun m hm => by rw [set_other _ _ _ _ _ (by omega)]; exact h.rest m hm, h.only.set (by simp) _, h.mine.set _ _, h.s3.keeps (kp _ a3), h.m3.set _ _, h.apart⟩
theorem BMid.put0 (h : BMid wr W g p x0 x1 x2 u ds b3 es) (y : Value) : BMid wr (W.setCell ⟨g, p, none⟩ y) g p y x1 x2 u ds b3 es := by
  obtain ⟨c0, c1, c2, c3⟩ := h.cells
  refine h.put p y (by omega) (by omega) ⟨World.cell?_setCell_same _ _ _ c0, ?_, ?_, ?_⟩ <;> (rw [set_other _ _ _ _ _ (by omega)]; assumption)
theorem BMid.put1 (h : BMid wr W g p x0 x1 x2 u ds b3 es) (y : Value) : BMid wr (W.setCell ⟨g, p + 1, none⟩ y) g p x0 y x2 u ds b3 es := by
  obtain ⟨c0, c1, c2, c3⟩ := h.cells
  refine h.put (p + 1) y (by omega) (by omega) ⟨?_, World.cell?_setCell_same _ _ _ c1, ?_, ?_⟩ <;> (rw [set_other _ _ _ _ _ (by omega)]; assumption)
theorem BMid.put2 (h : BMid wr W g p x0 x1 x2 u ds b3 es) (y : Value) : BMid wr (W.setCell ⟨g, p + 2, none⟩ y) g p x0 x1 y u ds b3 es := by
  obtain ⟨c0, c1, c2, c3⟩ := h.cells
  refine h.put (p + 2) y (by omega) (by omega) ⟨?_, ?_, World.cell?_setCell_same _ _ _ c2, ?_⟩ <;> (rw [set_other _ _ _ _ _ (by omega)]; assumption)
theorem BMid.doArgs (h : BMid wr W g p x0 x1 x2 u ds b3 es) {es' : List Ex} (s3 : SlIs W2 u es' b3) (ho : OnlyIn W W2 b3) (m3 : Mine W2 0 b3) : BMid wr W2 g p x0 x1 x2 u ds b3 es' := by
  obtain ⟨-, a6⟩ := apart_bi h.apart
  have hc : ∀ m, W2.cell? ⟨g, m, none⟩ = W.cell? ⟨g, m, none⟩ := fun m => World.cell?_of_block (w := W) (a := ⟨g, m, none⟩) (ho.block g h.lt (a6 g (by simp)))
  exact ⟨h.cells.of (fun m _ _ => hc m), fun m hm => (hc m).trans (h.rest m hm), h.only.trans (ho.more (fun x hx => List.mem_cons_of_mem _ hx)), h.mine.keeps (ho.keeps a6), s3, m3, h.apart⟩
end

/-- While bindings are marked: what is marked, and what is still to come. -/
structure BMarking (w wr : World) (g o : Nat) (M : Int) (l : List Bi) (k : Nat) (d1 d2 : List Nat) : Prop where
  done : BisAt wr g o 0 (mkBis M (l.take k)) d1
  todo : BisAt wr g o k (l.drop k) d2
  only : OnlyIn w wr (g :: (d1 ++ d2))
  mine : Mine wr 0 (g :: (d1 ++ d2))
theorem bmark_start {w : World} {g o : Nat} {M : Int} {l : List Bi} {bs : List Nat} (h : BisAt w g o 0 l bs) (hm : Mine w 0 (g :: bs)) : BMarking w w g o M l 0 [] bs :=
  ⟨by rw [List.take_zero]; rfl, by rw [List.drop_zero]; exact h, OnlyIn.refl _ _, hm⟩
theorem BMarking.open_ {w wr : World} {g o : Nat} {M : Int} {l : List Bi} {k : Nat} {d1 d2 : List Nat} (h : BMarking w wr g o M l k d1 d2) {r : Bi} (hr : l[k]? = some r) :
    ∃ u b3 c2, d2 = b3 ++ c2 ∧ BisAt wr g o (k + 1) (l.drop (k + 1)) c2 ∧
      BMid wr wr g (o + k * 4) (.string r.name) (.int .i64 r.val.kind) (.string r.val.name) u (d1 ++ c2) b3 r.val.args := by
  have hk : k < l.length := (List.getElem?_eq_some_iff.1 hr).1
  have ht := h.todo
  rw [List.drop_eq_getElem_cons hk, (List.getElem?_eq_some_iff.1 hr).2] at ht
  obtain ⟨c1, c2, rfl, ⟨u, hc, ⟨u', e0, -, ⟨u2, e, -, s3⟩⟩⟩, h2⟩ := ht
  obtain rfl : u = u' := by simpa using e0
  obtain rfl : u = u2 := by simpa using e
  have hm := h.mine
  have hap : (g :: ((d1 ++ c2) ++ c1)).Nodup := by
    have hp : List.Perm (g :: (d1 ++ (c1 ++ c2))) (g :: ((d1 ++ c2) ++ c1)) := by
      refine List.Perm.cons _ ?_
      rw [List.append_assoc d1 c2]
      exact List.Perm.append_left _ List.perm_append_comm
    exact hp.nodup_iff.1 hm.nodup
  have hn := hap
  rw [List.nodup_cons, List.nodup_append] at hn
  obtain ⟨hg0, hds, hbb, -⟩ := hn
  exact ⟨u, c1, c2, rfl, h2, hc, fun _ _ => rfl, OnlyIn.refl _ _,
    hm.sub (fun x hx => by simp only [List.mem_cons, List.mem_append] at hx ⊢; rcases hx with h | h | h <;> simp [h]) (List.nodup_cons.2 ⟨fun hx => hg0 (List.mem_append_left _ hx), hds⟩),
    s3, hm.sub (fun x hx => by simp [hx]) hbb, hap⟩
theorem BMarking.step {w wr W : World} {g o : Nat} {M : Int} {l : List Bi} {k : Nat} {d1 b3 c2 : List Nat} {r : Bi} {u : Value} {z : Int} (h : BMarking w wr g o M l k d1 (b3 ++ c2)) (hr : l[k]? = some r) (htd : BisAt wr g o (k + 1) (l.drop (k + 1)) c2) (hz : z = M + (bisW (l.take k) : Int))
    (hs1 : (mt z).size ≤ 9223372036854775807) (hs3 : (mt (z + 1 + 1)).size ≤ 9223372036854775807)
    (q : BMid wr W g (o + k * 4) (.string (mkBi z r).name) (.int .i64 (mkBi z r).val.kind) (.string (mkBi z r).val.name) u (d1 ++ c2) b3 (mkBi z r).val.args) :
    BMarking w W g o M l (k + 1) (d1 ++ b3) c2 := by
  have hk : k < l.length := (List.getElem?_eq_some_iff.1 hr).1
  have hap := q.apart
  have hap2 := hap
  rw [List.nodup_cons, List.nodup_append, List.nodup_append] at hap2
  obtain ⟨hg0, ⟨hd1, hc2, hdc⟩, hbb, hdis⟩ := hap2
  have gd1 : g ∉ d1 := fun hx => hg0 (by simp [hx])
  have gc2 : g ∉ c2 := fun hx => hg0 (by simp [hx])
  have kd1 : Keeps wr W d1 := q.only.keeps (fun x hx hx2 => by
    rcases List.mem_cons.1 hx2 with rfl | hx2
    · exact gd1 hx
    · exact hdis x (List.mem_append_left _ hx) x hx2 rfl)
  have kc2 : Keeps wr W c2 := q.only.keeps (fun x hx hx2 => by
    rcases List.mem_cons.1 hx2 with rfl | hx2
    · exact gc2 hx
    · exact hdis x (List.mem_append_right _ hx) x hx2 rfl)
  have hlen : (mkBis M (l.take k)).length = k := by rw [mkBis_len, List.length_take]; omega
  refine ⟨?_, ?_, ?_, ?_⟩
  · rw [take_bi l k r hr, mkBis_snoc, ← hz]
    refine BisAt.snoc _ 0 d1 (BisAt.same _ 0 d1 h.done (fun m hm2 => q.rest m (by rw [hlen] at hm2; omega)) kd1) ?_
    rw [hlen, Nat.zero_add]
    exact ⟨u, q.cells, u, rfl, hs1, u, rfl, hs3, q.s3⟩
  · exact BisAt.from_ _ (k + 1) c2 htd (fun m hm2 => q.rest m (by omega)) kc2
  · exact (h.only.more (fun x hx => by rw [List.append_assoc]; exact hx)).trans (q.only.more (fun x hx => by
      rcases List.mem_cons.1 hx with rfl | hx
      · simp
      · exact List.mem_cons_of_mem _ (List.mem_append_left _ (List.mem_append_right _ hx))))
  · refine ⟨by rw [List.append_assoc]; exact h.mine.nodup, fun x hx => ?_, fun x hx o => ?_⟩
    · simp only [List.mem_cons, List.mem_append] at hx
      rcases hx with h | (h | h) | h
      · exact q.mine.range x (by simp [h])
      · exact q.mine.range x (by simp [h])
      · exact q.m3.range x h
      · exact q.mine.range x (by simp [h])
    · simp only [List.mem_cons, List.mem_append] at hx
      rcases hx with h | (h | h) | h
      · exact q.mine.free x (by simp [h]) o
      · exact q.mine.free x (by simp [h]) o
      · exact q.m3.free x h o
      · exact q.mine.free x (by simp [h]) o

def MarkBis (M : Int) (l : List Bi) (v : Value) (bs : List Nat) (w : World) (r : Ending) (w' : World) : Prop := r = .returned (.int .i64 (M + (bisW l : Int))) ∧ BlIs w' v (mkBis M l) bs ∧ OnlyIn w w' bs ∧ Mine w' 0 bs
set_option maxHeartbeats 400000 in
theorem mark_bis0 (A : Option Addr) (c : Nat) (M : Int) (w : World) : Calls Try.prog 30 #[.slice A 0 c, .int .i64 M] w fun e w' => e = .returned (.int .i64 M) ∧ w = w' := by
  go_enter Try.func30, Try.ntmps30
  go_wp2_with fail
  go_loopw [1, 5] (fun m i wr => m = .int .i64 M ∧ i = .int .i64 0 ∧ w = wr) (fun _ _ _ => 0)
  case atStart => exact ⟨rfl, rfl, rfl⟩
  case round =>
    obtain ⟨rfl, rfl, rfl⟩ := hrel
    go_wp2_with fail
    go_ret
    exact ⟨rfl, rfl⟩

set_option maxRecDepth 100000 in
set_option maxHeartbeats 8000000 in
theorem mark_bis (l : List Bi) (v : Value) (bs : List Nat) (w : World) (M : Int) (hv : BlIs w v l bs) (hmi : Mine w 0 bs) (hM0 : 1 ≤ M) (hM1 : M ≤ 4194304) (hb : bisTot l ≤ 1048576) :
    Calls Try.prog 30 #[v, .int .i64 M] w (MarkBis M l v bs w) := by
  obtain ⟨A, c, rfl, hc1, hc2, h3⟩ := hv
  rcases h3 with ⟨rfl, rfl⟩ | ⟨g, o, bs', rfl, hg, rfl, hat⟩
  · refine (mark_bis0 A c M w).mono ?_
    rintro e w' ⟨rfl, rfl⟩
    exact ⟨by simp [bisW], ⟨A, c, rfl, Nat.zero_le _, hc2, Or.inl ⟨rfl, rfl⟩⟩, OnlyIn.refl _ _, hmi⟩
  · obtain ⟨m, hm⟩ : ∃ m, m = l.length := ⟨_, rfl⟩
    rw [← hm] at hc1 ⊢
    have HM := Lib.hid hm
    have HB1 := Lib.hid (show M + (bisW l : Int) ≤ 8388608 by have := bisW_le l; omega)
    have H0 := Lib.hid (bmark_start (M := M) hat hmi)
    have hm0 : m ≤ 1048576 := by have := bisTot_ge l; omega
    clear hm hat hmi hg hb
    go_enter Try.func30, Try.ntmps30
    go_wp2_with fail
    go_loopw [1, 5] (fun mm i wr => ∃ (k : Nat) (z : Int) (d1 d2 : List Nat), k ≤ m ∧ i = .int .i64 (k : Int) ∧ mm = .int .i64 z ∧ 1 ≤ z ∧ z ≤ 8388608 ∧ Hid (z = M + (bisW (l.take k) : Int)) ∧ Hid (d1 ++ d2 = bs') ∧ Hid (BMarking w wr g o M l k d1 d2)) (fun _ i _ => m - (intOf i).toNat)
    case atStart => exact ⟨0, M, [], bs', Nat.zero_le _, rfl, rfl, hM0, by have := HB1.out; omega, Lib.hid (by simp [bisW]), Lib.hid rfl, H0⟩
    case round =>
      clear H0
      obtain ⟨k, z, d1, d2, hk, rfl, rfl, hz0, hz1, HZ, HD, HK⟩ := hrel
      by_cases hlt : k < m
      · have hkl : k < l.length := by rw [← HM.out]; exact hlt
        obtain ⟨r, hget⟩ : ∃ r, l[k]? = some r := ⟨_, List.getElem?_eq_getElem hkl⟩
        obtain ⟨u, b3, c2, rfl, htd, R0⟩ := HK.out.open_ hget
        have HSN := Lib.hid (bisW_snoc l k r hget)
        have HTK := Lib.hid (bisW_take l (k + 1))
        have hzb : z + (biW r : Int) ≤ 8388608 := by
          have h1 := HZ.out
          have h2 := HSN.out
          have h3 := HTK.out
          have h4 := HB1.out
          omega
        have hwr : biW r = 3 + 2 * exSizes r.val.args := rfl
        have HMT := Lib.hid (fun (W : World) (q : Int) (h0 : 1 ≤ q) (h1 : q ≤ 8388608) => mark_text q (by omega) (by omega) W)
        have HME := Lib.hid (fun (W : World) (q : Int) (h0 : 1 ≤ q) (h1 : q ≤ 8388608) (hs : SlIs W u r.val.args b3) (hm : Mine W 0 b3) => mark_exs (exSizes r.val.args) r.val.args u b3 W q (Nat.le_refl _) hs hm h0 (by omega))
        have HST := Lib.hid (fun (W : World) => HK.out.step (W := W) (z := z) (u := u) hget htd HZ.out (mt_size z (by omega) (by omega)) (mt_size _ (by omega) (by omega)))
        obtain ⟨ne, hne⟩ : ∃ ne, ne = exSizes r.val.args := ⟨_, rfl⟩
        have hbd : z + 3 + 2 * (ne : Int) ≤ 8388608 := by omega
        rw [hne] at hbd
        have HW := Lib.hid hwr
        have HR0 := Lib.hid R0
        have HBD := Lib.hid hbd
        obtain ⟨x0, x1, x2, x3⟩ := id HR0.out.cells
        have ff := HR0.out.mine.free g (by simp) (o + k * 4)
        have hgl := HR0.out.lt
        clear R0 hwr hbd hzb htd hne
        go_wp2_with fail
        go_at_call 66
        refine (HMT.out _ z (by omega) (by omega)).mono ?_
        rintro e w1 ⟨rfl, hb1⟩
        have HR1 := Lib.hid (HR0.out.below hb1)
        clear hb1
        clear x0 x1 x2 x3 ff hgl
        obtain ⟨x0, x1, x2, x3⟩ := id HR1.out.cells
        have ff := HR1.out.mine.free g (by simp) (o + k * 4)
        have ff1 := HR1.out.mine.free g (by simp) (o + k * 4 + 1)
        have hgl := HR1.out.lt
        have HP1 := Lib.hid ((HR1.out.put0 (.string (mt z))).put1 (.int .i64 (z + 1)))
        go_wp2_with fail
        go_at_call 66
        refine (HMT.out _ (z + 1 + 1) (by omega) (by have := HBD.out; omega)).mono ?_
        rintro e w2 ⟨rfl, hb2⟩
        have HR2 := Lib.hid (HP1.out.below hb2)
        clear hb2
        clear x0 x1 x2 x3 ff ff1 hgl
        obtain ⟨x0, x1, x2, x3⟩ := id HR2.out.cells
        have ff := HR2.out.mine.free g (by simp) (o + k * 4 + 2)
        have hgl := HR2.out.lt
        have HP2 := Lib.hid (HR2.out.put2 (.string (mt (z + 1 + 1))))
        obtain ⟨A1, q1, c1, rfl⟩ : ∃ A1 q1 c1, u = .slice A1 q1 c1 := by
          obtain ⟨A1, c1, e1, -⟩ := HR2.out.s3
          exact ⟨A1, _, c1, e1⟩
        go_wp2_with fail
        go_at_call 67
        refine (HME.out _ (z + 1 + 1 + 1) (by omega) (by have := HBD.out; omega) HP2.out.s3 HP2.out.m3).mono ?_
        rintro e w6 ⟨rfl, hs6, ho6, hm6⟩
        have HR6 := Lib.hid (HP2.out.doArgs hs6 ho6 hm6)
        obtain ⟨z6, hz6⟩ : ∃ z6, z6 = z + 1 + 1 + 1 + 2 * (exSizes r.val.args : Int) := ⟨_, rfl⟩
        have HZ6 := Lib.hid (show z6 = M + (bisW (l.take (k + 1)) : Int) by
          have h1 := HZ.out
          have h2 := HSN.out
          have h3 := HW.out
          omega)
        have hz61 : 1 ≤ z6 := by omega
        have hz62 : z6 ≤ 8388608 := by have := HBD.out; omega
        rw [← hz6]
        have HST6 := Lib.hid (HST.out w6 HR6.out)
        clear hs6 ho6 hm6 hz6 HP2 HP1 HR0 HR1 HR2
        clear x0 x1 x2 x3 ff hgl
        go_wp2_with fail
        go_roundw
        case rel => exact ⟨k + 1, z6, d1 ++ b3, c2, by omega, by go_num, rfl, hz61, hz62, HZ6, Lib.hid (by rw [← HD.out]; simp only [List.append_assoc]), HST6⟩
        case measure => simp [intOf]; omega
      · have HE := Lib.hid (show l.take k = l from List.take_of_length_le (by rw [← HM.out]; omega))
        have HEND := Lib.hid (show z = M + (bisW l : Int) by have := HZ.out; rw [HE.out] at this; exact this)
        go_wp2_with fail
        go_ret
        have hk := HK.out
        have hd2 : d2 = [] := by
          have h := hk.todo
          rw [List.drop_eq_nil_of_le (by rw [← HM.out]; omega)] at h
          exact h
        have hd := HD.out
        rw [hd2, List.append_nil] at hd
        have h1 := hk.done
        have h2 := hk.only
        have h3 := hk.mine
        rw [hd2, List.append_nil, hd] at h2 h3
        rw [HE.out, hd] at h1
        refine ⟨by rw [← HEND.out]; rfl, ⟨_, c, by rw [mkBis_len, ← HM.out], by rw [mkBis_len, ← HM.out]; exact hc1, hc2, Or.inr ⟨g, o, bs', rfl, (h3.range g (by simp)).2, rfl, h1⟩⟩, h2, h3⟩
end Go.Proofs.Ytegigjnlecpplaa
