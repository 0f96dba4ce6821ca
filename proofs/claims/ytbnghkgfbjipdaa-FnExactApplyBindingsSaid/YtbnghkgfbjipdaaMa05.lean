/- The contract of the laws' marks in the memory of bindings. Conditions: the blocks are different and may be written; at most 1048576 values and letters. The contracts of the laws' size of a slice of strings, a rule and a program. Condition: what is left is at most 1048576. The contracts of the laws' size and copy of a slice of strings. Conditions: as each says. A law of our own for a range over a function whose iterator keeps state in cells of its own: both sides name the blocks that are theirs (footprints). No condition. -/
import Derived.Test.YtbnghkgfbjipdaaMa03
import Derived.Test.YtbnghkgfbjipdaaMa04
import Derived.Test.YtbnghkgfbjipdaaMa02
import Derived.Laws.OwnMore
import Derived.RangeFuncNested
import Derived.RangeFuncBound
import Derived.RangeFuncCalls
import Derived.RangeFuncLeaves
import Derived.Lib.Hide
namespace Go.Proofs.Ytbnghkgfbjipdaa
open Go Go.RowKit

/-- The binding that a marked one reads as. -/
def mkBi (M : Int) (r : Bi) : Bi := ⟨mt M, .mk (M + 1) (mt (M + 1 + 1)) (mkExs (M + 1 + 1 + 1) r.val.args)⟩
/-- How many marks a binding takes. -/
def biW (r : Bi) : Nat := 3 + 2 * exSizes r.val.args
def bisW : List Bi → Nat
  | [] => 0
  | r :: l => biW r + bisW l
def mkBis (M : Int) : List Bi → List Bi
  | [] => []
  | r :: l => mkBi M r :: mkBis (M + (biW r : Int)) l
theorem mkBis_len : ∀ (l : List Bi) (M : Int), (mkBis M l).length = l.length := by
  intro l
  induction l with
  | nil => intro M; rfl
  | cons e r ih => intro M; rw [mkBis, List.length_cons, List.length_cons, ih]
theorem bisW_app : ∀ (a b : List Bi), bisW (a ++ b) = bisW a + bisW b := by
  intro a
  induction a with
  | nil => intro b; simp [bisW]
  | cons x r ih => intro b; rw [List.cons_append, bisW, bisW, ih]; omega
theorem bisW_snoc (l : List Bi) (k : Nat) (e : Bi) (h : l[k]? = some e) : bisW (l.take (k + 1)) = bisW (l.take k) + biW e := by
  rw [take_bi l k e h, bisW_app]
  simp [bisW]
theorem bisW_take (l : List Bi) (k : Nat) : bisW (l.take k) ≤ bisW l := by
  have h := bisW_app (l.take k) (l.drop k)
  rw [List.take_append_drop] at h
  omega
theorem mkBis_snoc : ∀ (l : List Bi) (M : Int) (e : Bi), mkBis M (l ++ [e]) = mkBis M l ++ [mkBi (M + (bisW l : Int)) e] := by
  intro l
  induction l with
  | nil => intro M e; simp [mkBis, bisW]
  | cons x r ih =>
    intro M e
    rw [List.cons_append, mkBis, mkBis, ih, List.cons_append, bisW]
    congr 3
    congr 1
    omega
theorem args_totB (e : Ex) : exSizes e.args ≤ exTot e := by
  have h := (tot_size (exSize e)).1 e (Nat.le_refl _)
  have h2 : exSize e = exSizes e.args + 1 := by cases e; rfl
  omega
theorem biW_le (r : Bi) : biW r ≤ 2 * biTot r + 3 := by
  have h := args_totB r.val
  unfold biW biTot
  omega
theorem bisW_le : ∀ l : List Bi, bisW l ≤ 3 * bisTot l := by
  intro l
  induction l with
  | nil => simp [bisW]
  | cons r l ih => rw [bisW, bisTot]; have := biW_le r; omega
theorem BisAt.from_ {w w' : World} {g o : Nat} : ∀ (l : List Bi) (j : Nat) (bs : List Nat), BisAt w g o j l bs → (∀ m, o + j * 4 ≤ m → w'.cell? ⟨g, m, none⟩ = w.cell? ⟨g, m, none⟩) → Keeps w w' bs → BisAt w' g o j l bs := by
  intro l
  induction l with
  | nil => intro j bs h _ _; exact h
  | cons e r ih =>
    intro j bs h hc hk
    obtain ⟨b1, b2, rfl, h1, h2⟩ := h
    exact ⟨b1, b2, rfl, h1.same (fun m hm1 hm2 => hc m (by omega)) ⟨hk.1, fun x hx => hk.2 x (List.mem_append_left _ hx)⟩,
      ih (j + 1) b2 h2 (fun m hm => hc m (by omega)) ⟨hk.1, fun x hx => hk.2 x (List.mem_append_right _ hx)⟩⟩

/-- While one binding is marked: its cells, its argument, and what lies beside it. -/
structure BMid (wr W : World) (g p : Nat) (x0 x1 x2 u : Value) (ds b3 : List Nat) (es : List Ex) : Prop where
  cells : Cells4 W g p x0 x1 x2 u
  rest : ∀ m, m < p ∨ p + 4 ≤ m → W.cell? ⟨g, m, none⟩ = wr.cell? ⟨g, m, none⟩
  only : OnlyIn wr W (g :: b3)
  mine : Mine W 0 (g :: ds)
  s3 : SlIs W u es b3
  m3 : Mine W 0 b3
  apart : (g :: (ds ++ b3)).Nodup
section
variable {wr W W2 : World} {g p : Nat} {x0 x1 x2 u : Value} {ds b3 : List Nat} {es : List Ex}
theorem apart_bi (h : (g :: (ds ++ b3)).Nodup) : g ∉ b3 ∧ ∀ x ∈ g :: ds, x ∉ b3 := by
  simp only [List.nodup_cons, List.nodup_append, List.mem_append, not_or] at h
  obtain ⟨⟨-, g3⟩, -, -, hd⟩ := h
  refine ⟨g3, fun x hx k => ?_⟩
  rcases List.mem_cons.1 hx with rfl | hx
  · exact g3 k
  · exact hd x hx x k rfl
theorem BMid.lt (h : BMid wr W g p x0 x1 x2 u ds b3 es) : g < W.heap.size := (h.mine.range g (by simp)).2
theorem BMid.below (h : BMid wr W g p x0 x1 x2 u ds b3 es) (hb : Below W.heap.size W W2) : BMid wr W2 g p x0 x1 x2 u ds b3 es :=
  ⟨h.cells.of (fun m _ _ => hb.cell (p := ⟨g, m, none⟩) h.lt), fun m hm => (hb.cell (p := ⟨g, m, none⟩) h.lt).trans (h.rest m hm), h.only.trans (OnlyIn.of_below hb _), h.mine.keeps (keeps_below hb _),
    h.s3.below hb, h.m3.keeps (keeps_below hb _), h.apart⟩
theorem BMid.put {y0 y1 y2 : Value} (h : BMid wr W g p x0 x1 x2 u ds b3 es) (q : Nat) (y : Value) (hq1 : p ≤ q) (hq2 : q < p + 4) (hc : Cells4 (W.setCell ⟨g, q, none⟩ y) g p y0 y1 y2 u) :
    BMid wr (W.setCell ⟨g, q, none⟩ y) g p y0 y1 y2 u ds b3 es := by
  obtain ⟨a3, -⟩ := apart_bi h.apart
  have kp : ∀ cs : List Nat, g ∉ cs → Keeps W (W.setCell ⟨g, q, none⟩ y) cs := fun cs hn => keeps_set (fun x hx e => hn (by rw [show g = x from e.symm]; exact hx))
  exact ⟨hc, fun m hm => by rw [set_other _ _ _ _ _ (by omega)]; exact h.rest m hm, h.only.set (by simp) _, h.mine.set _ _, h.s3.keeps (kp _ a3), h.m3.set _ _, h.apart⟩
theorem BMid.put0 (h : BMid wr W g p x0 x1 x2 u ds b3 es) (y : Value) : BMid wr (W.setCell ⟨g, p, none⟩ y) g p y x1 x2 u ds b3 es := by
  obtain ⟨c0, c1, c2, c3⟩ := h.cells
  refine h.put p y (by omega) (by omega) ⟨World.cell?_setCell_same _ _ _ c0, ?_, ?_, ?_⟩ <;> (rw [set_other _ _ _ _ _ (by omega)]; assumption)
theorem BMid.put1 (h : BMid wr W g p x0 x1 x2 u ds b3 es) (y : Value) : BMid wr (W.setCell ⟨g, p + 1, none⟩ y) g p x0 y x2 u ds b3 es := by
  obtain ⟨c0, c1, c2, c3⟩ := h.cells
  refine h.put (p + 1) y (by omega) (by omega) ⟨?_, World.cell?_setCell_same _ _ _ c1, ?_, ?_⟩ <;> (rw [set_other _ _ _ _ _ (by omega)]; assumption)
theorem BMid.put2 (h : BMid wr W g p x0 x1 x2 u ds b3 es) (y : Value) : BMid wr (W.setCell ⟨g, p + 2, none⟩ y) g p x0 x1 y u ds b3 es := by
  obtain ⟨c0, c1, c2, c3⟩ := h.cells
  refine h.put (p + 2) y (by omega) (by omega) ⟨?_, ?_, World.cell?_setCell_same _ _ _ c2, ?_⟩ <;> (rw [set_other _ _ _ _ _ (by omega)]; assumption)
theorem BMid.doArgs (h : BMid wr W g p x0 x1 x2 u ds b3 es) {es' : List Ex} (s3 : SlIs W2 u es' b3) (ho : OnlyIn W W2 b3) (m3 : Mine W2 0 b3) : BMid wr W2 g p x0 x1 x2 u ds b3 es' := by
  obtain ⟨-, a6⟩ := apart_bi h.apart
  have hc : ∀ m, W2.cell? ⟨g, m, none⟩ = W.cell? ⟨g, m, none⟩ := fun m => World.cell?_of_block (w := W) (a := ⟨g, m, none⟩) (ho.block g h.lt (a6 g (by simp)))
  exact ⟨h.cells.of (fun m _ _ => hc m), fun m hm => (hc m).trans (h.rest m hm), h.only.trans (ho.more (fun x hx => List.mem_cons_of_mem _ hx)), h.mine.keeps (ho.keeps a6), s3, m3, h.apart⟩
end

/-- While bindings are marked: what is marked, and what is still to come. -/
structure BMarking (w wr : World) (g o : Nat) (M : Int) (l : List Bi) (k : Nat) (d1 d2 : List Nat) : Prop where
  done : BisAt wr g o 0 (mkBis M (l.take k)) d1
  todo : BisAt wr g o k (l.drop k) d2
  only : OnlyIn w wr (g :: (d1 ++ d2))
  mine : Mine wr 0 (g :: (d1 ++ d2))
theorem bmark_start {w : World} {g o : Nat} {M : Int} {l : List Bi} {bs : List Nat} (h : BisAt w g o 0 l bs) (hm : Mine w 0 (g :: bs)) : BMarking w w g o M l 0 [] bs :=
  ⟨by rw [List.take_zero]; rfl, by rw [List.drop_zero]; exact h, OnlyIn.refl _ _, hm⟩
theorem BMarking.open_ {w wr : World} {g o : Nat} {M : Int} {l : List Bi} {k : Nat} {d1 d2 : List Nat} (h : BMarking w wr g o M l k d1 d2) {r : Bi} (hr : l[k]? = some r) :
    ∃ u b3 c2, d2 = b3 ++ c2 ∧ BisAt wr g o (k + 1) (l.drop (k + 1)) c2 ∧
      BMid wr wr g (o + k * 4) (.string r.name) (.int .i64 r.val.kind) (.string r.val.name) u (d1 ++ c2) b3 r.val.args := by
  have hk : k < l.length := (List.getElem?_eq_some_iff.1 hr).1
  have ht := h.todo
  rw [List.drop_eq_getElem_cons hk, (List.getElem?_eq_some_iff.1 hr).2] at ht
  obtain ⟨c1, c2, rfl, ⟨u, hc, ⟨u', e0, -, ⟨u2, e, -, s3⟩⟩⟩, h2⟩ := ht
  obtain rfl : u = u' := by simpa using e0
  obtain rfl : u = u2 := by simpa using e
  have hm := h.mine
  have hap : (g :: ((d1 ++ c2) ++ c1)).Nodup := by
    have hp : List.Perm (g :: (d1 ++ (c1 ++ c2))) (g :: ((d1 ++ c2) ++ c1)) := by
      refine List.Perm.cons _ ?_
      rw [List.append_assoc d1 c2]
      exact List.Perm.append_left _ List.perm_append_comm
    exact hp.nodup_iff.1 hm.nodup
  have hn := hap
  rw [List.nodup_cons, List.nodup_append] at hn
  obtain ⟨hg0, hds, hbb, -⟩ := hn
  exact ⟨u, c1, c2, rfl, h2, hc, fun _ _ => rfl, OnlyIn.refl _ _,
    hm.sub (fun x hx => by simp only [List.mem_cons, List.mem_append] at hx ⊢; rcases hx with h | h | h <;> simp [h]) (List.nodup_cons.2 ⟨fun hx => hg0 (List.mem_append_left _ hx), hds⟩),
    s3, hm.sub (fun x hx => by simp [hx]) hbb, hap⟩
theorem BMarking.step {w wr W : World} {g o : Nat} {M : Int} {l : List Bi} {k : Nat} {d1 b3 c2 : List Nat} {r : Bi} {u : Value} {z : Int} (h : BMarking w wr g o M l k d1 (b3 ++ c2)) (hr : l[k]? = some r) (htd : BisAt wr g o (k + 1) (l.drop (k + 1)) c2) (hz : z = M + (bisW (l.take k) : Int))
    (hs1 : (mt z).size ≤ 9223372036854775807) (hs3 : (mt (z + 1 + 1)).size ≤ 9223372036854775807)
    (q : BMid wr W g (o + k * 4) (.string (mkBi z r).name) (.int .i64 (mkBi z r).val.kind) (.string (mkBi z r).val.name) u (d1 ++ c2) b3 (mkBi z r).val.args) :
    BMarking w W g o M l (k + 1) (d1 ++ b3) c2 := by
  have hk : k < l.length := (List.getElem?_eq_some_iff.1 hr).1
  have hap := q.apart
  have hap2 := hap
  rw [List.nodup_cons, List.nodup_append, List.nodup_append] at hap2
  obtain ⟨hg0, ⟨hd1, hc2, hdc⟩, hbb, hdis⟩ := hap2
  have gd1 : g ∉ d1 := fun hx => hg0 (by simp [hx])
  have gc2 : g ∉ c2 := fun hx => hg0 (by simp [hx])
  have kd1 : Keeps wr W d1 := q.only.keeps (fun x hx hx2 => by
    rcases List.mem_cons.1 hx2 with rfl | hx2
    · exact gd1 hx
    · exact hdis x (List.mem_append_left _ hx) x hx2 rfl)
  have kc2 : Keeps wr W c2 := q.only.keeps (fun x hx hx2 => by
    rcases List.mem_cons.1 hx2 with rfl | hx2
    · exact gc2 hx
    · exact hdis x (List.mem_append_right _ hx) x hx2 rfl)
  have hlen : (mkBis M (l.take k)).length = k := by rw [mkBis_len, List.length_take]; omega
  refine ⟨?_, ?_, ?_, ?_⟩
  · rw [take_bi l k r hr, mkBis_snoc, ← hz]
    refine BisAt.snoc _ 0 d1 (BisAt.same _ 0 d1 h.done (fun m hm2 => q.rest m (by rw [hlen] at hm2; omega)) kd1) ?_
    rw [hlen, Nat.zero_add]
    exact ⟨u, q.cells, u, rfl, hs1, u, rfl, hs3, q.s3⟩
  · exact BisAt.from_ _ (k + 1) c2 htd (fun m hm2 => q.rest m (by omega)) kc2
  · exact (h.only.more (fun x hx => by rw [List.append_assoc]; exact hx)).trans (q.only.more (fun x hx => by
      rcases List.mem_cons.1 hx with rfl | hx
      · simp
      · exact List.mem_cons_of_mem _ (List.mem_append_left _ (List.mem_append_right _ hx))))
  · refine ⟨by rw [List.append_assoc]; exact h.mine.nodup, fun x hx => ?_, fun x hx o => ?_⟩
    · simp only [List.mem_cons, List.mem_append] at hx
      rcases hx with h | (h | h) | h
      · exact q.mine.range x (by simp [h])
      · exact q.mine.range x (by simp [h])
      · exact q.m3.range x h
      · exact q.mine.range x (by simp [h])
    · simp only [List.mem_cons, List.mem_append] at hx
      rcases hx with h | (h | h) | h
      · exact q.mine.free x (by simp [h]) o
      · exact q.mine.free x (by simp [h]) o
      · exact q.m3.free x h o
      · exact q.mine.free x (by simp [h]) o

def MarkBis (M : Int) (l : List Bi) (v : Value) (bs : List Nat) (w : World) (r : Ending) (w' : World) : Prop := r = .returned (.int .i64 (M + (bisW l : Int))) ∧ BlIs w' v (mkBis M l) bs ∧ OnlyIn w w' bs ∧ Mine w' 0 bs
set_option maxHeartbeats 400000 in
theorem mark_bis0 (A : Option Addr) (c : Nat) (M : Int) (w : World) : Calls Try.prog 44 #[.slice A 0 c, .int .i64 M] w fun e w' => e = .returned (.int .i64 M) ∧ w = w' := by
  go_enter Try.func44, Try.ntmps44
  go_wp2_with fail
  go_loopw [1, 5] (fun m i wr => m = .int .i64 M ∧ i = .int .i64 0 ∧ w = wr) (fun _ _ _ => 0)
  case atStart => exact ⟨rfl, rfl, rfl⟩
  case round =>
    obtain ⟨rfl, rfl, rfl⟩ := hrel
    go_wp2_with fail
    go_ret
    exact ⟨rfl, rfl⟩

set_option maxRecDepth 100000 in
set_option maxHeartbeats 8000000 in
theorem mark_bis (l : List Bi) (v : Value) (bs : List Nat) (w : World) (M : Int) (hv : BlIs w v l bs) (hmi : Mine w 0 bs) (hM0 : 1 ≤ M) (hM1 : M ≤ 4194304) (hb : bisTot l ≤ 1048576) :
    Calls Try.prog 44 #[v, .int .i64 M] w (MarkBis M l v bs w) := by
  obtain ⟨A, c, rfl, hc1, hc2, h3⟩ := hv
  rcases h3 with ⟨rfl, rfl⟩ | ⟨g, o, bs', rfl, hg, rfl, hat⟩
  · refine (mark_bis0 A c M w).mono ?_
    rintro e w' ⟨rfl, rfl⟩
    exact ⟨by simp [bisW], ⟨A, c, rfl, Nat.zero_le _, hc2, Or.inl ⟨rfl, rfl⟩⟩, OnlyIn.refl _ _, hmi⟩
  · obtain ⟨m, hm⟩ : ∃ m, m = l.length := ⟨_, rfl⟩
    rw [← hm] at hc1 ⊢
    have HM := Lib.hid hm
    have HB1 := Lib.hid (show M + (bisW l : Int) ≤ 8388608 by have := bisW_le l; omega)
    have H0 := Lib.hid (bmark_start (M := M) hat hmi)
    have hm0 : m ≤ 1048576 := by have := bisTot_ge l; omega
    clear hm hat hmi hg hb
    go_enter Try.func44, Try.ntmps44
    go_wp2_with fail
    go_loopw [1, 5] (fun mm i wr => ∃ (k : Nat) (z : Int) (d1 d2 : List Nat), k ≤ m ∧ i = .int .i64 (k : Int) ∧ mm = .int .i64 z ∧ 1 ≤ z ∧ z ≤ 8388608 ∧ Hid (z = M + (bisW (l.take k) : Int)) ∧ Hid (d1 ++ d2 = bs') ∧ Hid (BMarking w wr g o M l k d1 d2)) (fun _ i _ => m - (intOf i).toNat)
    case atStart => exact ⟨0, M, [], bs', Nat.zero_le _, rfl, rfl, hM0, by have := HB1.out; omega, Lib.hid (by simp [bisW]), Lib.hid rfl, H0⟩
    case round =>
      clear H0
      obtain ⟨k, z, d1, d2, hk, rfl, rfl, hz0, hz1, HZ, HD, HK⟩ := hrel
      by_cases hlt : k < m
      · have hkl : k < l.length := by rw [← HM.out]; exact hlt
        obtain ⟨r, hget⟩ : ∃ r, l[k]? = some r := ⟨_, List.getElem?_eq_getElem hkl⟩
        obtain ⟨u, b3, c2, rfl, htd, R0⟩ := HK.out.open_ hget
        have HSN := Lib.hid (bisW_snoc l k r hget)
        have HTK := Lib.hid (bisW_take l (k + 1))
        have hzb : z + (biW r : Int) ≤ 8388608 := by
          have h1 := HZ.out
          have h2 := HSN.out
          have h3 := HTK.out
          have h4 := HB1.out
          omega
        have hwr : biW r = 3 + 2 * exSizes r.val.args := rfl
        have HMT := Lib.hid (fun (W : World) (q : Int) (h0 : 1 ≤ q) (h1 : q ≤ 8388608) => mark_text q (by omega) (by omega) W)
        have HME := Lib.hid (fun (W : World) (q : Int) (h0 : 1 ≤ q) (h1 : q ≤ 8388608) (hs : SlIs W u r.val.args b3) (hm : Mine W 0 b3) => mark_exs (exSizes r.val.args) r.val.args u b3 W q (Nat.le_refl _) hs hm h0 (by omega))
        have HST := Lib.hid (fun (W : World) => HK.out.step (W := W) (z := z) (u := u) hget htd HZ.out (mt_size z (by omega) (by omega)) (mt_size _ (by omega) (by omega)))
        obtain ⟨ne, hne⟩ : ∃ ne, ne = exSizes r.val.args := ⟨_, rfl⟩
        have hbd : z + 3 + 2 * (ne : Int) ≤ 8388608 := by omega
        rw [hne] at hbd
        have HW := Lib.hid hwr
        have HR0 := Lib.hid R0
        have HBD := Lib.hid hbd
        obtain ⟨x0, x1, x2, x3⟩ := id HR0.out.cells
        have ff := HR0.out.mine.free g (by simp) (o + k * 4)
        have hgl := HR0.out.lt
        clear R0 hwr hbd hzb htd hne
        go_wp2_with fail
        go_at_call 87
        refine (HMT.out _ z (by omega) (by omega)).mono ?_
        rintro e w1 ⟨rfl, hb1⟩
        have HR1 := Lib.hid (HR0.out.below hb1)
        clear hb1
        clear x0 x1 x2 x3 ff hgl
        obtain ⟨x0, x1, x2, x3⟩ := id HR1.out.cells
        have ff := HR1.out.mine.free g (by simp) (o + k * 4)
        have ff1 := HR1.out.mine.free g (by simp) (o + k * 4 + 1)
        have hgl := HR1.out.lt
        have HP1 := Lib.hid ((HR1.out.put0 (.string (mt z))).put1 (.int .i64 (z + 1)))
        go_wp2_with fail
        go_at_call 87
        refine (HMT.out _ (z + 1 + 1) (by omega) (by have := HBD.out; omega)).mono ?_
        rintro e w2 ⟨rfl, hb2⟩
        have HR2 := Lib.hid (HP1.out.below hb2)
        clear hb2
        clear x0 x1 x2 x3 ff ff1 hgl
        obtain ⟨x0, x1, x2, x3⟩ := id HR2.out.cells
        have ff := HR2.out.mine.free g (by simp) (o + k * 4 + 2)
        have hgl := HR2.out.lt
        have HP2 := Lib.hid (HR2.out.put2 (.string (mt (z + 1 + 1))))
        obtain ⟨A1, q1, c1, rfl⟩ : ∃ A1 q1 c1, u = .slice A1 q1 c1 := by
          obtain ⟨A1, c1, e1, -⟩ := HR2.out.s3
          exact ⟨A1, _, c1, e1⟩
        go_wp2_with fail
        go_at_call 86
        refine (HME.out _ (z + 1 + 1 + 1) (by omega) (by have := HBD.out; omega) HP2.out.s3 HP2.out.m3).mono ?_
        rintro e w6 ⟨rfl, hs6, ho6, hm6⟩
        have HR6 := Lib.hid (HP2.out.doArgs hs6 ho6 hm6)
        obtain ⟨z6, hz6⟩ : ∃ z6, z6 = z + 1 + 1 + 1 + 2 * (exSizes r.val.args : Int) := ⟨_, rfl⟩
        have HZ6 := Lib.hid (show z6 = M + (bisW (l.take (k + 1)) : Int) by
          have h1 := HZ.out
          have h2 := HSN.out
          have h3 := HW.out
          omega)
        have hz61 : 1 ≤ z6 := by omega
        have hz62 : z6 ≤ 8388608 := by have := HBD.out; omega
        rw [← hz6]
        have HST6 := Lib.hid (HST.out w6 HR6.out)
        clear hs6 ho6 hm6 hz6 HP2 HP1 HR0 HR1 HR2
        clear x0 x1 x2 x3 ff hgl
        go_wp2_with fail
        go_roundw
        case rel => exact ⟨k + 1, z6, d1 ++ b3, c2, by omega, by go_num, rfl, hz61, hz62, HZ6, Lib.hid (by rw [← HD.out]; simp only [List.append_assoc]), HST6⟩
        case measure => simp [intOf]; omega
      · have HE := Lib.hid (show l.take k = l from List.take_of_length_le (by rw [← HM.out]; omega))
        have HEND := Lib.hid (show z = M + (bisW l : Int) by have := HZ.out; rw [HE.out] at this; exact this)
        go_wp2_with fail
        go_ret
        have hk := HK.out
        have hd2 : d2 = [] := by
          have h := hk.todo
          rw [List.drop_eq_nil_of_le (by rw [← HM.out]; omega)] at h
          exact h
        have hd := HD.out
        rw [hd2, List.append_nil] at hd
        have h1 := hk.done
        have h2 := hk.only
        have h3 := hk.mine
        rw [hd2, List.append_nil, hd] at h2 h3
        rw [HE.out, hd] at h1
        refine ⟨by rw [← HEND.out]; rfl, ⟨_, c, by rw [mkBis_len, ← HM.out], by rw [mkBis_len, ← HM.out]; exact hc1, hc2, Or.inr ⟨g, o, bs', rfl, (h3.range g (by simp)).2, rfl, h1⟩⟩, h2, h3⟩
end Go.Proofs.Ytbnghkgfbjipdaa

namespace Go.Proofs.Ytbnghkgfbjipdaa
open Go Go.RowKit

def totN (l : List ByteArray) : Nat := (l.map (·.size)).sum
theorem totN_snoc (l : List ByteArray) (x : ByteArray) : totN (l ++ [x]) = totN l + x.size := by simp [totN]
theorem totN_take (xs : List ByteArray) : ∀ k, totN (xs.take k) ≤ totN xs := by
  induction xs with
  | nil => intro k; simp [totN]
  | cons x r ih =>
    intro k
    cases k with
    | zero => simp [totN]
    | succ k =>
      have := ih k
      simp only [totN, List.take_succ_cons, List.map_cons, List.sum_cons] at this ⊢
      omega
def ssTot (xs : List ByteArray) : Nat := xs.length + totN xs
def ruTot (r : Ru) : Nat := r.name.size + (r.con.size + (ssTot r.vars + (ssTot r.params + exTot r.body)))
def rusTot : List Ru → Nat
  | [] => 0
  | r :: l => ruTot r + 1 + rusTot l
theorem rusTot_ge : ∀ l : List Ru, l.length ≤ rusTot l := by
  intro l
  induction l with
  | nil => simp
  | cons e r ih => rw [rusTot, List.length_cons]; omega
theorem rusTot_app : ∀ (a b : List Ru), rusTot (a ++ b) = rusTot a + rusTot b := by
  intro a
  induction a with
  | nil => intro b; simp [rusTot]
  | cons x r ih => intro b; rw [List.cons_append, rusTot, rusTot, ih]; omega
theorem take_ru (l : List Ru) (k : Nat) (e : Ru) (h : l[k]? = some e) : l.take (k + 1) = l.take k ++ [e] := by
  obtain ⟨h1, h2⟩ := List.getElem?_eq_some_iff.1 h
  rw [List.take_succ_eq_append_getElem h1, h2]
theorem rusTot_snoc (l : List Ru) (k : Nat) (e : Ru) (h : l[k]? = some e) : rusTot (l.take (k + 1)) = rusTot (l.take k) + (ruTot e + 1) := by
  rw [take_ru l k e h, rusTot_app]; simp [rusTot]
theorem rusTot_rest (l : List Ru) (k : Nat) : rusTot (l.take k) + (l.length - k) ≤ rusTot l := by
  have h : rusTot l = rusTot (l.take k) + rusTot (l.drop k) := by rw [← rusTot_app, List.take_append_drop]
  have h2 := rusTot_ge (l.drop k)
  rw [List.length_drop] at h2
  omega
theorem rusTot_mem : ∀ {l : List Ru} {e : Ru}, e ∈ l → ruTot e + 1 ≤ rusTot l := by
  intro l
  induction l with
  | nil => intro e h; cases h
  | cons x r ih =>
    intro e h
    rw [rusTot]
    rcases List.mem_cons.1 h with rfl | h
    · omega
    · have := ih h; omega

/-- A box of seven cells. -/
def Box7 (W : World) (B : Nat) (T : TypeId) (x0 x1 x2 x3 x4 x5 x6 : Value) : Prop := W.heap[B]? = some (.cells #[x0, x1, x2, x3, x4, x5, x6] T (0, 0))
theorem Box7.cells {W : World} {B : Nat} {T : TypeId} {x0 x1 x2 x3 x4 x5 x6 : Value} (h : Box7 W B T x0 x1 x2 x3 x4 x5 x6) :
    W.cell? ⟨B, 0, none⟩ = some x0 ∧ W.cell? ⟨B, 1, none⟩ = some x1 ∧ W.cell? ⟨B, 2, none⟩ = some x2 ∧ W.cell? ⟨B, 3, none⟩ = some x3 ∧ W.cell? ⟨B, 4, none⟩ = some x4 ∧ W.cell? ⟨B, 5, none⟩ = some x5 ∧ W.cell? ⟨B, 6, none⟩ = some x6 := by
  unfold Box7 at h
  refine ⟨?_, ?_, ?_, ?_, ?_, ?_, ?_⟩ <;> (rw [World.cell?, h]; rfl)
theorem Box7.lt {W : World} {B : Nat} {T : TypeId} {x0 x1 x2 x3 x4 x5 x6 : Value} (h : Box7 W B T x0 x1 x2 x3 x4 x5 x6) : B < W.heap.size := (Array.getElem?_eq_some_iff.1 h).1
theorem Box7.thaw {W : World} {B : Nat} {T : TypeId} {x0 x1 x2 x3 x4 x5 x6 : Value} (h : Box7 W B T x0 x1 x2 x3 x4 x5 x6) (j : Nat) : W.frozen? ⟨B, j, none⟩ = false := by
  unfold Box7 at h
  simp [World.frozen?, h]
theorem box7_new {w W : World} {T : TypeId} {x0 x1 x2 x3 x4 x5 x6 : Value} (hb : Below (w.alloc (.cells #[x0, x1, x2, x3, x4, x5, x6] T)).heap.size (w.alloc (.cells #[x0, x1, x2, x3, x4, x5, x6] T)) W) : Box7 W w.heap.size T x0 x1 x2 x3 x4 x5 x6 :=
  (hb.block _ (by simp)).trans (by show (w.heap.push _)[w.heap.size]? = _; simp)
theorem box_low {w W : World} {o : Obj} (hb : Below (w.alloc o).heap.size (w.alloc o) W) : Below w.heap.size w W := ((Below.refl w.heap.size w).alloc (Nat.le_refl _) o).trans (hb.mono (by simp))

end Go.Proofs.Ytbnghkgfbjipdaa

namespace Go.Proofs.Ytbnghkgfbjipdaa
open Go Go.RowKit

def tot (l : List ByteArray) : Nat := (l.map (·.size)).sum
theorem tot_snoc (l : List ByteArray) (x : ByteArray) : tot (l ++ [x]) = tot l + x.size := by simp [tot]
def SzPost (xs : List ByteArray) (w : World) (e : Ending) (w' : World) : Prop :=
  ∃ r : Int, e = .returned (.int .i64 r) ∧ w = w' ∧ (r = -1 ∨ (0 ≤ r ∧ tot xs + xs.length ≤ 1048576))

theorem Try.info9 : (Try.prog.info? 9).map (fun i => (i.zero, i.size, i.bytes)) = some (some (.string ⟨#[]⟩), 1, 16) := by kernel_rfl

theorem take_set {ys : List Value} {xs : List ByteArray} {k : Nat} {x : ByteArray} (hk : k < ys.length) (hx : xs[k]? = some x) (h : ys.take k = (xs.take k).map Value.string) :
    (ys.set k (.string x)).take (k + 1) = (xs.take (k + 1)).map Value.string := by
  have hkx : k < xs.length := (List.getElem?_eq_some_iff.1 hx).1
  have e : xs[k] = x := (List.getElem?_eq_some_iff.1 hx).2
  rw [take_nextS xs k hkx, e, List.map_append, ← h, take_nextS _ k (by rw [List.length_set]; exact hk), List.take_set_of_le (Nat.le_refl _), List.getElem_set_self]
  rfl

/-- What the copy leaves: a new row that holds the strings. -/
def CopyPost (xs : List ByteArray) (w : World) (e : Ending) (w' : World) : Prop :=
  ∃ g, e = .returned (.slice (some ⟨g, 0, none⟩) xs.length xs.length) ∧ w'.ownsRow w.heap.size 9 1 (.slice (some ⟨g, 0, none⟩) xs.length xs.length) xs.length (xs.map Value.string) ∧ Below w.heap.size w w'

end Go.Proofs.Ytbnghkgfbjipdaa

namespace Go.Proofs.Ytbnghkgfbjipdaa
open Go Go.RowKit

/-- From W to W2 only blocks of S may have turned; new ones may have come. -/
structure Fr (S : List Nat) (W W2 : World) : Prop where
  os : W2.os = W.os
  tape : W2.tape = W.tape
  output : W2.output = W.output
  size : W.heap.size ≤ W2.heap.size
  block : ∀ k, k < W.heap.size → k ∉ S → W2.heap[k]? = W.heap[k]?

theorem Fr.refl (S : List Nat) (W : World) : Fr S W W := ⟨rfl, rfl, rfl, Nat.le_refl _, fun _ _ _ => rfl⟩
theorem Fr.trans {S T : List Nat} {A B C : World} (h : Fr S A B) (k : Fr T B C) (hs : ∀ x ∈ T, x ∈ S ∨ A.heap.size ≤ x) : Fr S A C :=
  ⟨k.os.trans h.os, k.tape.trans h.tape, k.output.trans h.output, Nat.le_trans h.size k.size, fun x hx hn => (k.block x (Nat.lt_of_lt_of_le hx h.size) (fun hm => (hs x hm).elim hn (fun h2 => by omega))).trans (h.block x hx hn)⟩
theorem Fr.below {S : List Nat} {W W2 : World} (h : Fr S W W2) {n : Nat} (hS : ∀ x ∈ S, n ≤ x) (hn : n ≤ W.heap.size) : Below n W W2 :=
  ⟨h.os, h.tape, h.output, h.size, fun k hk => h.block k (by omega) (fun hm => by have := hS k hm; omega)⟩
theorem Fr.of_below {S : List Nat} {W W2 : World} (h : Below W.heap.size W W2) : Fr S W W2 := ⟨h.os, h.tape, h.output, h.size, fun k hk _ => h.block k hk⟩
theorem Fr.mono {S T : List Nat} {A B : World} (h : Fr S A B) (hs : ∀ x ∈ S, x ∈ T ∨ A.heap.size ≤ x) : Fr T A B :=
  ⟨h.os, h.tape, h.output, h.size, fun x hx hn => h.block x hx (fun hm => (hs x hm).elim hn (fun h2 => by omega))⟩
theorem Fr.step {S T : List Nat} {A B C : World} (h : Fr S A B) (k : Fr T B C) (hs : ∀ x ∈ T, x ∈ S ∨ A.heap.size ≤ x) : Fr S A C := h.trans k hs
theorem Fr.set {S : List Nat} (W : World) (p : Addr) (u : Value) (hp : p.block ∈ S) : Fr S W (W.setCell p u) :=
  ⟨rfl, rfl, rfl, by simp [World.setCell], fun k _ hn => Below.heap_setCell _ _ _ _ (fun e => hn (e ▸ hp))⟩
theorem Fr.put {S : List Nat} (W : World) (l : Nat) (o : Obj) (hp : l ∈ S) : Fr S W (W.putObj l o) :=
  ⟨rfl, rfl, rfl, by simp, fun k _ hn => World.putObj_heap_other (fun e => hn (e ▸ hp))⟩
theorem Fr.alloc {S : List Nat} (W : World) (o : Obj) : Fr S W (W.alloc o) := Fr.of_below ((Below.refl _ W).alloc (Nat.le_refl _) o)
theorem Fr.grown {S : List Nat} {W W2 : World} {row : Option Nat} (hg : W.grownBy W2 row) (hr : ∀ k, row = some k → k ∈ S) : Fr S W W2 :=
  ⟨hg.os, hg.tape, hg.output, hg.size, fun k hk hn => hg.block k hk (fun e => hn (hr k e.symm))⟩
theorem Fr.drew {S : List Nat} {W W2 : World} (h : Fr S W W2) : Fr S W W2.drew := ⟨h.os, h.tape, h.output, h.size, h.block⟩

/-- What is said of the blocks of a footprint alone. -/
def Foot (I : List Nat → World → Prop) : Prop := ∀ Fp A B, I Fp A → A.heap.size ≤ B.heap.size → (∀ k ∈ Fp, B.heap[k]? = A.heap[k]?) → I Fp B
/-- The iterator may turn its own blocks M and make new ones. -/
def Minds {α : Type} (J : List α → List Nat → World → Prop) : Prop := ∀ pre M M2 A B, J pre M A → Fr M A B → (∀ k ∈ M2, k ∈ M ∨ A.heap.size ≤ k) → J pre M2 B
/-- What a round that goes on keeps for the iterator. -/
def Kept (n₀ : Nat) (M : List Nat) (A B : World) : Prop := Below n₀ A B ∧ ∀ k ∈ M, B.heap[k]? = A.heap[k]?

def SeqF {α : Type} (F : Fence) (n : Nat) (P : Program) (g : Nat) (lb : Array Value) (encs : α → Array Value) (n₀ : Nat) (S Sp : List α → Prop) (N : Nat) (M0 : List Nat) (w : World) : Prop :=
  ∀ (l : Nat) (J Jx : List α → List Nat → World → Prop) (W : World), Below w.heap.size w W → Minds J → Minds Jx →
    (∀ pre x M W1, J pre M W1 → (∀ k ∈ M, k < W1.heap.size) → pre.length < N → YieldAt F (n - 1) P l (encs x) W1 fun e W2 =>
      (e = .returned (.bool true) ∧ J (pre ++ [x]) M W2 ∧ Kept n₀ M W1 W2) ∨ (e = .returned (.bool false) ∧ Jx (pre ++ [x]) M W2 ∧ Kept n₀ M W1 W2)) →
    J [] M0 W →
    CallsIn F n P g (#[.func (.yield l) #[] #[]] ++ lb) W fun e W2 => (∃ v, e = .returned v) ∧ ((∃ xs M, S xs ∧ J xs M W2) ∨ (∃ pre M, Sp pre ∧ Jx pre M W2))

/-- How the body of a round may be left. -/
def framePost {α : Type} (I : List α → List Nat → World → Prop) (Ix : Code → List α → List Nat → World → Prop) (xs : List α) (Fp : List Nat) (W : World) : Exit → Act → World → Prop
  | .normal, _, W2 => ∃ Fp2, Fr Fp W W2 ∧ (∀ k ∈ Fp2, (k ∈ Fp ∨ W.heap.size ≤ k) ∧ k < W2.heap.size) ∧ I xs Fp2 W2
  | .ret, _, W2 => ∃ Fp2, Fr Fp W W2 ∧ (∀ k ∈ Fp2, (k ∈ Fp ∨ W.heap.size ≤ k) ∧ k < W2.heap.size) ∧ Ix .ret xs Fp2 W2
  | .exit id, _, W2 => ∃ Fp2, Fr Fp W W2 ∧ (∀ k ∈ Fp2, (k ∈ Fp ∨ W.heap.size ≤ k) ∧ k < W2.heap.size) ∧ Ix (.exit id) xs Fp2 W2
  | .goto t, _, W2 => ∃ Fp2, Fr Fp W W2 ∧ (∀ k ∈ Fp2, (k ∈ Fp ∨ W.heap.size ≤ k) ∧ k < W2.heap.size) ∧ Ix (.goto t) xs Fp2 W2
  | .panic _, _, _ => False
  | .outgrown, _, _ => False

/-- What the row of a value holds, told of its own block alone. -/
theorem row_on {w w2 : World} {base : Nat} {t : TypeId} {size : Nat} {v : Value} {n : Nat} {xs : List Value} (h : w.ownsRow base t size v n xs) (hk : ∀ k, v.ownBlock = some k → w2.heap[k]? = w.heap[k]?) : w2.ownsRow base t size v n xs := by
  obtain ⟨h1, h2⟩ := h
  refine ⟨h1, ?_⟩
  rcases h2 with h2 | ⟨g, cap, cur, rfl, hb, hg, h3⟩
  · exact Or.inl h2
  · exact Or.inr ⟨g, cap, cur, rfl, hb, (hk g rfl).trans hg, h3⟩
theorem box_on {w w2 : World} {B : Nat} {t : TypeId} {v : Value} (h : Boxed w B t v) (hk : w2.heap[B]? = w.heap[B]?) : Boxed w2 B t v := hk.trans h

variable {F : Fence} {n : Nat} {P : Program}

theorem wpIn_rangeFunc_frame {α : Type} {g : Operand} {ps : Array Tmp} {assign body : Code} {Q : Exit → Act → World → Prop} {a : Act} {w : World}
    (hro : F.round = none) (h1 : 1 ≤ n) {gf : Nat} {lb : Array Value} (hg : a.eval g = .func (.func gf) #[] lb) (hFg : F.fn gf) (eg : ∀ args w, (callFunc gf args).run P w = .ok (.enter gf args) w)
    {encs : α → Array Value} {n₀ : Nat} {S Sp : List α → Prop} {N : Nat} {M0 : List Nat} {w0 : World} (hseq : SeqF F (n - 1) P gf lb encs n₀ S Sp N M0 w0)
    (hb0 : Below w0.heap.size w0 w) (hn0 : n₀ ≤ w.heap.size) (hM0 : ∀ k ∈ M0, n₀ ≤ k ∧ k < w.heap.size) (hps : ∀ x, (encs x).size = ps.size)
    (I : List α → List Nat → World → Prop) (Ix : Code → List α → List Nat → World → Prop) (hI : ∀ xs, Foot (I xs)) (hIx : ∀ c xs, Foot (Ix c xs))
    (Fp0 : List Nat) (hFp0 : ∀ k ∈ Fp0, n₀ ≤ k ∧ k < w.heap.size ∧ k ∉ M0) (h0 : I [] Fp0 w)
    (Ax : List α → α → Act → List Nat → World → Prop) (hAx : ∀ xs x a2, Foot (Ax xs x a2))
    (hassign : ∀ (l : Nat) (pre : List α) (x : α) (Fp : List Nat) (W : World) (K : Act → World → Prop), I pre Fp W → (∀ k ∈ Fp, n₀ ≤ k ∧ k < W.heap.size) → Fr (Fp0 ++ M0) w W →
      (∀ a2 Fp2 W2, Fr Fp W W2 → (∀ k ∈ Fp2, (k ∈ Fp ∨ W.heap.size ≤ k) ∧ k < W2.heap.size) → Ax pre x a2 Fp2 W2 → K a2 W2) →
      assign.wpIn (F.inRound l) (n - 1 - 1) P (Exit.then K (fun _ _ _ => False)) { tmps := (ps.zip (encs x)).foldl (fun t (p, v) => t.setIfInBounds p v) a.tmps, defers := [] } W)
    (hbody : ∀ (l : Nat) (pre : List α) (x : α) (a2 : Act) (Fp : List Nat) (W : World), Ax pre x a2 Fp W → (∀ k ∈ Fp, n₀ ≤ k ∧ k < W.heap.size) → Fr (Fp0 ++ M0) w W → pre.length < N →
      body.wpIn (F.inRound l) (n - 1 - 1) P (framePost I Ix (pre ++ [x]) Fp W) a2 W)
    (hdone : ∀ (D : Nat) (xs : List α) (Fp : List Nat) (W : World), w.heap.size ≤ D → D ∉ Fp → (∀ k ∈ Fp, k < W.heap.size ∧ (k ∈ Fp0 ∨ w.heap.size ≤ k)) → S xs → I xs Fp W → Fr (Fp0 ++ M0) w W → W.heap[D]? = some (.deferred (some [])) → Q .normal { a with defers := { target := .collected D, args := #[] } :: a.defers } W)
    (hstop : ∀ (D : Nat) (c : Code) (pre : List α) (Fp : List Nat) (W : World), w.heap.size ≤ D → D ∉ Fp → (∀ k ∈ Fp, k < W.heap.size ∧ (k ∈ Fp0 ∨ w.heap.size ≤ k)) → Sp pre → Ix c pre Fp W → Fr (Fp0 ++ M0) w W → W.heap[D]? = some (.deferred (some [])) → c.wpIn F n P Q { a with defers := { target := .collected D, args := #[] } :: a.defers } W) :
    (Code.rangeFunc g ps assign body).wpIn F n P Q a w := by
  refine wpIn_rangeFunc fun fn hfn => ?_
  rw [hro]
  obtain ⟨lr, hlr⟩ : ∃ lr : LoopState → Option Code → Loop, ∀ st pe, lr st pe = { state := st, pending := pe, fn, tmps := a.tmps, params := ps, assign, body, defers := w.heap.size } := ⟨_, fun _ _ => rfl⟩
  obtain ⟨X, hX⟩ : ∃ X, X = (w.alloc (.deferred (some []))).alloc (.loop (lr .ready none)) := ⟨_, rfl⟩
  have hsX : X.heap.size = w.heap.size + 2 := by rw [hX]; simp
  have hXl : X.heap[w.heap.size + 1]? = some (.loop (lr .ready none)) := by
    have := World.alloc_heap_new (w.alloc (.deferred (some []))) (.loop (lr .ready none))
    rw [World.size_alloc, ← hX] at this
    exact this
  have hXd : X.heap[w.heap.size]? = some (.deferred (some [])) := by
    rw [hX]; exact (Below.heap_alloc _ _ _ (by simp)).trans (World.alloc_heap_new w _)
  have hwX : Below w.heap.size w X := by
    rw [hX]; exact ((Below.refl _ w).alloc (Nat.le_refl _) _).alloc (by simp) _
  -- what both sides hold to, between two rounds
  let Jn : (List α → List Nat → World → Prop) → (World → Prop) → List α → List Nat → World → Prop := fun G L pre M W =>
    ∃ Fp, G pre Fp W ∧ (∀ k ∈ Fp, n₀ ≤ k ∧ k < W.heap.size ∧ k ∉ M ∧ k ≠ w.heap.size ∧ k ≠ w.heap.size + 1 ∧ (k ∈ Fp0 ∨ w.heap.size ≤ k)) ∧ Fr (Fp0 ++ M0) w W ∧ L W ∧ W.heap[w.heap.size]? = some (.deferred (some [])) ∧ w.heap.size ∉ M ∧ w.heap.size + 1 ∉ M ∧ (∀ k ∈ M, n₀ ≤ k ∧ (k ∈ M0 ∨ w.heap.size ≤ k))
  have hminds : ∀ (G : List α → List Nat → World → Prop) (L : World → Prop), (∀ xs, Foot (G xs)) → (∀ A, L A → w.heap.size + 1 < A.heap.size) → (∀ A B : World, L A → B.heap[w.heap.size + 1]? = A.heap[w.heap.size + 1]? → L B) → Minds (Jn G L) := by
    intro G L hG hL0 hL pre M M2 A B ⟨Fp, h1, h2, h3, h4, h5, h6, h7, h8⟩ hf hm
    have hlt := hL0 A h4
    have hnew : ∀ k, k < A.heap.size → k ∉ M → k ∉ M2 := fun k hk hn hk2 => (hm k hk2).elim hn (fun h => by omega)
    refine ⟨Fp, hG pre Fp A B h1 hf.size (fun k hk => hf.block k (h2 k hk).2.1 (h2 k hk).2.2.1), fun k hk => ?_, h3.trans hf (fun k hk => (h8 k hk).2.imp (fun h => List.mem_append_right _ h) id), hL A B h4 (hf.block _ hlt h7), (hf.block _ (by omega) h6).trans h5, hnew _ (by omega) h6, hnew _ (by omega) h7, fun k hk => ?_⟩
    · obtain ⟨e1, e2, e3, e4, e5⟩ := h2 k hk
      exact ⟨e1, Nat.lt_of_lt_of_le e2 hf.size, hnew k e2 e3, e4, e5⟩
    · rcases hm k hk with h | h
      · exact h8 k h
      · exact ⟨by omega, Or.inr (by omega)⟩
  let L1 : World → Prop := fun W => W.heap[w.heap.size + 1]? = some (.loop (lr .ready none))
  refine ⟨w.heap.size + 1, [{ target := .collected w.heap.size, args := #[] }], X, { target := .fn (.func gf) lb, args := #[.func (.yield (w.heap.size + 1)) #[] #[]] }, X, gf,
    #[.func (.yield (w.heap.size + 1)) #[] #[]] ++ lb, X, ?_, ?_, ?_, ?_, fun _ => h1, ?_⟩
  · rw [hX, hlr]; exact run_enterLoop_outer _ _ _ _ _
  · simp only [resolve, hg]
    simp [go_sem]
  · intro f2 hf2; simp [Target.leads] at hf2; subst hf2; exact hFg
  · simp [invoke, go_sem, eg]
  · refine (hseq (w.heap.size + 1) (Jn I L1)
      (fun pre M W => ∃ c, Jn (Ix c) (fun W => W.heap[w.heap.size + 1]? = some (.loop (lr .done (some c)))) pre M W)
      X (hb0.trans (hwX.mono hb0.size))
      (hminds _ _ hI (fun A h => (Array.getElem?_eq_some_iff.1 h).1) (fun A B h e => e.trans h))
      (fun pre M M2 A B ⟨c, h⟩ hf hm => ⟨c, hminds _ _ (hIx c) (fun A h => (Array.getElem?_eq_some_iff.1 h).1) (fun A B h e => e.trans h) pre M M2 A B h hf hm⟩)
      ?_ ?_).mono ?_
    · -- one round
      rintro pre x M W ⟨Fp, hi, hF, hB, hl, hd, hdM, hlM, hMn⟩ hMs hlen
      have hlt : w.heap.size + 1 < W.heap.size := (Array.getElem?_eq_some_iff.1 hl).1
      have hy := run_yield (P := P) (args := encs x) hl (by rw [hlr]; exact hps x)
      rw [hlr] at hy
      refine ⟨fn, _, assign, body, hy, roundIn_of_wpIn hfn (hassign _ pre x Fp W _ hi (fun k hk => ⟨(hF k hk).1, (hF k hk).2.1⟩) hB ?_)⟩
      intro a2 Fp2 W2 hfr2 hFp2 hax
      have hold2 : ∀ k, k < W.heap.size → k ∉ Fp → k ∉ Fp2 := fun k hk hn h => (hFp2 k h).1.elim hn (fun h => by omega)
      have hlF : w.heap.size + 1 ∉ Fp := fun h => (hF _ h).2.2.2.2.1 rfl
      have hdF : w.heap.size ∉ Fp := fun h => (hF _ h).2.2.2.1 rfl
      have hl2 := (hfr2.block _ hlt hlF).trans hl
      have hd2 := (hfr2.block _ (by omega) hdF).trans hd
      have hlt2 : w.heap.size + 1 < W2.heap.size := Nat.lt_of_lt_of_le hlt hfr2.size
      refine ⟨_, run_beginRound hl2 (by rw [hlr]), ?_⟩
      obtain ⟨W3, hW3⟩ : ∃ W3, W3 = W2.putObj (w.heap.size + 1) (.loop { lr .ready none with state := .busy }) := ⟨_, rfl⟩
      rw [← hW3]
      have hs3 : W3.heap.size = W2.heap.size := by rw [hW3]; simp
      have ho3 : ∀ k, k ≠ w.heap.size + 1 → W3.heap[k]? = W2.heap[k]? := fun k hk => by rw [hW3]; exact World.putObj_heap_other hk
      have hl3 : W3.heap[w.heap.size + 1]? = some (.loop { lr .ready none with state := .busy }) := by rw [hW3]; exact World.putObj_heap_same hlt2
      have hlF2 := hold2 _ hlt hlF
      have hdF2 := hold2 _ (by omega) hdF
      have hFn : ∀ k ∈ Fp2, n₀ ≤ k := fun k hk => (hFp2 k hk).1.elim (fun h => (hF k h).1) (fun h => by omega)
      have hB2 : Fr (Fp0 ++ M0) w W2 := hB.trans hfr2 (fun k hk => (hF k hk).2.2.2.2.2.imp (fun h => List.mem_append_left _ h) id)
      have hB3 : Fr (Fp0 ++ M0) w W3 := hB2.trans (T := [w.heap.size + 1]) (by rw [hW3]; exact Fr.put W2 _ _ (by simp)) (by simp)
      have hFo : ∀ k ∈ Fp2, k ∈ Fp0 ∨ w.heap.size ≤ k := fun k hk => (hFp2 k hk).1.elim (fun h => (hF k h).2.2.2.2.2) (fun h => Or.inr (by omega))
      refine wpIn_mono (hbody _ pre x a2 Fp2 W3 (hAx pre x a2 Fp2 W2 W3 hax (by omega) (fun k hk => ho3 k (fun e => hlF2 (e ▸ hk)))) (fun k hk => ⟨hFn k hk, by rw [hs3]; exact (hFp2 k hk).2⟩) hB3 hlen) ?_
      -- behind the body
      have fin : ∀ (jump : Option Code) (Fp4 : List Nat) (W4 : World), Fr Fp2 W3 W4 → (∀ k ∈ Fp4, (k ∈ Fp2 ∨ W3.heap.size ≤ k) ∧ k < W4.heap.size) →
          (Instr.endRound (w.heap.size + 1) jump).run P W4 = .ok (.bool jump.isNone) (W4.putObj (w.heap.size + 1) (.loop (lr (if jump.isNone then .ready else .done) jump))) ∧
          ∀ G : List α → List Nat → World → Prop, (∀ xs, Foot (G xs)) → G (pre ++ [x]) Fp4 W4 →
            Jn G (fun W => W.heap[w.heap.size + 1]? = some (.loop (lr (if jump.isNone then .ready else .done) jump))) (pre ++ [x]) M (W4.putObj (w.heap.size + 1) (.loop (lr (if jump.isNone then .ready else .done) jump))) ∧
            Kept n₀ M W (W4.putObj (w.heap.size + 1) (.loop (lr (if jump.isNone then .ready else .done) jump))) := by
        intro jump Fp4 W4 hfr4 hFp4
        have hl4 := (hfr4.block _ (by omega) hlF2).trans hl3
        have hd4 := (hfr4.block _ (by omega) hdF2).trans ((ho3 _ (by omega)).trans hd2)
        have hr := run_endRound (P := P) jump hl4
        rw [hlr] at hr ⊢
        have hlt4 : w.heap.size + 1 < W4.heap.size := (Array.getElem?_eq_some_iff.1 hl4).1
        obtain ⟨W5, hW5⟩ : ∃ W5, W5 = W4.putObj (w.heap.size + 1) (.loop (lr (if jump.isNone then .ready else .done) jump)) := ⟨_, rfl⟩
        rw [hlr] at hW5
        have ho5 : ∀ k, k ≠ w.heap.size + 1 → W5.heap[k]? = W4.heap[k]? := fun k hk => by rw [hW5]; exact World.putObj_heap_other hk
        have hs5 : W5.heap.size = W4.heap.size := by rw [hW5]; simp
        have hold4 : ∀ k, k < W3.heap.size → k ∉ Fp2 → k ∉ Fp4 := fun k hk hn h => (hFp4 k h).1.elim hn (fun h => by omega)
        have hs2 := hfr2.size
        have hs4 := hfr4.size
        have hB4 : Below n₀ W3 W4 := hfr4.below hFn (by omega)
        have hB5 : Below n₀ W4 W5 := by rw [hW5]; exact (Fr.put (S := [w.heap.size + 1]) W4 _ _ (by simp)).below (by simp; omega) (by omega)
        refine ⟨hr, ?_⟩
        rw [← hW5]
        intro G hG hg4
        refine ⟨⟨Fp4, hG _ Fp4 W4 W5 hg4 (by omega) (fun k hk => ho5 k (fun e => hold4 _ (by omega) hlF2 (e ▸ hk))), fun k hk => ?_, (hB3.trans hfr4 (fun k hk => (hFo k hk).imp (fun h => List.mem_append_left _ h) id)).trans (T := [w.heap.size + 1]) (by rw [hW5]; exact Fr.put W4 _ _ (by simp)) (by simp), by rw [hW5]; exact World.putObj_heap_same hlt4, (ho5 _ (by omega)).trans hd4, hdM, hlM, hMn⟩, ?_, fun k hk => ?_⟩
        · obtain ⟨e1, e2⟩ := hFp4 k hk
          refine ⟨e1.elim (hFn k) (fun h => by omega), by omega, fun hm => ?_, fun e => hold4 _ (by omega) hdF2 (e ▸ hk), fun e => hold4 _ (by omega) hlF2 (e ▸ hk), e1.elim (hFo k) (fun h => Or.inr (by omega))⟩
          have := hMs k hm
          exact hold4 k (by omega) (hold2 k this (fun h => (hF k h).2.2.1 hm)) hk
        · refine ((hfr2.below (fun k hk => (hF k hk).1) (by omega)).trans ?_).trans (hB4.trans hB5)
          rw [hW3]; exact (Fr.put (S := [w.heap.size + 1]) W2 _ _ (by simp)).below (by simp; omega) (by omega)
        · have hkW := hMs k hk
          have hkl : k ≠ w.heap.size + 1 := fun e => hlM (e ▸ hk)
          have hkF : k ∉ Fp := fun h => (hF k h).2.2.1 hk
          exact (ho5 k hkl).trans ((hfr4.block k (by omega) (hold2 k hkW hkF)).trans ((ho3 k hkl).trans (hfr2.block k hkW hkF)))
      rintro e a4 W4 hp
      cases e with
      | normal =>
        obtain ⟨Fp4, q1, q2, q3⟩ := hp
        obtain ⟨r1, r2⟩ := fin none Fp4 W4 q1 q2
        obtain ⟨r3, r4⟩ := r2 I hI q3
        exact ⟨_, _, r1, .inl ⟨rfl, r3, r4⟩⟩
      | ret =>
        obtain ⟨Fp4, q1, q2, q3⟩ := hp
        obtain ⟨r1, r2⟩ := fin (some .ret) Fp4 W4 q1 q2
        obtain ⟨r3, r4⟩ := r2 (Ix .ret) (hIx _) q3
        exact ⟨_, _, r1, .inr ⟨rfl, ⟨.ret, r3⟩, r4⟩⟩
      | exit id =>
        obtain ⟨Fp4, q1, q2, q3⟩ := hp
        obtain ⟨r1, r2⟩ := fin (some (.exit id)) Fp4 W4 q1 q2
        obtain ⟨r3, r4⟩ := r2 (Ix (.exit id)) (hIx _) q3
        exact ⟨_, _, r1, .inr ⟨rfl, ⟨.exit id, r3⟩, r4⟩⟩
      | goto t =>
        obtain ⟨Fp4, q1, q2, q3⟩ := hp
        obtain ⟨r1, r2⟩ := fin (some (.goto t)) Fp4 W4 q1 q2
        obtain ⟨r3, r4⟩ := r2 (Ix (.goto t)) (hIx _) q3
        exact ⟨_, _, r1, .inr ⟨rfl, ⟨.goto t, r3⟩, r4⟩⟩
      | panic ch => exact hp.elim
      | outgrown => exact hp.elim
    · refine ⟨Fp0, hI [] Fp0 w X h0 hwX.size (fun k hk => hwX.block k (hFp0 k hk).2.1), fun k hk => ?_, Fr.of_below hwX, hXl, hXd, fun h => by have := (hM0 _ h).2; omega, fun h => by have := (hM0 _ h).2; omega, fun k hk => ⟨(hM0 k hk).1, Or.inl hk⟩⟩
      obtain ⟨e1, e2, e3⟩ := hFp0 k hk
      exact ⟨e1, by omega, e3, by omega, by omega, Or.inl hk⟩
    · -- behind the iterator
      have leave : ∀ (G : List α → List Nat → World → Prop) (st : LoopState) (pe : Option Code) (xs : List α) (M : List Nat) (W : World), (∀ xs, Foot (G xs)) → Jn G (fun W => W.heap[w.heap.size + 1]? = some (.loop (lr st pe))) xs M W → st ≠ .busy →
          ∃ Fp W2, (Instr.endLoop (w.heap.size + 1)).run P W = .ok pe W2 ∧ G xs Fp W2 ∧ w.heap.size ∉ Fp ∧ (∀ k ∈ Fp, k < W2.heap.size ∧ (k ∈ Fp0 ∨ w.heap.size ≤ k)) ∧ Fr (Fp0 ++ M0) w W2 ∧ W2.heap[w.heap.size]? = some (.deferred (some [])) := by
        rintro G st pe xs M W hG ⟨Fp, hi, hF, hB, hl, hd, -, -, -⟩ hst
        have hr := run_endLoop (P := P) hl (by rw [hlr]; exact hst)
        have hlt : w.heap.size + 1 < W.heap.size := (Array.getElem?_eq_some_iff.1 hl).1
        refine ⟨Fp, _, by rw [hlr] at hr; exact hr, hG xs Fp W _ hi (by simp) (fun k hk => World.putObj_heap_other (hF k hk).2.2.2.2.1), fun h => (hF _ h).2.2.2.1 rfl, fun k hk => ⟨by simp; exact (hF k hk).2.1, (hF k hk).2.2.2.2.2⟩, hB.trans (T := [w.heap.size + 1]) (Fr.put W _ _ (by simp)) (by simp), (World.putObj_heap_other (by omega)).trans hd⟩
      rintro e W2 ⟨⟨v, rfl⟩, (⟨xs, M, hS, hj⟩ | ⟨pre, M, hSp, c, hj⟩)⟩
      · obtain ⟨Fp, W4, r1, r2, r3, r4, r5, r6⟩ := leave I .ready none xs M W2 hI hj (by simp)
        exact ⟨none, W4, r1, hdone _ xs Fp W4 (Nat.le_refl _) r3 r4 hS r2 r5 r6⟩
      · obtain ⟨Fp, W4, r1, r2, r3, r4, r5, r6⟩ := leave (Ix c) .done (some c) pre M W2 (hIx c) hj (by simp)
        exact ⟨some c, W4, r1, hstop _ c pre Fp W4 (Nat.le_refl _) r3 r4 hSp r2 r5 r6⟩
end Go.Proofs.Ytbnghkgfbjipdaa
