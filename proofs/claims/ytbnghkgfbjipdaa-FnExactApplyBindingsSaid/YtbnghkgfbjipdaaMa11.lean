/- The contract of the model's draw of an expression that may be bent, l3Bent. Condition: the code is at most 1048576 bytes long. The contracts of the model's draws DrawIsValidExpr and DrawIsData. Condition: the code is at most 1048576 bytes long. The contract of the model's copy of an expression, l3Copy. Condition: fewer than 2^40 nodes. The contract of the model's FindBinding. Condition: fewer than 2^40 nodes and bindings. -/
import Derived.Test.YtbnghkgfbjipdaaMa10
import Derived.Test.YtbnghkgfbjipdaaMa01
import Derived.ArgAppend
import Derived.Deep.AppendLies
import Derived.Deep.RegionLaw
import Derived.Test.YtbnghkgfbjipdaaMa09
import Derived.Test.YtbnghkgfbjipdaaMa07
namespace Go.Proofs.Ytbnghkgfbjipdaa
open Go Go.RowKit

/-- The cells of a row of expressions, and that a row of the same cells reads the same. -/
theorem exs_cells {w : World} {g o : Nat} : ∀ (l : List Ex) (j0 : Nat) (bs : List Nat), ExsAt w g o j0 l bs → ∃ olds : List Value, olds.length = l.length * 3 ∧ (∀ j u, olds[j]? = some u → w.cell? ⟨g, o + j0 * 3 + j, none⟩ = some u) ∧
    ∀ (w' : World) (g' o' j' : Nat), (∀ j u, olds[j]? = some u → w'.cell? ⟨g', o' + j' * 3 + j, none⟩ = some u) → Keeps w w' bs → ExsAt w' g' o' j' l bs := by
  intro l
  induction l with
  | nil => intro j0 bs h; rw [ExsAt] at h; exact ⟨[], rfl, (fun j u h => by simp at h), (fun w' g' o' j' _ _ => by rw [ExsAt]; exact h)⟩
  | cons e r ih =>
    intro j0 bs h
    rw [ExsAt] at h
    obtain ⟨b1, b2, rfl, h1, h2⟩ := h
    obtain ⟨u, c0, c1, c2, hi⟩ := h1.is
    obtain ⟨olds, hl, hc, hk⟩ := ih (j0 + 1) b2 h2
    refine ⟨.int .i64 e.kind :: .string e.name :: u :: olds, by simp [hl]; omega, ?_, ?_⟩
    · intro j v hv
      match j with
      | 0 => simp at hv; subst hv; exact c0
      | 1 => simp at hv; subst hv; exact c1
      | 2 => simp at hv; subst hv; exact c2
      | j + 3 =>
        have := hc j v (by simpa using hv)
        rw [show o + j0 * 3 + (j + 3) = o + (j0 + 1) * 3 + j by omega]
        exact this
    · intro w' g' o' j' hw hkp
      rw [ExsAt]
      refine ⟨b1, b2, rfl, ExAt.mk (u := u) (hw 0 _ rfl) (hw 1 _ rfl) (hw 2 _ rfl) (hi.keeps ⟨hkp.1, fun x hx => hkp.2 x (List.mem_append_left _ hx)⟩), hk w' g' o' (j' + 1) (fun j v hv => ?_) ⟨hkp.1, fun x hx => hkp.2 x (List.mem_append_right _ hx)⟩⟩
      have := hw (j + 3) v (by simpa using hv)
      rw [show o' + (j' + 1) * 3 + j = o' + j' * 3 + (j + 3) by omega]
      exact this

def TotE (e : Ex) : Prop := exTot e ≤ 140 ∧ exSize e ≤ 80
def BentPostS (g : Nat) (A : Option Addr) (n cap : Nat) (w : World) (r : Ending) (w' : World) : Prop :=
  ∃ v e bs, r = .returned v ∧ ExF w' v e bs ∧ (∀ x ∈ bs, w.heap.size < x) ∧ TotE e ∧ Cur w' g A n cap ∧ Only g w w'
def BentPost (g : Nat) (A : Option Addr) (n cap : Nat) (w : World) (r : Ending) (w' : World) : Prop :=
  ∃ v e bs, r = .returned v ∧ ExIs w' v e bs ∧ (∀ x ∈ bs, w.heap.size < x) ∧ exTot e ≤ 140 ∧ Cur w' g A n cap ∧ Only g w w'

/-- The draw's box may be written. -/
structure Bt (w : World) (B g : Nat) (A : Option Addr) (zs : List Int) (cap : Nat) (b : Nat) (e : Ex) (u : Value) (bs : List Nat) (W : World) : Prop where
  two : Two w B g A zs cap b e u bs W
  gb : b ≠ g
  wb : w.heap.size < b
  lo : ∀ x ∈ bs, w.heap.size < x ∧ x ≠ b
theorem Bt.no {w : World} {B g : Nat} {A : Option Addr} {zs : List Int} {cap : Nat} {b : Nat} {e : Ex} {u : Value} {bs : List Nat} {W : World} (h : Bt w B g A zs cap b e u bs W) (hgl : g < w.heap.size) : g ∉ bs ∧ w.heap.size ∉ bs ∧ b ∉ bs :=
  ⟨fun hx => by have := (h.lo _ hx).1; omega, fun hx => by have := (h.lo _ hx).1; omega, fun hx => (h.lo _ hx).2 rfl⟩
theorem Bt.call {w : World} {B g : Nat} {A : Option Addr} {zs : List Int} {cap : Nat} {b : Nat} {e : Ex} {u : Value} {bs : List Nat} {W W2 : World} (h : Bt w B g A zs cap b e u bs W) (hg : B ≤ g) (hgl : g < w.heap.size) (hc : Cur W2 g A zs.length cap) (ho : Only g W W2) : Bt w B g A zs cap b e u bs W2 :=
  ⟨h.two.call hg hgl h.gb (h.no hgl).1 hc ho, h.gb, h.wb, h.lo⟩
theorem Bt.alloc {w : World} {B g : Nat} {A : Option Addr} {zs : List Int} {cap : Nat} {b : Nat} {e : Ex} {u : Value} {bs : List Nat} {W : World} (h : Bt w B g A zs cap b e u bs W) (hg : B ≤ g) (o : Obj) : Bt w B g A zs cap b e u bs (W.alloc o) :=
  ⟨h.two.alloc hg o, h.gb, h.wb, h.lo⟩
/-- A cell of the draw's box is written: what stays. -/
theorem Bt.put {w : World} {B g : Nat} {A : Option Addr} {zs : List Int} {cap : Nat} {b : Nat} {e : Ex} {u : Value} {bs : List Nat} {W : World} (h : Bt w B g A zs cap b e u bs W) (hg : B ≤ g) (hgl : g < w.heap.size) (m : Nat) (x : Value) :
    St w B g A zs cap (W.setCell ⟨b, m, none⟩ x) ∧ Keeps W (W.setCell ⟨b, m, none⟩ x) bs ∧ Row (W.setCell ⟨b, m, none⟩ x) b 26 ([.int .i64 e.kind, .string e.name, u].set m x) := by
  have hwb := h.wb
  have hgb := h.gb
  refine ⟨⟨h.two.st.only.setNew (Nat.le_of_lt h.wb) m x, ?_, h.two.st.bytes.below ((Below.refl B W).setCell (by simp; omega) x), ?_⟩, keeps_set (fun y hy => by have := (h.lo y hy).2; simpa using this), ?_⟩
  · obtain ⟨k, y, hk, hr⟩ := h.two.st.cur
    exact ⟨k, y, hk, (Below.heap_setCell W ⟨b, m, none⟩ x g (by simp; omega)).trans hr⟩
  · obtain ⟨q0, q1, q2, hq⟩ := h.two.st.box
    exact ⟨q0, q1, q2, (Below.heap_setCell W ⟨b, m, none⟩ x w.heap.size (by simp; omega)).trans hq⟩
  · have := row_set h.two.part m x
    unfold Row
    rw [this]
    simp [List.setIfInBounds_toArray]
theorem Bt.kind {w : World} {B g : Nat} {A : Option Addr} {zs : List Int} {cap : Nat} {b : Nat} {e : Ex} {u : Value} {bs : List Nat} {W : World} (h : Bt w B g A zs cap b e u bs W) (hg : B ≤ g) (hgl : g < w.heap.size) (k : Int) : Bt w B g A zs cap b (.mk k e.name e.args) u bs (W.setCell ⟨b, 0, none⟩ (.int .i64 k)) := by
  obtain ⟨h1, h2, h3⟩ := h.put hg hgl 0 (.int .i64 k)
  obtain ⟨⟨u', e1, hs, hu⟩, hf⟩ := h.two.is.keeps h2
  simp only [Value.agg.injEq, Array.mk.injEq, List.cons.injEq, and_true, true_and] at e1
  subst e1
  exact ⟨⟨h1, h3, ⟨⟨u, rfl, hs, hu⟩, hf⟩⟩, h.gb, h.wb, h.lo⟩
theorem Bt.name {w : World} {B g : Nat} {A : Option Addr} {zs : List Int} {cap : Nat} {b : Nat} {e : Ex} {u : Value} {bs : List Nat} {W : World} (h : Bt w B g A zs cap b e u bs W) (hg : B ≤ g) (hgl : g < w.heap.size) (y : ByteArray) (hy : y.size ≤ 9223372036854775807) : Bt w B g A zs cap b (.mk e.kind y e.args) u bs (W.setCell ⟨b, 1, none⟩ (.string y)) := by
  obtain ⟨h1, h2, h3⟩ := h.put hg hgl 1 (.string y)
  obtain ⟨⟨u', e1, hs, hu⟩, hf⟩ := h.two.is.keeps h2
  simp only [Value.agg.injEq, Array.mk.injEq, List.cons.injEq, and_true, true_and] at e1
  subst e1
  exact ⟨⟨h1, h3, ⟨⟨u, rfl, hy, hu⟩, hf⟩⟩, h.gb, h.wb, h.lo⟩
theorem Bt.fin {w : World} {B g : Nat} {A : Option Addr} {zs : List Int} {cap : Nat} {b : Nat} {e : Ex} {u : Value} {bs : List Nat} {W : World} (h : Bt w B g A zs cap b e u bs W) (hgl : g < w.heap.size) (ht : TotE e) :
    BentPostS g A zs.length cap w (.returned (.agg #[.int .i64 e.kind, .string e.name, u])) (set3 W w.heap.size (.int .i64 e.kind) (.string e.name) u) := by
  obtain ⟨h1, h2, h3⟩ := h.two.st.fin hgl (.int .i64 e.kind) (.string e.name) u
  exact ⟨_, e, bs, rfl, h.two.is.keeps (h3 bs (h.no hgl).2.1), fun x hx => (h.lo x hx).1, ht, h2, h1⟩

theorem addE (g o k : Nat) : (⟨g, o, none⟩ : Addr).add k = ⟨g, o + k, none⟩ := by
  unfold Addr.add
  split <;> simp_all
theorem olds_of {W : World} {A : Option Addr} {e : Ex} {bs : List Nat} (h : ExIs W (.agg #[.int .i64 e.kind, .string e.name, .slice A e.args.length e.args.length]) e bs) :
    ∃ (olds : List Value) (bs0 : List Nat), olds.length = e.args.length * 3 ∧ (∀ b, A = some b → ∀ j u, olds[j]? = some u → W.cell? (b.add j) = some u) ∧ (A = none → e.args.length = 0 ∧ e.args.length = 0) ∧ (∀ x ∈ bs0, x ∈ bs) ∧
      (∀ (w' : World) (g' : Nat), (∀ j u, olds[j]? = some u → w'.cell? ⟨g', j, none⟩ = some u) → Keeps W w' bs0 → ExsAt w' g' 0 0 e.args bs0) := by
  obtain ⟨u, e1, -, A', c, rfl, -, -, h7⟩ := h
  simp only [Value.agg.injEq, Array.mk.injEq, List.cons.injEq, and_true, true_and, Value.slice.injEq] at e1
  obtain ⟨rfl, rfl⟩ := e1
  rcases h7 with ⟨h0, rfl⟩ | ⟨g0, o0, bs0, rfl, -, rfl, h8⟩
  · rw [h0]
    exact ⟨[], [], rfl, (fun b _ j u h => by simp at h), (fun _ => ⟨rfl, rfl⟩), (fun x hx => hx), (fun w' g' _ _ => by rw [ExsAt])⟩
  · obtain ⟨olds, h1, h2, h3⟩ := exs_cells e.args 0 bs0 h8
    refine ⟨olds, bs0, h1, fun b hb j u hu => ?_, (fun hn => by cases hn), (fun x hx => List.mem_cons_of_mem _ hx), fun w' g' hw hk => h3 w' g' 0 0 (fun j u hu => ?_) hk⟩
    · cases hb
      rw [addE]
      have := h2 j u hu
      rw [Nat.zero_mul, Nat.add_zero] at this
      exact this
    · simpa using hw j u hu
theorem sizes_one (l : List Ex) (x : Ex) : exSizes (l ++ [x]) = exSizes l + exSize x := by
  induction l with
  | nil => simp [exSizes]
  | cons y r ih => rw [List.cons_append, exSizes, exSizes, ih]; omega
theorem tots_one (l : List Ex) (x : Ex) : exTots (l ++ [x]) = exTots l + (exTot x + 1) := by
  induction l with
  | nil => simp [exTots]
  | cons y r ih => rw [List.cons_append, exTots, exTots, ih]; omega
theorem Bt.below {w : World} {B g : Nat} {A : Option Addr} {zs : List Int} {cap : Nat} {b : Nat} {e : Ex} {u : Value} {bs : List Nat} {W W2 : World} (h : Bt w B g A zs cap b e u bs W) (hg : B ≤ g) (hgl : g < w.heap.size) (hb : Below W.heap.size W W2) : Bt w B g A zs cap b e u bs W2 :=
  h.call hg hgl (by
    obtain ⟨k, x, hk, hr⟩ := h.two.st.cur
    exact ⟨k, x, hk, (hb.block g h.two.st.cur.lt).trans hr⟩) ⟨hb.os, hb.tape, hb.output, hb.size, fun i hi _ => hb.block i hi⟩
theorem below_grown {W w7 : World} (hr : W.grownBy w7 none) : Below W.heap.size W w7 := ⟨hr.os, hr.tape, hr.output, hr.size, fun i hi => hr.block i hi (by simp)⟩
theorem row_shape {W : World} {B n k : Nat} {t : TypeId} {v : Value} {l : List Value} (h : W.ownsRow B t k v (n + 1) l) : ∃ g c, v = .slice (some ⟨g, 0, none⟩) (n + 1) c := by
  rcases h.2 with ⟨-, h0⟩ | ⟨g', cap', cur, rfl, -⟩
  · omega
  · exact ⟨g', cap', rfl⟩
theorem q_size : (⟨#[113]⟩ : ByteArray).size ≤ 9223372036854775807 := by decide
theorem Bt.args {w : World} {B g : Nat} {A : Option Addr} {zs : List Int} {cap : Nat} {b : Nat} {e : Ex} {u : Value} {bs bs0 : List Nat} {W w7 : World} {v' : Value} {olds : List Value} (h : Bt w B g A zs cap b e u bs W) (hg : B ≤ g) (hgl : g < w.heap.size)
    (hl : olds.length = e.args.length * 3) (hbs : ∀ x ∈ bs0, x ∈ bs) (hre : ∀ (w' : World) (g' : Nat), (∀ j u, olds[j]? = some u → w'.cell? ⟨g', j, none⟩ = some u) → Keeps W w' bs0 → ExsAt w' g' 0 0 e.args bs0)
    (q : ByteArray) (hq : q.size ≤ 9223372036854775807) (ho : w7.ownsRow W.heap.size 26 3 v' (e.args.length + 1) (olds ++ [.int .i64 1, .string q, .slice none 0 0])) (hr : W.grownBy w7 none) :
    ∃ bs', Bt w B g A zs cap b (.mk e.kind e.name (e.args ++ [.mk 1 q []])) v' bs' (w7.setCell ⟨b, 2, none⟩ v') := by
  have hb : Below W.heap.size W w7 := ⟨hr.os, hr.tape, hr.output, hr.size, fun i hi => hr.block i hi (by simp)⟩
  have hbW := h.two.part.lt
  have h7 := h.below hg hgl hb
  obtain ⟨h1, h2, h3⟩ := h7.put hg hgl 2 v'
  rcases ho.2 with ⟨-, h0⟩ | ⟨g', cap', cur, rfl, hb', hrow, c1, c2, -⟩
  · omega
  · have hg7 : g' < w7.heap.size := (World.ownsRow.lt ho g' rfl).2
    have hgb : g' ≠ b := by omega
    have hcell : ∀ (m : Nat) (j : Nat) (u : Value), (olds ++ [Value.int .i64 1, .string q, .slice none 0 0])[j]? = some u → (w7.setCell ⟨b, 2, none⟩ (.slice (some ⟨g', 0, none⟩) (e.args.length + 1) cap')).cell? ⟨g', j, none⟩ = some u := fun _ j u hu =>
      (World.cell?_setCell_other _ _ _ _ (fun e => hgb (by have := congrArg Addr.block e; simpa using this.symm))).trans (by have := World.ownsRow.cells ho (g := g') rfl j u hu; rw [addE, Nat.zero_add] at this; exact this)
    have hkp : Keeps W (w7.setCell ⟨b, 2, none⟩ (.slice (some ⟨g', 0, none⟩) (e.args.length + 1) cap')) bs0 := keeps_on (keeps_below hb bs0) ⟨h2.1, fun x hx hlt => h2.2 x (hbs x hx) hlt⟩
    have hex := hre _ g' (fun j u hu => hcell 0 j u (by rw [List.getElem?_append_left (List.getElem?_eq_some_iff.1 hu).1]; exact hu)) hkp
    have hlast : ∀ (k : Nat) (u : Value), [Value.int .i64 1, .string q, .slice none 0 0][k]? = some u → (w7.setCell ⟨b, 2, none⟩ (.slice (some ⟨g', 0, none⟩) (e.args.length + 1) cap')).cell? ⟨g', e.args.length * 3 + k, none⟩ = some u := fun k u hu =>
      hcell 0 _ u (by rw [List.getElem?_append_right (by omega), hl, Nat.add_sub_cancel_left]; exact hu)
    have hsn := ExsAt.snoc (e := .mk 1 q []) (b1 := []) e.args 0 bs0 hex (by
      rw [show 0 + (0 + e.args.length) * 3 = e.args.length * 3 by omega]
      exact ExAt.mk (u := .slice none 0 0) (hlast 0 _ rfl) (hlast 1 _ rfl) (hlast 2 _ rfl) (leaf_is _ 1 q hq))
    rw [List.append_nil] at hsn
    refine ⟨g' :: bs0, ⟨⟨h1, h3, ⟨⟨_, rfl, ?_, some ⟨g', 0, none⟩, cap', by simp [Ex.args], by simp [Ex.args]; exact c1, by unfold maxLen at c2; omega, Or.inr ⟨g', 0, bs0, rfl, Nat.lt_of_lt_of_le hg7 h2.1, rfl, hsn⟩⟩, fun x hx o => ?_⟩⟩, h.gb, h.wb, fun x hx => ?_⟩⟩
    · obtain ⟨⟨_, _, hs, _⟩, _⟩ := h.two.is
      exact hs
    · rcases List.mem_cons.1 hx with rfl | hx
      · refine (World.frozen?_of_block (w := w7) (a := ⟨x, o, none⟩) (Below.heap_setCell w7 _ _ x (by simpa using hgb))).trans ?_
        simp [World.frozen?, hrow]
      · exact (World.frozen?_of_block (w := W) (a := ⟨x, o, none⟩) (hkp.2 x hx (h.two.is.lt x (hbs x hx)))).trans (h.two.is.2 x (hbs x hx) o)
    · have hwb := h.wb
      rcases List.mem_cons.1 hx with rfl | hx
      · exact ⟨by omega, hgb⟩
      · exact h.lo x (hbs x hx)

def bents : List ByteArray := [⟨#[83]⟩, ⟨#[102]⟩, ⟨#[]⟩, ⟨#[97, 98, 99, 100, 101, 102, 103]⟩]
theorem bents_size : ∀ x ∈ bents, x.size ≤ 7 := by decide
theorem draw_wide {T g n cap : Nat} {A : Option Addr} {w : World} {r : Ending} {w' : World} (hT : T ≤ 128) (h : DrawPost T g A n cap w r w') : DrawPost 128 g A n cap w r w' := by
  obtain ⟨v, e, bs, h1, h2, h3, h4, h5⟩ := h
  exact ⟨v, e, bs, h1, h2, h3, ⟨by have := h4.1; omega, by have := h4.2; omega⟩, h5⟩
theorem leaf_cells (W : World) : ∀ (j : Nat) (u : Value), [Value.int .i64 1, .string ⟨#[113]⟩, .slice none 0 0][j]? = some u → (W.alloc (.cells #[.int .i64 1, .string ⟨#[113]⟩, .slice none 0 0] 26)).cell? ((⟨W.heap.size, 0, none⟩ : Addr).add j) = some u := fun j u hu => by
  rw [addE, Nat.zero_add]
  exact Row.cell (Row.new W 26 [.int .i64 1, .string ⟨#[113]⟩, .slice none 0 0]) j u hu
theorem leaf_one : ∀ u ∈ [Value.int .i64 1, .string ⟨#[113]⟩, .slice none 0 0], u.oneCell' = true := by intro u hu; simp at hu; rcases hu with rfl | rfl | rfl <;> rfl

set_option maxHeartbeats 4000000 in
theorem bent_sz (B g : Nat) (A : Option Addr) (zs : List Int) (cap : Nat) (w : World) (hs : Bytes w B A zs) (hg : B ≤ g) (hc : Cur w g A zs.length cap) (hn : zs.length ≤ 1048576) :
    Calls Try.prog 54 #[.pointer (some ⟨g, 0, none⟩)] w (BentPostS g A zs.length cap w) := by
  obtain ⟨i0, hi, hz0, hz1, hz2⟩ := info_parts Try.infoEx
  have HI := Lib.hid (And.intro hi (And.intro hz0 (And.intro hz1 hz2)))
  clear hi hz0 hz1 hz2
  have hgl := hc.lt
  have HS0 := Lib.hid (St.start hs hg hc)
  have HN := Lib.hid hn
  have HBL := Lib.hid (fun (lim : Int) (W : World) (h : St w B g A zs cap W) (h0 : 1 ≤ lim) (h1 : lim ≤ 256) => below_small B g A zs cap lim W h.bytes hg h.cur hn h0 h1)
  have HDR := Lib.hid (fun (x : Int) (h0 : 0 ≤ x) (h1 : x < 4) (W : World) (h : St w B g A zs cap W) => show Calls Try.prog 52 #[.pointer (some ⟨g, 0, none⟩), .int .i64 (1 + x)] W (DrawPost 128 g A zs.length cap W) by
    obtain ⟨d, hd⟩ : ∃ d : Nat, 1 + x = (d : Int) := ⟨(1 + x).toNat, by omega⟩
    rw [hd]
    exact (draw_any d (by omega) B g A zs cap W h.bytes hg h.cur hn).mono (fun r w' h => draw_wide (by
      have : 2 ^ d ≤ 2 ^ 4 := Nat.pow_le_pow_right (by decide) (by omega)
      omega) h))
  clear hs hc hn
  go_enter Try.func54, Try.ntmps54
  go_wp2_with fail
  go_at_call 82
  refine (HBL.out 4 _ HS0.out (by decide) (by decide)).mono ?_
  rintro r w1 ⟨x, rfl, x0, x1, hc1, ho1⟩
  have HS1 := Lib.hid (HS0.out.call hg hgl hc1 ho1)
  clear hc1 ho1 HS0
  go_wp2_with fail
  go_at_call 52
  refine (HDR.out x x0 x1 _ HS1.out).mono ?_
  rintro r w2 ⟨_, e, bs, rfl, ⟨A2, rfl, his⟩, hge, ht, hc2, ho2⟩
  have HS2 := Lib.hid (HS1.out.call hg hgl hc2 ho2)
  have HT := Lib.hid (show exTot e ≤ 123 ∧ exSize e ≤ 31 from ⟨by have := ht.1; omega, by have := ht.2; omega⟩)
  have hlt2 := HS2.out.lt
  have HB2 := Lib.hid (show Bt w B g A zs cap w2.heap.size e (.slice A2 e.args.length e.args.length) bs (w2.alloc (.cells #[.int .i64 e.kind, .string e.name, .slice A2 e.args.length e.args.length] 26)) from
    ⟨⟨HS2.out.alloc hg _, Row.new w2 _ [.int .i64 e.kind, .string e.name, .slice A2 e.args.length e.args.length], his.below ((Below.refl _ _).alloc (Nat.le_refl _) _)⟩, by omega, hlt2, fun y hy => ⟨draw_high HS1.out hge y hy, Nat.ne_of_lt (his.lt y hy)⟩⟩)
  clear hc2 ho2 his hge ht HS1 HDR hlt2
  go_wp2_with fail
  go_at_call 82
  refine (HBL.out 10 _ HB2.out.two.st (by decide) (by decide)).mono ?_
  rintro r w3 ⟨y, rfl, y0, y1, hc3, ho3⟩
  have HB3 := Lib.hid (HB2.out.call hg hgl hc3 ho3)
  clear hc3 ho3 HB2 HS2
  rcases (show y = 0 ∨ y = 1 ∨ y = 2 ∨ 3 ≤ y by omega) with rfl | rfl | rfl | h3
  · go_wp2_with fail
    go_at_call 82
    refine (HBL.out 6 _ HB3.out.two.st (by decide) (by decide)).mono ?_
    rintro r w4 ⟨k, rfl, k0, k1, hc4, ho4⟩
    have HB4 := Lib.hid (HB3.out.call hg hgl hc4 ho4)
    clear hc4 ho4 HB3
    obtain ⟨c0, c1, c2, cf⟩ := HB4.out.two.part.facts
    obtain ⟨q0, q1, q2, hq⟩ := HB4.out.two.st.box
    obtain ⟨b0, b1, b2, bf⟩ := hq.facts
    have hbb := HB4.out.wb
    have hbn : w.heap.size ≠ w2.heap.size := by omega
    have hbm : w2.heap.size ≠ w.heap.size := by omega
    go_wp2_with fail
    refine bodyPost_ret (v := .agg #[.int .i64 k, .string e.name, .slice A2 e.args.length e.args.length]) (by simp [results, Try.results54, go_sem, b0, b1, b2]) rfl ?_
    exact Bt.fin (Bt.kind HB4.out hg hgl k) hgl ⟨by have := HT.out.1; cases e; simp [exTot, Ex.name, Ex.args] at *; omega, by have := HT.out.2; cases e; simp [exSize, Ex.args] at *; omega⟩
  · have HPK := Lib.hid (HB3.out.two.st.pick hg HN.out bents (by decide) (by decide))
    have HAL := Lib.hid (HB3.out.alloc hg (.cells (bents.map Value.string).toArray 9))
    go_wp2_with fail
    go_at_call 68
    refine HPK.out.mono ?_
    rintro r w4 ⟨y, hy, rfl, hc4, ho4⟩
    have HY := Lib.hid (bents_size y hy)
    have HB4 := Lib.hid (HAL.out.call hg hgl hc4 ho4)
    clear hc4 ho4 hy HPK HAL HB3
    obtain ⟨c0, c1, c2, cf⟩ := HB4.out.two.part.facts
    obtain ⟨q0, q1, q2, hq⟩ := HB4.out.two.st.box
    obtain ⟨b0, b1, b2, bf⟩ := hq.facts
    have hbb := HB4.out.wb
    have hbn : w.heap.size ≠ w2.heap.size := by omega
    have hbm : w2.heap.size ≠ w.heap.size := by omega
    go_wp2_with fail
    refine bodyPost_ret (v := .agg #[.int .i64 e.kind, .string y, .slice A2 e.args.length e.args.length]) (by simp [results, Try.results54, go_sem, b0, b1, b2]) rfl ?_
    exact Bt.fin (Bt.name HB4.out hg hgl y (by have := HY.out; omega)) hgl ⟨by have := HT.out.1; have := HY.out; cases e; simp [exTot, Ex.name, Ex.args] at *; omega, by have := HT.out.2; cases e; simp [exSize, Ex.args] at *; omega⟩
  · have HB4 := Lib.hid (HB3.out.alloc hg (.cells #[.int .i64 1, .string ⟨#[113]⟩, .slice none 0 0] 26))
    obtain ⟨olds, bs0, o1, o2, o3, o4, o5⟩ := olds_of HB4.out.two.is.1
    have HOL := Lib.hid (And.intro o1 (And.intro o2 (And.intro o3 (And.intro o4 o5))))
    have HLN := Lib.hid (show e.args.length ≤ 123 by have := HT.out.1; have := tots_ge e.args; cases e; simp [exTot, Ex.args] at *; omega)
    have CM := Lib.hid (show e.args.length + 1 ≤ maxLen by unfold maxLen; have := HLN.out; omega)
    have CB := Lib.hid (show (e.args.length + 1) * 48 ≤ 140737488355328 by have := HLN.out; omega)
    have HNW := Lib.hid (leaf_cells w3)
    clear o1 o2 o3 o4 o5
    obtain ⟨c0, c1, c2, cf⟩ := HB3.out.two.part.facts
    obtain ⟨q0, q1, q2, hq⟩ := HB3.out.two.st.box
    obtain ⟨b0, b1, b2, bf⟩ := hq.facts
    have hbb := HB3.out.wb
    have hbn : w.heap.size ≠ w2.heap.size := by omega
    have hbm : w2.heap.size ≠ w.heap.size := by omega
    go_wp2_with (
        at_builtin; (refine wpList_append_grows _ rfl (.tmp 25) (.tmp 27) 24 rfl 26 i0 (.agg #[.int .i64 0, .string ⟨#[]⟩, .slice none 0 0]) 3 48 Try.underlying24 HI.out.1 HI.out.2.1 HI.out.2.2.1 HI.out.2.2.2 rfl (by decide) A2 e.args.length e.args.length olds rfl HOL.out.2.2.1 HOL.out.1 HOL.out.2.1 ⟨w3.heap.size, 0, none⟩ 1 1 [.int .i64 1, .string ⟨#[113]⟩, .slice none 0 0] rfl rfl HNW.out leaf_one (Nat.lt_succ_self _) CM.out CB.out ?_); intro v1 w5 ho5 hg5
        obtain ⟨g5, c5, rfl⟩ := row_shape ho5
        have HB5 := Lib.hid (Bt.below HB4.out hg hgl (below_grown hg5))
        have HA5 := Lib.hid (Bt.args HB4.out hg hgl HOL.out.1 HOL.out.2.2.2.1 HOL.out.2.2.2.2 ⟨#[113]⟩ q_size ho5 hg5)
        clear ho5 hg5 c0 c1 c2 cf b0 b1 b2 bf hq q0 q1 q2
        obtain ⟨c0, c1, c2, cf⟩ := HB5.out.two.part.facts
        obtain ⟨q0, q1, q2, hq⟩ := HB5.out.two.st.box
        obtain ⟨b0, b1, b2, bf⟩ := hq.facts)
    refine bodyPost_ret (v := .agg #[.int .i64 e.kind, .string e.name, .slice (some ⟨g5, 0, none⟩) (e.args.length + 1) c5]) (by simp [results, Try.results54, go_sem, b0, b1, b2]) rfl ?_
    obtain ⟨bs', hA⟩ := HA5.out
    have hf := Bt.fin hA hgl ⟨by have := HT.out.1; cases e; simp [exTot, exTots, tots_one, Ex.name, Ex.args] at *; have h1 : (⟨#[113]⟩ : ByteArray).size = 1 := rfl; omega, by have := HT.out.2; cases e; simp [exSize, exSizes, sizes_one, Ex.args] at *; omega⟩
    exact hf
  · have n0 : y ≠ 0 := by omega
    have n1 : y ≠ 1 := by omega
    have n2 : y ≠ 2 := by omega
    obtain ⟨c0, c1, c2, cf⟩ := HB3.out.two.part.facts
    obtain ⟨q0, q1, q2, hq⟩ := HB3.out.two.st.box
    obtain ⟨b0, b1, b2, bf⟩ := hq.facts
    have hbb := HB3.out.wb
    have hbn : w.heap.size ≠ w2.heap.size := by omega
    have hbm : w2.heap.size ≠ w.heap.size := by omega
    go_wp2_with fail
    refine bodyPost_ret (v := .agg #[.int .i64 e.kind, .string e.name, .slice A2 e.args.length e.args.length]) (by simp [results, Try.results54, go_sem, b0, b1, b2]) rfl ?_
    exact Bt.fin HB3.out hgl ⟨by have := HT.out.1; omega, by have := HT.out.2; omega⟩
theorem bent_any (B g : Nat) (A : Option Addr) (zs : List Int) (cap : Nat) (w : World) (hs : Bytes w B A zs) (hg : B ≤ g) (hc : Cur w g A zs.length cap) (hn : zs.length ≤ 1048576) :
    Calls Try.prog 54 #[.pointer (some ⟨g, 0, none⟩)] w (BentPost g A zs.length cap w) :=
  (bent_sz B g A zs cap w hs hg hc hn).mono fun r w' h => by
    obtain ⟨v, e, bs, h1, h2, h3, h4, h5⟩ := h
    exact ⟨v, e, bs, h1, h2.1, h3, h4.1, h5⟩
end Go.Proofs.Ytbnghkgfbjipdaa

namespace Go.Proofs.Ytbnghkgfbjipdaa
open Go Go.RowKit

/-- What a draw of one expression gives. -/
def DrawXPost (w : World) (r : Ending) (w' : World) : Prop := ∃ v e bs, r = .returned v ∧ ExIs w' v e bs ∧ exTot e ≤ 200 ∧ Below w.heap.size w w'

/-- The expression in its box, and the result's box. -/
structure Ve (w : World) (b : Nat) (e : Ex) (u : Value) (bs : List Nat) (W : World) : Prop where
  low : Below (w.heap.size + 1) (w.alloc (.cells #[.int .i64 0, .string ⟨#[]⟩, .slice none 0 0] 26)) W
  box : Box W b (.int .i64 e.kind) (.string e.name) u
  is : ExIs W (.agg #[.int .i64 e.kind, .string e.name, u]) e bs
  hb : w.heap.size < b
  no : b ∉ bs ∧ w.heap.size ∉ bs
theorem Ve.res {w : World} {b : Nat} {e : Ex} {u : Value} {bs : List Nat} {W : World} (h : Ve w b e u bs W) : Box W w.heap.size (.int .i64 0) (.string ⟨#[]⟩) (.slice none 0 0) :=
  (h.low.block w.heap.size (by omega)).trans (Row.new w 26 [.int .i64 0, .string ⟨#[]⟩, .slice none 0 0])
theorem Ve.only {w : World} {b : Nat} {e : Ex} {u : Value} {bs : List Nat} {W W2 : World} {g : Nat} (h : Ve w b e u bs W) (hg : w.heap.size < g) (hbg : b ≠ g) (hn : g ∉ bs) (ho : Only g W W2) : Ve w b e u bs W2 :=
  ⟨h.low.trans (ho.below hg (Nat.le_trans (by simp) h.low.size)), Row.only h.box ho hbg, h.is.only ho hn, h.hb, h.no⟩
theorem set3_keeps {W : World} {b : Nat} {bs : List Nat} (hb : b ∉ bs) (v0 v1 v2 : Value) : Keeps W (set3 W b v0 v1 v2) bs := by
  have hne : ∀ x ∈ bs, x ≠ b := fun x hx e => hb (by rw [e] at hx; exact hx)
  unfold set3
  exact keeps_on (keeps_on (keeps_set (fun x hx => hne x hx)) (keeps_set (fun x hx => hne x hx))) (keeps_set (fun x hx => hne x hx))
theorem set3_low {B b : Nat} {w W : World} (h : Below B w W) (hb : B ≤ b) (v0 v1 v2 : Value) : Below B w (set3 W b v0 v1 v2) := ((h.setCell hb v0).setCell hb v1).setCell hb v2
theorem set3_box {W : World} {b : Nat} {u0 u1 u2 v0 v1 v2 : Value} (h : Box W b u0 u1 u2) : Box (set3 W b v0 v1 v2) b v0 v1 v2 := by
  unfold Box Row set3 at *
  rw [row_set (row_set (row_set h 0 v0) 1 v1) 2 v2]
  simp
theorem Ve.wrap {w : World} {b : Nat} {e : Ex} {u : Value} {bs : List Nat} {W : World} (h : Ve w b e u bs W) :
    Ve w b (.mk 2 ⟨#[83]⟩ [e]) (.slice (some ⟨W.heap.size, 0, none⟩) 1 1) (W.heap.size :: bs) ((set3 W b (.int .i64 2) (.string ⟨#[83]⟩) (.slice (some ⟨W.heap.size, 0, none⟩) 1 1)).alloc (.cells #[.int .i64 e.kind, .string e.name, u] 26)) := by
  have hW := h.box.lt
  have hr := h.res.lt
  have hb := h.hb
  have hbx := set3_box (v0 := .int .i64 2) (v1 := .string ⟨#[83]⟩) (v2 := .slice (some ⟨W.heap.size, 0, none⟩) 1 1) h.box
  have hlo := set3_low h.low (show w.heap.size + 1 ≤ b by omega) (.int .i64 2) (.string ⟨#[83]⟩) (.slice (some ⟨W.heap.size, 0, none⟩) 1 1)
  have hz : (set3 W b (.int .i64 2) (.string ⟨#[83]⟩) (.slice (some ⟨W.heap.size, 0, none⟩) 1 1)).heap.size = W.heap.size := by simp [set3, World.setCell]
  have hi := h.is.keeps (set3_keeps h.no.1 (.int .i64 2) (.string ⟨#[83]⟩) (.slice (some ⟨W.heap.size, 0, none⟩) 1 1))
  generalize set3 W b (.int .i64 2) (.string ⟨#[83]⟩) (.slice (some ⟨W.heap.size, 0, none⟩) 1 1) = W2 at *
  rw [← hz] at hW hr hbx ⊢
  have hn := one_is (k := 2) (s := ⟨#[83]⟩) (by decide) (Row.new W2 26 [.int .i64 e.kind, .string e.name, u]) (hi.below ((Below.refl _ _).alloc (Nat.le_refl _) _))
  refine ⟨hlo.alloc (Nat.le_trans (by simp) hlo.size) _, Row.alloc hbx _, hn, h.hb, fun hx => ?_, fun hx => ?_⟩
  · rcases List.mem_cons.1 hx with hx | hx
    · omega
    · exact h.no.1 hx
  · rcases List.mem_cons.1 hx with hx | hx
    · omega
    · exact h.no.2 hx
theorem Ve.fin {w : World} {b : Nat} {e : Ex} {u : Value} {bs : List Nat} {W : World} (h : Ve w b e u bs W) (ht : exTot e ≤ 200) : DrawXPost w (.returned (.agg #[.int .i64 e.kind, .string e.name, u])) (set3 W w.heap.size (.int .i64 e.kind) (.string e.name) u) :=
  ⟨_, e, bs, rfl, h.is.keeps (set3_keeps h.no.2 _ _ _), ht, set3_low (((Below.refl w.heap.size w).alloc (Nat.le_refl _) _).trans (h.low.mono (Nat.le_succ _))) (Nat.le_refl _) _ _ _⟩

end Go.Proofs.Ytbnghkgfbjipdaa

namespace Go.Proofs.Ytbnghkgfbjipdaa
open Go Go.RowKit

def Copy2End (e : Ex) (w : World) (r : Ending) (w' : World) : Prop := ∃ v bs, r = .returned v ∧ ExF w' v e bs ∧ (∀ x ∈ bs, w.heap.size ≤ x) ∧ Below w.heap.size w w'

/-- The copy under way: l is copied. -/
structure Cp (w : World) (e : Ex) (u : Value) (l : List Ex) (ov : Value) (ys : List Value) (bs : List Nat) (W : World) : Prop where
  low : Below w.heap.size w W
  arg : Box W w.heap.size (.int .i64 e.kind) (.string e.name) u
  res : Box W (w.heap.size + 1) (.int .i64 0) (.string ⟨#[]⟩) (.slice none 0 0)
  out : Box W (w.heap.size + 1 + 1) (.int .i64 e.kind) (.string e.name) ov
  own : W.ownsRow (w.heap.size + 3) 26 3 ov l.length ys
  reads : ∀ (w' : World) (g' : Nat), (∀ j v, ys[j]? = some v → w'.cell? ⟨g', j, none⟩ = some v) → Keeps W w' bs → ExsAt w' g' 0 0 l bs
  lo : ∀ x ∈ bs, w.heap.size + 3 ≤ x ∧ x < W.heap.size
  sep : ∀ k, ov.ownBlock = some k → k ∉ bs
  free : ∀ x ∈ bs, ∀ o, W.frozen? ⟨x, o, none⟩ = false
theorem Cp.below {w : World} {e : Ex} {u ov : Value} {l : List Ex} {ys : List Value} {bs : List Nat} {W W2 : World} (h : Cp w e u l ov ys bs W) (hb : Below W.heap.size W W2) : Cp w e u l ov ys bs W2 where
  low := h.low.trans (hb.mono h.low.size)
  arg := (hb.block _ h.arg.lt).trans h.arg
  res := (hb.block _ h.res.lt).trans h.res
  out := (hb.block _ h.out.lt).trans h.out
  own := h.own.kept (row := none) ⟨hb.os, hb.tape, hb.output, hb.size, fun k hk _ => hb.block k hk⟩ (by cases ov.ownBlock <;> simp)
  reads := fun w' g' hw hk => h.reads w' g' hw (keeps_on (keeps_below hb bs) hk)
  lo := fun x hx => ⟨(h.lo x hx).1, Nat.lt_of_lt_of_le (h.lo x hx).2 hb.size⟩
  sep := h.sep
  free := fun x hx o => (World.frozen?_of_block (w := W) (a := ⟨x, o, none⟩) (hb.block x (h.lo x hx).2)).trans (h.free x hx o)
theorem Cp.big {w : World} {e : Ex} {u ov : Value} {l : List Ex} {ys : List Value} {bs : List Nat} {W : World} (h : Cp w e u l ov ys bs W) : w.heap.size + 3 ≤ W.heap.size := h.out.lt
/-- One more is copied. -/
theorem Cp.step {w : World} {e e1 : Ex} {u ov u1 : Value} {l : List Ex} {ys : List Value} {bs b1 : List Nat} {W W2 W3 : World} {g cap : Nat} (h : Cp w e u l ov ys bs W) (hb : Below W.heap.size W W2)
    (h1 : ExF W2 (.agg #[.int .i64 e1.kind, .string e1.name, u1]) e1 b1) (hlo : ∀ x ∈ b1, W.heap.size ≤ x)
    (ho : W3.ownsRow (w.heap.size + 3) 26 3 (.slice (some ⟨g, 0, none⟩) (l.length + 1) cap) (l.length + 1) (ys ++ [.int .i64 e1.kind, .string e1.name, u1])) (hg : (W2.alloc (.cells #[.int .i64 e1.kind, .string e1.name, u1] 26)).grownBy W3 ov.ownBlock) (hat : ov.ownBlock = some g ∨ g = W2.heap.size + 1) :
    Cp w e u (l ++ [e1]) (.slice (some ⟨g, 0, none⟩) (l.length + 1) cap) (ys ++ [.int .i64 e1.kind, .string e1.name, u1]) (bs ++ b1) (W3.setCell ⟨w.heap.size + 1 + 1, 2, none⟩ (.slice (some ⟨g, 0, none⟩) (l.length + 1) cap)) := by
  have h2 := h.below hb
  have hbig := h.big
  have hlt1 := h1.lt
  have hz : W2.heap.size + 1 ≤ W3.heap.size := by have := hg.size; simpa using this
  have hal : ∀ k, k < W2.heap.size → (W2.alloc (.cells #[.int .i64 e1.kind, .string e1.name, u1] 26)).heap[k]? = W2.heap[k]? := fun k hk => Below.heap_alloc _ _ k hk
  have hown : ∀ k, ov.ownBlock = some k → w.heap.size + 3 ≤ k ∧ k < W.heap.size := fun k hk => World.ownsRow.lt h.own k hk
  have hgb : w.heap.size + 3 ≤ g := (World.ownsRow.lt ho g rfl).1
  have far : ∀ k, k < W2.heap.size → (∀ j, ov.ownBlock = some j → k ≠ j) → W3.heap[k]? = W2.heap[k]? := fun k hk hne => (hg.block k (by simp; omega) (fun e => hne k e.symm rfl)).trans (hal k hk)
  have sfar : ∀ (x : Value) k, k ≠ w.heap.size + 1 + 1 → (W3.setCell ⟨w.heap.size + 1 + 1, 2, none⟩ x).heap[k]? = W3.heap[k]? := fun x k hne => Below.heap_setCell W3 _ x k (by simpa using hne)
  have kbs : Keeps W2 (W3.setCell ⟨w.heap.size + 1 + 1, 2, none⟩ (.slice (some ⟨g, 0, none⟩) (l.length + 1) cap)) bs :=
    ⟨by simp [World.setCell]; omega, fun x hx hlt => (sfar _ x (by have := (h.lo x hx).1; omega)).trans (far x hlt (fun j hj e => h.sep j hj (by rw [← e]; exact hx)))⟩
  have kb1 : Keeps W2 (W3.setCell ⟨w.heap.size + 1 + 1, 2, none⟩ (.slice (some ⟨g, 0, none⟩) (l.length + 1) cap)) b1 :=
    ⟨by simp [World.setCell]; omega, fun x hx hlt => (sfar _ x (by have := hlo x hx; omega)).trans (far x hlt (fun j hj e => by have := (hown j hj).2; have := hlo x hx; omega))⟩
  have low3 : ∀ k, k < w.heap.size + 3 → W3.heap[k]? = W2.heap[k]? := fun k hk => far k (by have := hb.size; omega) (fun j hj e => by have := (hown j hj).1; omega)
  refine ⟨?_, ?_, ?_, ?_, ?_, ?_, ?_, ?_, ?_⟩
  · refine ⟨?_, ?_, ?_, ?_, ?_⟩
    · exact hg.os.trans h2.low.os
    · exact hg.tape.trans h2.low.tape
    · exact hg.output.trans h2.low.output
    · have := h2.low.size; simp [World.setCell]; omega
    · intro k hk
      exact ((sfar _ k (by omega)).trans (low3 k (by omega))).trans (h2.low.block k hk)
  · exact ((sfar _ _ (by omega)).trans (low3 _ (by omega))).trans h2.arg
  · exact ((sfar _ _ (by omega)).trans (low3 _ (by omega))).trans h2.res
  · have hr := row_set ((low3 (w.heap.size + 1 + 1) (by omega)).trans h2.out) 2 (.slice (some ⟨g, 0, none⟩) (l.length + 1) cap)
    unfold Box Row
    rw [hr]
    simp
  · rw [List.length_append]
    exact World.ownsRow.kept (row := some (w.heap.size + 1 + 1)) ho ⟨rfl, rfl, rfl, by simp [World.setCell], fun k _ hne => sfar _ k (fun e => hne (by rw [e]))⟩ (Or.inr (by simp [Value.ownBlock]; omega))
  · intro w' g' hw hk
    have hyl := h.own.1
    have k1 : Keeps (W3.setCell ⟨w.heap.size + 1 + 1, 2, none⟩ (.slice (some ⟨g, 0, none⟩) (l.length + 1) cap)) w' bs := ⟨hk.1, fun x hx => hk.2 x (List.mem_append_left _ hx)⟩
    have k2 : Keeps (W3.setCell ⟨w.heap.size + 1 + 1, 2, none⟩ (.slice (some ⟨g, 0, none⟩) (l.length + 1) cap)) w' b1 := ⟨hk.1, fun x hx => hk.2 x (List.mem_append_right _ hx)⟩
    refine ExsAt.snoc l 0 bs (h2.reads w' g' (fun j v hj => hw j v (by rw [List.getElem?_append_left (List.getElem?_eq_some_iff.1 hj).1]; exact hj)) (keeps_on kbs k1)) ?_
    rw [show 0 + (0 + l.length) * 3 = l.length * 3 by omega]
    have hc : ∀ (j : Nat) (v : Value), [Value.int .i64 e1.kind, .string e1.name, u1][j]? = some v → w'.cell? ⟨g', l.length * 3 + j, none⟩ = some v := fun j v hj =>
      hw _ v (by rw [List.getElem?_append_right (by omega), hyl, Nat.add_sub_cancel_left]; exact hj)
    exact ExAt.mk (u := u1) (hc 0 _ rfl) (hc 1 _ rfl) (hc 2 _ rfl) (h1.1.keeps (keeps_on kb1 k2))
  · intro x hx
    have : (W3.setCell ⟨w.heap.size + 1 + 1, 2, none⟩ (.slice (some ⟨g, 0, none⟩) (l.length + 1) cap)).heap.size = W3.heap.size := by simp [World.setCell]
    rcases List.mem_append.1 hx with hx | hx
    · have := (h2.lo x hx); omega
    · have := hlo x hx; have := hlt1 x hx; omega
  · intro k hk hx
    have hkg : k = g := by simpa [Value.ownBlock, eq_comm] using hk
    subst hkg
    rcases List.mem_append.1 hx with hx | hx
    · rcases hat with hat | hat
      · exact h.sep k hat hx
      · have := (h2.lo k hx).2; omega
    · rcases hat with hat | hat
      · have := (hown k hat).2; have := hlo k hx; omega
      · have := hlt1 k hx; omega
  · intro x hx o
    rcases List.mem_append.1 hx with hx | hx
    · exact (World.frozen?_of_block (w := W2) (a := ⟨x, o, none⟩) (kbs.2 x hx (h2.lo x hx).2)).trans (h2.free x hx o)
    · exact (World.frozen?_of_block (w := W2) (a := ⟨x, o, none⟩) (kb1.2 x hx (hlt1 x hx))).trans (h1.2 x hx o)

theorem Cp.start (w : World) (e : Ex) (u : Value) : Cp w e u [] (.slice none 0 0) [] [] (((w.alloc (.cells #[.int .i64 e.kind, .string e.name, u] 26)).alloc (.cells #[.int .i64 0, .string ⟨#[]⟩, .slice none 0 0] 26)).alloc (.cells #[.int .i64 e.kind, .string e.name, .slice none 0 0] 26)) where
  low := (((Below.refl w.heap.size w).alloc (Nat.le_refl _) _).alloc (by simp) _).alloc (by simp; omega) _
  arg := Row.alloc (Row.alloc (Row.new w 26 [.int .i64 e.kind, .string e.name, u]) _) _
  res := Row.alloc (by
    have := Row.new (w.alloc (.cells #[.int .i64 e.kind, .string e.name, u] 26)) 26 [.int .i64 0, .string ⟨#[]⟩, .slice none 0 0]
    simpa using this) _
  out := by
    have := Row.new ((w.alloc (.cells #[.int .i64 e.kind, .string e.name, u] 26)).alloc (.cells #[.int .i64 0, .string ⟨#[]⟩, .slice none 0 0] 26)) 26 [.int .i64 e.kind, .string e.name, .slice none 0 0]
    have hz : ((w.alloc (.cells #[.int .i64 e.kind, .string e.name, u] 26)).alloc (.cells #[.int .i64 0, .string ⟨#[]⟩, .slice none 0 0] 26)).heap.size = w.heap.size + 1 + 1 := by simp
    rw [hz] at this
    exact this
  own := ⟨rfl, Or.inl ⟨rfl, rfl⟩⟩
  reads := fun w' g' _ _ => by rw [ExsAt]
  lo := fun x hx => by cases hx
  sep := fun k hk => by cases hk
  free := fun x hx => by cases hx
theorem Cp.fin {w : World} {e : Ex} {u ov : Value} {ys : List Value} {bs : List Nat} {W : World} (h : Cp w e u e.args ov ys bs W) (hs : e.name.size ≤ 9223372036854775807) :
    Copy2End e w (.returned (.agg #[.int .i64 e.kind, .string e.name, ov])) (set3 W (w.heap.size + 1) (.int .i64 e.kind) (.string e.name) ov) := by
  have hbig := h.big
  rcases h.own.2 with ⟨rfl, h0⟩ | ⟨g, cap, cur, rfl, hb, hrow, c1, c2, -, htk⟩
  · have he : e.args = [] := List.eq_nil_of_length_eq_zero h0
    refine ⟨_, [], rfl, ⟨⟨_, rfl, hs, none, 0, by rw [he]; rfl, by rw [he]; decide, by decide, Or.inl ⟨he, rfl⟩⟩, fun x hx => by cases hx⟩, (fun x hx => by cases hx), set3_low h.low (by omega) _ _ _⟩
  · have hgl := (World.ownsRow.lt h.own g rfl).2
    have hk : Keeps W (set3 W (w.heap.size + 1) (.int .i64 e.kind) (.string e.name) (.slice (some ⟨g, 0, none⟩) e.args.length cap)) bs := set3_keeps (fun hx => by have := (h.lo _ hx).1; omega) _ _ _
    have hkg : Keeps W (set3 W (w.heap.size + 1) (.int .i64 e.kind) (.string e.name) (.slice (some ⟨g, 0, none⟩) e.args.length cap)) [g] := set3_keeps (by simp; omega) _ _ _
    have hex := h.reads _ g (fun j v hj => by
      have hc := World.ownsRow.cells h.own (g := g) rfl j v hj
      rw [addE, Nat.zero_add] at hc
      exact (World.cell?_of_block (w := W) (a := ⟨g, j, none⟩) (hkg.2 g (by simp) hgl)).trans hc) hk
    refine ⟨_, g :: bs, rfl, ⟨⟨_, rfl, hs, some ⟨g, 0, none⟩, cap, rfl, c1, by unfold maxLen at c2; omega, Or.inr ⟨g, 0, bs, rfl, Nat.lt_of_lt_of_le hgl hk.1, rfl, hex⟩⟩, fun x hx o => ?_⟩, fun x hx => ?_, set3_low h.low (by omega) _ _ _⟩
    · rcases List.mem_cons.1 hx with rfl | hx
      · refine (World.frozen?_of_block (w := W) (a := ⟨x, o, none⟩) (hkg.2 x (by simp) hgl)).trans ?_
        simp [World.frozen?, hrow]
      · exact (World.frozen?_of_block (w := W) (a := ⟨x, o, none⟩) (hk.2 x hx (h.lo x hx).2)).trans (h.free x hx o)
    rcases List.mem_cons.1 hx with rfl | hx
    · omega
    · have := (h.lo x hx).1; omega

theorem Cp.up {w : World} {e : Ex} {u ov : Value} {l : List Ex} {ys : List Value} {bs : List Nat} {W : World} (h : Cp w e u l ov ys bs W) : Below (w.heap.size + 1) (w.alloc (.cells #[.int .i64 e.kind, .string e.name, u] 26)) W := by
  have hbig := h.big
  refine ⟨h.low.os, h.low.tape, h.low.output, by simp; omega, fun k hk => ?_⟩
  by_cases hk2 : k < w.heap.size
  · exact (h.low.block k hk2).trans (Below.heap_alloc w _ k hk2).symm
  · obtain rfl : k = w.heap.size := by omega
    exact h.arg.trans (Row.new w 26 [.int .i64 e.kind, .string e.name, u]).symm
theorem Cp.grown {w : World} {e e1 : Ex} {u ov u1 : Value} {l : List Ex} {ys : List Value} {bs : List Nat} {W2 W3 : World} (h : Cp w e u l ov ys bs W2) (hg : (W2.alloc (.cells #[.int .i64 e1.kind, .string e1.name, u1] 26)).grownBy W3 ov.ownBlock) :
    Box W3 (w.heap.size + 1 + 1) (.int .i64 e.kind) (.string e.name) ov ∧ Below (w.heap.size + 1) (w.alloc (.cells #[.int .i64 e.kind, .string e.name, u] 26)) W3 := by
  have hbig := h.big
  have hown : ∀ k, ov.ownBlock = some k → w.heap.size + 3 ≤ k := fun k hk => (World.ownsRow.lt h.own k hk).1
  have h3 : ∀ k, k < w.heap.size + 3 → W3.heap[k]? = W2.heap[k]? := fun k hk => (hg.block k (by simp; omega) (fun e => by have := hown k e.symm; omega)).trans (Below.heap_alloc _ _ k (by omega))
  have hz := hg.size
  have hu := h.up
  exact ⟨(h3 _ (by omega)).trans h.out, hg.os.trans hu.os, hg.tape.trans hu.tape, hg.output.trans hu.output, by have := hu.size; simp at *; omega, fun k hk => (h3 k (by omega)).trans (hu.block k hk)⟩
theorem cp_cells {w : World} {e e1 : Ex} {g o m c k : Nat} {bs : List Nat} {u1 : Value} {W0 : World} (hu : SlIs w (.slice (some ⟨g, o, none⟩) m c) e.args bs) (hm : m = e.args.length) (hlt : k < m) (hget : e.args[k]? = some e1) {W : World}
    (hW0 : W0.cell? ⟨g, o + k * 3 + 2, none⟩ = some u1) (hb0 : Below w.heap.size w W0)
    (h : Below (w.heap.size + 1) (w.alloc (.cells #[.int .i64 e.kind, .string e.name, .slice (some ⟨g, o, none⟩) m c] 26)) W) :
    W.cell? ⟨g, o + k * 3, none⟩ = some (.int .i64 e1.kind) ∧ W.cell? ⟨g, o + k * 3 + 1, none⟩ = some (.string e1.name) ∧ W.cell? ⟨g, o + k * 3 + 2, none⟩ = some u1 ∧ W.cell? ⟨w.heap.size, 2, none⟩ = some (.slice (some ⟨g, o, none⟩) m c) := by
  obtain ⟨g', o', e1', u1', b1', heq, hbl, hget', -, c1, c2, c3, -, -⟩ := hu.get k (by rw [← hm]; exact hlt)
  cases heq
  obtain rfl : e1 = e1' := Option.some.inj (hget.symm.trans hget')
  have hbw : Below w.heap.size w W := ((Below.refl w.heap.size w).alloc (Nat.le_refl _) _).trans (h.mono (Nat.le_succ _))
  have hc : ∀ j, W.cell? ⟨g, j, none⟩ = w.cell? ⟨g, j, none⟩ := fun j => hbw.cell (p := ⟨g, j, none⟩) hbl
  have hu1 : u1 = u1' := Option.some.inj (hW0.symm.trans ((hb0.cell (p := ⟨g, o + k * 3 + 2, none⟩) hbl).trans c3))
  subst hu1
  refine ⟨(hc _).trans c1, (hc _).trans c2, (hc _).trans c3, ?_⟩
  exact Row.cell (w := W) ((h.block w.heap.size (Nat.lt_succ_self _)).trans (Row.new w 26 [.int .i64 e.kind, .string e.name, .slice (some ⟨g, o, none⟩) m c])) 2 _ rfl
theorem own_at {w : World} {e : Ex} {u ov : Value} {l : List Ex} {ys : List Value} {bs : List Nat} {W : World} (h : Cp w e u l ov ys bs W) {k : Nat} (hk : l.length = k) : W.ownsRow (w.heap.size + 3) 26 3 ov k ys := by rw [← hk]; exact h.own
theorem own_to {W : World} {l : List Ex} {B g c k : Nat} {xs : List Value} (hk : l.length = k) (h : W.ownsRow B 26 3 (.slice (some ⟨g, 0, none⟩) (k + 1) c) (k + 1) xs) : W.ownsRow B 26 3 (.slice (some ⟨g, 0, none⟩) (l.length + 1) c) (l.length + 1) xs := by rw [hk]; exact h
theorem size_far {w : World} {e : Ex} {u ov : Value} {l : List Ex} {ys : List Value} {bs : List Nat} {W : World} (h : Cp w e u l ov ys bs W) (o : Obj) : w.heap.size + 3 ≤ (W.alloc o).heap.size := by have := h.big; simp; omega
theorem cp_one (e1 : Ex) (A : Option Addr) (n c : Nat) : ∀ u ∈ [Value.int .i64 e1.kind, .string e1.name, .slice A n c], u.oneCell' = true := by intro u hu; simp at hu; rcases hu with rfl | rfl | rfl <;> rfl

set_option maxHeartbeats 4000000 in
theorem copy2_step (n : Nat) (ih : ∀ (e : Ex) (v : Value) (bs : List Nat) (w : World), exSize e ≤ n → ExIs w v e bs → exSize e ≤ 1099511627776 → Calls Try.prog 73 #[v] w (Copy2End e w))
    (e : Ex) (v : Value) (bs : List Nat) (w : World) (hle : exSize e ≤ n + 1) (hv : ExIs w v e bs) (hb : exSize e ≤ 1099511627776) : Calls Try.prog 73 #[v] w (Copy2End e w) := by
  obtain ⟨i0, hi, hz0, hz1, hz2⟩ := info_parts Try.infoEx
  have HI := Lib.hid (And.intro hi (And.intro hz0 (And.intro hz1 hz2)))
  clear hi hz0 hz1 hz2
  obtain ⟨u, rfl, hsz, hu⟩ := hv
  obtain ⟨A, c, rfl, hc1, hc2, -⟩ := id hu
  have HSZ := Lib.hid hsz
  have HU := Lib.hid hu
  have HIH := Lib.hid ih
  have hES : exSize e = exSizes e.args + 1 := by cases e; rfl
  have hlen := sizes_len e.args
  have HN := Lib.hid (show exSizes e.args ≤ n by omega)
  have HBD := Lib.hid (show exSizes e.args ≤ 1099511627776 by omega)
  obtain ⟨m, hm⟩ : ∃ m, m = e.args.length := ⟨_, rfl⟩
  have HST := Lib.hid (Cp.start w e (.slice A e.args.length c))
  rw [← hm] at hc1 HU HST hlen ⊢
  have HM := Lib.hid hm
  have hm40 : m ≤ 1099511627776 := by omega
  clear hu hsz ih hle hb hlen hm hES
  go_enter Try.func73, Try.ntmps73
  go_wp2_with fail
  go_loopw [4] (fun i wr => ∃ (k : Nat) (AO : Option Addr) (co : Nat) (ys : List Value) (cs : List Nat), k ≤ m ∧ i = .int .i64 (k : Int) ∧ Hid (Cp w e (.slice A m c) (e.args.take k) (.slice AO k co) ys cs wr)) (fun i _ => m - (intOf i).toNat)
  case atStart => exact ⟨0, none, 0, [], [], Nat.zero_le _, rfl, HST⟩
  case round =>
    clear HST
    obtain ⟨k, AO, co, ys, cs, hk, rfl, HP⟩ := hrel
    obtain ⟨a0, a1, a2, af⟩ := HP.out.arg.facts
    obtain ⟨o0, o1, o2, of_⟩ := HP.out.out.facts
    have hbig := HP.out.big
    by_cases hlt : k < m
    · obtain ⟨g, o, e1, u1, b1, rfl, hbl, hget, hmem, c1, c2, c3, his, -⟩ := (HU.out.below HP.out.low).get k (by rw [← HM.out]; exact hlt)
      have HTK := Lib.hid (show e.args.take (k + 1) = e.args.take k ++ [e1] by
        have hk2 : k < e.args.length := by rw [← HM.out]; exact hlt
        rw [List.take_succ_eq_append_getElem hk2, (List.getElem?_eq_some_iff.1 hget).2])
      have HLK := Lib.hid (show (e.args.take k).length = k by rw [List.length_take, ← HM.out]; omega)
      have HCALL := Lib.hid (fun (W : World) (hb : Below wr.heap.size wr W) => HIH.out e1 _ b1 W (by have := exSizes_mem hmem; have := HN.out; omega) (his.below hb) (by have := exSizes_mem hmem; have := HBD.out; omega))
      clear his hmem
      have hk0 : 0 ≤ (k : Int) := by omega
      have hkn : (k : Int) < (m : Int) := by omega
      have HEL := Lib.hid (And.intro c1 (And.intro c2 c3))
      have HAR := Lib.hid a2
      have HUP := Lib.hid HP.out.up
      have HSX := Lib.hid (fun (W : World) (h : Below (w.heap.size + 1) (w.alloc (.cells #[.int .i64 e.kind, .string e.name, .slice (some ⟨g, o, none⟩) m c] 26)) W) => cp_cells HU.out HM.out hlt hget HEL.out.2.2 HP.out.low h)
      clear c1 c2 c3 a0 a1 a2 af
      have hgl : g < wr.heap.size := hbl
      have CM := Lib.hid (show k + 1 ≤ maxLen by unfold maxLen; omega)
      have CB := Lib.hid (show (k + 1) * 48 ≤ 140737488355328 by omega)
      obtain ⟨c1, c2, c3, a2⟩ := HSX.out wr HUP.out
      go_wp2_with fail
      go_region_law
        (first
        | (go_simp; go_at_call 73; refine (HCALL.out _ (Below.refl _ _).drew).mono ?_; rintro r w2 ⟨_, b2, rfl, hs2, hlo2, hb2⟩; obtain ⟨⟨u2, rfl, hsz2, hu2⟩, -⟩ := id hs2; obtain ⟨A2, c2', rfl, -⟩ := id hu2; have hbb := (Below.refl wr.heap.size wr).drew.trans hb2; have hp2 := HP.out.below hbb; have HU2 := Lib.hid hp2.up; have hbz2 : w.heap.size + 1 ≤ w2.heap.size := Nat.le_trans (Nat.le_add_right _ 2) hp2.big; obtain ⟨p0, p1, p2, pf⟩ := hp2.out.facts; have hbl2 : w.heap.size + 1 + 1 < w2.heap.size := hp2.out.lt; have HP2 := Lib.hid hp2; have HS2 := Lib.hid hs2; have HL2 := Lib.hid hlo2; have HBB := Lib.hid hbb; clear hs2 hu2 hlo2 hb2 hbb hp2 hsz2)
        | (refine step_append_lies _ (by rfl) _ _ _ (by rfl) (w.heap.size + 3) 26 i0 _ 3 48 Try.underlying24 HI.out.1 HI.out.2.1 HI.out.2.2.1 HI.out.2.2.2 rfl (by decide) (.slice AO k co) k ys (by rfl) (World.ownsRow.alloc (own_at HP2.out HLK.out) _) ⟨w2.heap.size, 0, none⟩ 1 1 [.int .i64 e1.kind, .string e1.name, .slice A2 e1.args.length c2'] (by rfl) (by rfl) (World.news_of_block (heap_alloc_new w2 _)) (cp_one e1 A2 _ c2') (by decide) CM.out CB.out (size_far HP2.out _) (w2.heap.size + 1) (by simp) ?_; intro g3 c3' w3 ho3 hg3 hat3 hlt3; have HCP := Lib.hid (Cp.step HP.out HBB.out HS2.out HL2.out (own_to HLK.out ho3) hg3 hat3); have HGR := Lib.hid (Cp.grown HP2.out hg3); obtain ⟨t0, t1, t2, tf⟩ := HGR.out.1.facts; clear ho3 hg3 hat3 hlt3))
      all_goals
        have hcp := HCP.out
        rw [HLK.out, ← HTK.out] at hcp
        have HNX := Lib.hid hcp
        clear hcp HCP HGR HU2 HP2 HS2 HL2 HBB HP HSX HUP HAR HEL HCALL c1 c2 c3 a2 o0 o1 o2 of_ p0 p1 p2 pf t0 t1 t2 tf
        go_wp2_with fail
        go_roundw
        case rel => exact ⟨k + 1, some ⟨g3, 0, none⟩, c3', _, _, by omega, by go_num, HNX⟩
        case measure => simp [intOf]; omega
    · have HE := Lib.hid (show e.args.take k = e.args from List.take_of_length_le (by rw [← HM.out]; omega))
      have hp := HP.out
      rw [HE.out] at hp
      have HP2 := Lib.hid hp
      clear hp
      obtain ⟨r0, r1, r2, rf⟩ := HP.out.res.facts
      have hmk : m = k := by omega
      go_wp2_with fail
      refine bodyPost_ret (v := .agg #[.int .i64 e.kind, .string e.name, .slice AO k co]) (by simp [results, Try.results73, go_sem, r0, r1, r2]) rfl ?_
      exact Cp.fin HP2.out HSZ.out
theorem copy2_any (n : Nat) : ∀ (e : Ex) (v : Value) (bs : List Nat) (w : World), exSize e ≤ n → ExIs w v e bs → exSize e ≤ 1099511627776 → Calls Try.prog 73 #[v] w (Copy2End e w) := by
  induction n with
  | zero => intro e v bs w h; have := exSize_pos e; omega
  | succ n ih => intro e v bs w h1 h2 h3; exact copy2_step n ih e v bs w h1 h2 h3
end Go.Proofs.Ytbnghkgfbjipdaa

namespace Go.Proofs.Ytbnghkgfbjipdaa
open Go Go.RowKit

def zeroX : Ex := .mk 0 ⟨#[]⟩ []
theorem valOf_here {l : List Bi} {k : Nat} {r : Bi} (s : ByteArray) (h : l[k]? = some r) : valOf (l.drop k) s = if r.name = s then some r.val else valOf (l.drop (k + 1)) s := by
  obtain ⟨h1, h2⟩ := List.getElem?_eq_some_iff.1 h
  rw [List.drop_eq_getElem_cons h1, h2, valOf]
/-- What FindBinding gives. -/
def FindPost (l : List Bi) (s : ByteArray) (w : World) (e : Ending) (w2 : World) : Prop :=
  ∃ v bs, e = .returned (.tuple #[v, .bool (valOf l s).isSome]) ∧ ExF w2 v ((valOf l s).getD zeroX) bs ∧ (∀ x ∈ bs, w.heap.size ≤ x) ∧ Below w.heap.size w w2
set_option maxHeartbeats 4000000 in
theorem findb_any (l : List Bi) (v : Value) (bs : List Nat) (s : ByteArray) (w : World) (hv : BlIs w v l bs) (hl : l.length ≤ 1099511627776) (hn : ∀ r ∈ l, exSize r.val ≤ 1099511627776) :
    Calls Try.prog 26 #[v, .string s] w (FindPost l s w) := by
  obtain ⟨A, c, rfl, hc1, hc2, -⟩ := id hv
  have HU := Lib.hid hv
  obtain ⟨m, hm⟩ : ∃ m, m = l.length := ⟨_, rfl⟩
  rw [← hm] at hc1 HU hl ⊢
  have HM := Lib.hid hm
  have HN := Lib.hid hn
  have HF := Lib.hid (show valOf l s = valOf (l.drop 0) s from rfl)
  have hm2 : (m : Int) ≤ 1099511627776 := by omega
  clear hv hm hn
  go_enter Try.func26, Try.ntmps26
  go_wp2_with fail
  obtain ⟨W0, hW0⟩ : ∃ W0, W0 = w.alloc (.cells #[.int .i64 0, .string ⟨#[]⟩, .slice none 0 0] 26) := ⟨_, rfl⟩
  rw [← hW0]
  have HW0 := Lib.hid (show Below w.heap.size w W0 ∧ W0.heap[w.heap.size]? = some (.cells #[.int .i64 0, .string ⟨#[]⟩, .slice none 0 0] 26 (0, 0)) by
    rw [hW0]
    exact ⟨(Below.refl _ w).alloc (Nat.le_refl _) _, heap_alloc_new w _⟩)
  clear hW0
  go_loopw [6] (fun i wr => ∃ (k : Nat), k ≤ m ∧ i = .int .i64 (k : Int) ∧ wr = W0 ∧ Hid (valOf l s = valOf (l.drop k) s)) (fun i _ => m - (intOf i).toNat)
  case atStart => exact ⟨0, Nat.zero_le _, rfl, rfl, HF⟩
  case round =>
    obtain ⟨k, hk, rfl, rfl, HK⟩ := hrel
    by_cases hlt : k < m
    · obtain ⟨g, o, r, u, b1, hA⟩ := (HU.out.below HW0.out.1).get k (by rw [← HM.out]; exact hlt)
      obtain rfl := hA.eq
      obtain ⟨c0, c1, c2, c3⟩ := hA.cells
      have HG := Lib.hid (valOf_here s hA.get)
      obtain ⟨u', e0, -, hi⟩ := hA.is
      obtain rfl : u = u' := by simpa using e0
      obtain ⟨u2, e2, -, A2, cc, e3, -⟩ := id hi
      simp only [Value.agg.injEq, Array.mk.injEq, List.cons.injEq, and_true, true_and] at e2
      subst e2; subst e3
      have HCP := Lib.hid (copy2_any (exSize r.val) r.val _ _ wr (Nat.le_refl _) hi (HN.out r hA.mem))
      have hgl := hA.lt
      clear hA hi
      have hk0 : (0 : Int) ≤ (k : Int) := by omega
      have hkm : (k : Int) < (m : Int) := by omega
      by_cases hx : r.name = s
      · have hbe := beq_yes hx
        have HE := Lib.hid (show valOf l s = some r.val by rw [HK.out, HG.out, if_pos hx])
        clear hx
        go_wp2_with fail
        go_at_call 73
        refine HCP.out.mono ?_
        rintro r9 w2 ⟨v9, b9, rfl, hf9, hlo9, hb9⟩
        obtain ⟨⟨u9, rfl, hsz9, hu9⟩, -⟩ := id hf9
        obtain ⟨A9, c9, rfl, -⟩ := id hu9
        have HF9 := Lib.hid hf9
        have HLO := Lib.hid hlo9
        have HB9 := Lib.hid hb9
        have hz := (hb9.block _ (Array.getElem?_eq_some_iff.1 HW0.out.2).1).trans HW0.out.2
        have z0 : w2.cell? ⟨w.heap.size, 0, none⟩ = some (.int .i64 0) := by simp [World.cell?, hz]
        have z1 : w2.cell? ⟨w.heap.size, 1, none⟩ = some (.string ⟨#[]⟩) := by simp [World.cell?, hz]
        have z2 : w2.cell? ⟨w.heap.size, 2, none⟩ = some (.slice none 0 0) := by simp [World.cell?, hz]
        have zf : ∀ o, w2.frozen? ⟨w.heap.size, o, none⟩ = false := fun o => by simp [World.frozen?, hz]
        have zl : w.heap.size < w2.heap.size := (Array.getElem?_eq_some_iff.1 hz).1
        clear hf9 hu9 hsz9 hlo9 hb9 hz
        go_wp2_with fail
        refine bodyPost_ret (v := .tuple #[.agg #[.int .i64 r.val.kind, .string r.val.name, .slice A9 r.val.args.length c9], .bool true]) (by simp [results, Try.results26, go_sem, z0, z1, z2]) rfl ?_
        have hlo : w.heap.size < wr.heap.size := (Array.getElem?_eq_some_iff.1 HW0.out.2).1
        unfold FindPost
        rw [HE.out]
        refine ⟨_, _, rfl, ⟨HF9.out.1.keeps (show Keeps w2 (set3 w2 w.heap.size (.int .i64 r.val.kind) (.string r.val.name) (.slice A9 r.val.args.length c9)) b9 from set3_keeps (fun hx => by have := HLO.out _ hx; omega) _ _ _), fun x hx o => ?_⟩, fun x hx => by have := HLO.out x hx; omega, set3_low (HW0.out.1.trans (HB9.out.mono HW0.out.1.size)) (Nat.le_refl _) _ _ _⟩
        have hk3 : Keeps w2 (set3 w2 w.heap.size (.int .i64 r.val.kind) (.string r.val.name) (.slice A9 r.val.args.length c9)) b9 := set3_keeps (fun hx => by have := HLO.out _ hx; omega) _ _ _
        exact (World.frozen?_of_block (w := w2) (a := ⟨x, o, none⟩) (hk3.2 x hx (HF9.out.lt x hx))).trans (HF9.out.2 x hx o)
      · have hbe := beq_no hx
        have HE := Lib.hid (show valOf l s = valOf (l.drop (k + 1)) s by rw [HK.out, HG.out, if_neg hx])
        clear hx
        go_wp2_with fail
        go_roundw
        case rel => exact ⟨k + 1, by omega, by go_num, by trivial, HE⟩
        case measure => simp [intOf]; omega
    · have HE := Lib.hid (show valOf l s = none by rw [HK.out, List.drop_eq_nil_of_le (by rw [← HM.out]; omega)]; rfl)
      have hz := HW0.out.2
      have z0 : wr.cell? ⟨w.heap.size, 0, none⟩ = some (.int .i64 0) := by simp [World.cell?, hz]
      have z1 : wr.cell? ⟨w.heap.size, 1, none⟩ = some (.string ⟨#[]⟩) := by simp [World.cell?, hz]
      have z2 : wr.cell? ⟨w.heap.size, 2, none⟩ = some (.slice none 0 0) := by simp [World.cell?, hz]
      have zf : ∀ o, wr.frozen? ⟨w.heap.size, o, none⟩ = false := fun o => by simp [World.frozen?, hz]
      have zl : w.heap.size < wr.heap.size := (Array.getElem?_eq_some_iff.1 hz).1
      clear hz
      go_wp2_with fail
      refine bodyPost_ret (v := .tuple #[.agg #[.int .i64 0, .string ⟨#[]⟩, .slice none 0 0], .bool false]) (by simp [results, Try.results26, go_sem, z0, z1, z2]) rfl ?_
      unfold FindPost
      rw [HE.out]
      exact ⟨_, [], rfl, ⟨⟨_, rfl, by decide, none, 0, rfl, by decide, by decide, Or.inl ⟨rfl, rfl⟩⟩, (fun x hx => by cases hx)⟩, (fun x hx => by cases hx), set3_low HW0.out.1 (Nat.le_refl _) _ _ _⟩
end Go.Proofs.Ytbnghkgfbjipdaa
