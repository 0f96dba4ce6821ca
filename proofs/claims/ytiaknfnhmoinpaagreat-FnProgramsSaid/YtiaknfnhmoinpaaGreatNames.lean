/- A part of the proof of the seat's statement: Names. Condition: as each says. -/
import Derived.Test.YtiaknfnhmoinpaaGreatDrawOnce
import Derived.WalkSpells
import Derived.WalkLawsBesides
import Derived.Laws.OwnMore
import Derived.Outline
import Derived.Test.YtiaknfnhmoinpaaGreatExDraw
import Derived.ArgAppend
import Derived.Test.YtiaknfnhmoinpaaGreatRows
import Derived.WalkKit
import Derived.Lib.Hide
import Derived.Deep.QuietTactic
import Derived.BigQuiet
import Derived.Lib.ItoaNum
set_option maxHeartbeats 8000000
namespace Go.Proofs.YtiaknfnhmoinpaaGreat
open Go Go.RowKit
structure Mine (w : World) (B : Nat) (bs : List Nat) : Prop where
 nodup : bs.Nodup
 range : ∀ x ∈ bs, B ≤ x ∧ x < w.heap.size
 free : ∀ x ∈ bs, ∀ o, w.frozen? ⟨x, o, none⟩ = false
theorem Mine.nil (w : World) (B : Nat) : Mine w B [] := ⟨List.nodup_nil, (fun x h => by cases h), (fun x h => by cases h)⟩
theorem Mine.keeps {w w' : World} {B : Nat} {bs : List Nat} (h : Mine w B bs) (hk : Keeps w w' bs) : Mine w' B bs :=
 ⟨h.nodup, fun x hx => ⟨(h.range x hx).1, nL (h.range x hx).2 hk.1⟩, fun x hx o => (World.frozen?_of_block (w := w) (a := ⟨x, o, none⟩) (hk.2 x hx (h.range x hx).2)).trans (h.free x hx o)⟩
theorem Mine.mono {w : World} {B C : Nat} {bs : List Nat} (h : Mine w B bs) (hC : C ≤ B) : Mine w C bs := ⟨h.nodup, fun x hx => ⟨nT hC (h.range x hx).1, (h.range x hx).2⟩, h.free⟩
theorem ExsAt.snoc {w : World} {g o : Nat} {e : Ex} {b1 : List Nat} : ∀ (l : List Ex) (j : Nat) (bs : List Nat), ExsAt w g o j l bs → ExAt w g (o + (j + l.length) * 3) e b1 → ExsAt w g o j (l ++ [e]) (bs ++ b1) := by
 intro l
 induction l with
 | nil =>
  intro j bs h h1
  rw [ExsAt] at h
  subst h
  rw [List.nil_append, List.nil_append, ExsAt]
  exact ⟨b1, [], by simp, by simpa using h1, by rw [ExsAt]⟩
 | cons x r ih =>
  intro j bs h h1
  rw [ExsAt] at h
  obtain ⟨b2, b3, rfl, h2, h3⟩ := h
  rw [List.cons_append, ExsAt]
  exact ⟨b2, b3 ++ b1, by rw [List.append_assoc], h2, ih (j + 1) b3 h3 (by rw [show j + 1 + r.length = j + (x :: r).length by simp; omega]; exact h1)⟩
theorem keeps_set {w : World} {a : Addr} {v : Value} {bs : List Nat} (h : ∀ x ∈ bs, x ≠ a.block) : Keeps w (w.setCell a v) bs :=
 ⟨by simp [World.setCell], fun x hx _ => Below.heap_setCell w a v x (h x hx)⟩
theorem keeps_on {w w' w'' : World} {bs : List Nat} (h : Keeps w w' bs) (h' : Keeps w' w'' bs) : Keeps w w'' bs :=
 ⟨nT h.1 h'.1, fun x hx hlt => (h'.2 x hx (nL hlt h.1)).trans (h.2 x hx hlt)⟩
theorem Tryz.infoEx : (Tryz.prog.info? 32).map (fun i => (i.zero, i.size, i.bytes)) = some (some (.agg #[.int .i64 0, .string ⟨#[]⟩, .slice none 0 0]), 3, 48) := by kernel_rfl
theorem exs_cells {w : World} {g o : Nat} : ∀ (l : List Ex) (j0 : Nat) (bs : List Nat), ExsAt w g o j0 l bs → ∃ olds : List Value, olds.length = l.length * 3 ∧ (∀ j u, olds[j]? = some u → w.cell? ⟨g, o + j0 * 3 + j, none⟩ = some u) ∧
 ∀ (w' : World) (g' o' j' : Nat), (∀ j u, olds[j]? = some u → w'.cell? ⟨g', o' + j' * 3 + j, none⟩ = some u) → Keeps w w' bs → ExsAt w' g' o' j' l bs := by
 intro l
 induction l with
 | nil => intro j0 bs h; rw [ExsAt] at h; exact ⟨[], rfl, (fun j u h => by simp at h), (fun w' g' o' j' _ _ => by rw [ExsAt]; exact h)⟩
 | cons e r ih =>
  intro j0 bs h
  rw [ExsAt] at h
  obtain ⟨b1, b2, rfl, h1, h2⟩ := h
  obtain ⟨u, c0, c1, c2, hi⟩ := h1.is
  obtain ⟨olds, hl, hc, hk⟩ := ih (j0 + 1) b2 h2
  refine ⟨.int .i64 e.kind :: .string e.name :: u :: olds, by simp [hl]; omega, ?_, ?_⟩
  · intro j v hv
    match j with
    | 0 => simp at hv; subst hv; exact c0
    | 1 => simp at hv; subst hv; exact c1
    | 2 => simp at hv; subst hv; exact c2
    | j + 3 =>
     have := hc j v (by simpa using hv)
     rw [show o + j0 * 3 + (j + 3) = o + (j0 + 1) * 3 + j by omega]
     exact this
  intro w' g' o' j' hw hkp
  rw [ExsAt]
  refine ⟨b1, b2, rfl, ExAt.mk (u := u) (hw 0 _ rfl) (hw 1 _ rfl) (hw 2 _ rfl) (hi.keeps ⟨hkp.1, fun x hx => hkp.2 x (List.mem_append_left _ hx)⟩), hk w' g' o' (j' + 1) (fun j v hv => ?_) ⟨hkp.1, fun x hx => hkp.2 x (List.mem_append_right _ hx)⟩⟩
  have := hw (j + 3) v (by simpa using hv)
  rw [show o' + (j' + 1) * 3 + j = o' + j' * 3 + (j + 3) by omega]
  exact this
def TotE (e : Ex) : Prop := exTot e ≤ 140 ∧ exSize e ≤ 80
def BentPostS (g : Nat) (A : Option Addr) (n cap : Nat) (w : World) (r : Ending) (w' : World) : Prop :=
 ∃ v e bs, r = .returned v ∧ ExF w' v e bs ∧ (∀ x ∈ bs, w.heap.size < x) ∧ TotE e ∧ Cur w' g A n cap ∧ Only g w w'
structure Bt (w : World) (B g : Nat) (A : Option Addr) (zs : List Int) (cap : Nat) (b : Nat) (e : Ex) (u : Value) (bs : List Nat) (W : World) : Prop where
 two : Two w B g A zs cap b e u bs W
 gb : b ≠ g
 wb : w.heap.size < b
 lo : ∀ x ∈ bs, w.heap.size < x ∧ x ≠ b
theorem Bt.no {w : World} {B g : Nat} {A : Option Addr} {zs : List Int} {cap : Nat} {b : Nat} {e : Ex} {u : Value} {bs : List Nat} {W : World} (h : Bt w B g A zs cap b e u bs W) (hgl : g < w.heap.size) : g ∉ bs ∧ w.heap.size ∉ bs ∧ b ∉ bs :=
 ⟨fun hx => by have := (h.lo _ hx).1; omega, fun hx => by have := (h.lo _ hx).1; omega, fun hx => (h.lo _ hx).2 rfl⟩
theorem Bt.call {w : World} {B g : Nat} {A : Option Addr} {zs : List Int} {cap : Nat} {b : Nat} {e : Ex} {u : Value} {bs : List Nat} {W W2 : World} (h : Bt w B g A zs cap b e u bs W) (hg : B ≤ g) (hgl : g < w.heap.size) (hc : Cur W2 g A zs.length cap) (ho : Only g W W2) : Bt w B g A zs cap b e u bs W2 :=
 ⟨h.two.call hg hgl h.gb (h.no hgl).1 hc ho, h.gb, h.wb, h.lo⟩
theorem Bt.alloc {w : World} {B g : Nat} {A : Option Addr} {zs : List Int} {cap : Nat} {b : Nat} {e : Ex} {u : Value} {bs : List Nat} {W : World} (h : Bt w B g A zs cap b e u bs W) (hg : B ≤ g) (o : Obj) : Bt w B g A zs cap b e u bs (W.alloc o) :=
 ⟨h.two.alloc hg o, h.gb, h.wb, h.lo⟩
theorem Bt.put {w : World} {B g : Nat} {A : Option Addr} {zs : List Int} {cap : Nat} {b : Nat} {e : Ex} {u : Value} {bs : List Nat} {W : World} (h : Bt w B g A zs cap b e u bs W) (hg : B ≤ g) (hgl : g < w.heap.size) (m : Nat) (x : Value) :
 St w B g A zs cap (W.setCell ⟨b, m, none⟩ x) ∧ Keeps W (W.setCell ⟨b, m, none⟩ x) bs ∧ Row (W.setCell ⟨b, m, none⟩ x) b 32 ([.int .i64 e.kind, .string e.name, u].set m x) := by
 have hwb := h.wb
 have hgb := h.gb
 refine ⟨⟨h.two.st.only.setNew (Nat.le_of_lt h.wb) m x, ?_, h.two.st.bytes.below ((wB B W).setCell (by simp; omega) x), ?_⟩, keeps_set (fun y hy => by have := (h.lo y hy).2; simpa using this), ?_⟩
 · obtain ⟨k, y, hk, hr⟩ := h.two.st.cur
   exact ⟨k, y, hk, (Below.heap_setCell W ⟨b, m, none⟩ x g (by simp; omega)).trans hr⟩
 · obtain ⟨q0, q1, q2, hq⟩ := h.two.st.box
   exact ⟨q0, q1, q2, (Below.heap_setCell W ⟨b, m, none⟩ x w.heap.size (by simp; omega)).trans hq⟩
 have := row_set h.two.part m x
 unfold Row
 rw [this]
 simp [List.setIfInBounds_toArray]
theorem Bt.kind {w : World} {B g : Nat} {A : Option Addr} {zs : List Int} {cap : Nat} {b : Nat} {e : Ex} {u : Value} {bs : List Nat} {W : World} (h : Bt w B g A zs cap b e u bs W) (hg : B ≤ g) (hgl : g < w.heap.size) (k : Int) : Bt w B g A zs cap b (.mk k e.name e.args) u bs (W.setCell ⟨b, 0, none⟩ (.int .i64 k)) := by
 obtain ⟨h1, h2, h3⟩ := h.put hg hgl 0 (.int .i64 k)
 obtain ⟨⟨u', e1, hs, hu⟩, hf⟩ := h.two.is.keeps h2
 simp only [Value.agg.injEq, Array.mk.injEq, List.cons.injEq, and_true, true_and] at e1
 subst e1
 exact ⟨⟨h1, h3, ⟨⟨u, rfl, hs, hu⟩, hf⟩⟩, h.gb, h.wb, h.lo⟩
theorem Bt.name {w : World} {B g : Nat} {A : Option Addr} {zs : List Int} {cap : Nat} {b : Nat} {e : Ex} {u : Value} {bs : List Nat} {W : World} (h : Bt w B g A zs cap b e u bs W) (hg : B ≤ g) (hgl : g < w.heap.size) (y : ByteArray) (hy : y.size ≤ 9223372036854775807) : Bt w B g A zs cap b (.mk e.kind y e.args) u bs (W.setCell ⟨b, 1, none⟩ (.string y)) := by
 obtain ⟨h1, h2, h3⟩ := h.put hg hgl 1 (.string y)
 obtain ⟨⟨u', e1, hs, hu⟩, hf⟩ := h.two.is.keeps h2
 simp only [Value.agg.injEq, Array.mk.injEq, List.cons.injEq, and_true, true_and] at e1
 subst e1
 exact ⟨⟨h1, h3, ⟨⟨u, rfl, hy, hu⟩, hf⟩⟩, h.gb, h.wb, h.lo⟩
theorem Bt.fin {w : World} {B g : Nat} {A : Option Addr} {zs : List Int} {cap : Nat} {b : Nat} {e : Ex} {u : Value} {bs : List Nat} {W : World} (h : Bt w B g A zs cap b e u bs W) (hgl : g < w.heap.size) (ht : TotE e) :
 BentPostS g A zs.length cap w (.returned (.agg #[.int .i64 e.kind, .string e.name, u])) (set3 W w.heap.size (.int .i64 e.kind) (.string e.name) u) := by
 obtain ⟨h1, h2, h3⟩ := h.two.st.fin hgl (.int .i64 e.kind) (.string e.name) u
 exact ⟨_, e, bs, rfl, h.two.is.keeps (h3 bs (h.no hgl).2.1), fun x hx => (h.lo x hx).1, ht, h2, h1⟩
theorem addE (g o k : Nat) : (⟨g, o, none⟩ : Addr).add k = ⟨g, o + k, none⟩ := by
 unfold Addr.add
 split <;> simp_all
theorem olds_of {W : World} {A : Option Addr} {e : Ex} {bs : List Nat} (h : ExIs W (.agg #[.int .i64 e.kind, .string e.name, .slice A e.args.length e.args.length]) e bs) :
 ∃ (olds : List Value) (bs0 : List Nat), olds.length = e.args.length * 3 ∧ (∀ b, A = some b → ∀ j u, olds[j]? = some u → W.cell? (b.add j) = some u) ∧ (A = none → e.args.length = 0 ∧ e.args.length = 0) ∧ (∀ x ∈ bs0, x ∈ bs) ∧
  (∀ (w' : World) (g' : Nat), (∀ j u, olds[j]? = some u → w'.cell? ⟨g', j, none⟩ = some u) → Keeps W w' bs0 → ExsAt w' g' 0 0 e.args bs0) := by
 obtain ⟨u, e1, -, A', c, rfl, -, -, h7⟩ := h
 simp only [Value.agg.injEq, Array.mk.injEq, List.cons.injEq, and_true, true_and, Value.slice.injEq] at e1
 obtain ⟨rfl, rfl⟩ := e1
 rcases h7 with ⟨h0, rfl⟩ | ⟨g0, o0, bs0, rfl, -, rfl, h8⟩
 · rw [h0]
   exact ⟨[], [], rfl, (fun b _ j u h => by simp at h), (fun _ => ⟨rfl, rfl⟩), (fun x hx => hx), (fun w' g' _ _ => by rw [ExsAt])⟩
 obtain ⟨olds, h1, h2, h3⟩ := exs_cells e.args 0 bs0 h8
 refine ⟨olds, bs0, h1, fun b hb j u hu => ?_, (fun hn => by cases hn), (fun x hx => List.mem_cons_of_mem _ hx), fun w' g' hw hk => h3 w' g' 0 0 (fun j u hu => ?_) hk⟩
 · cases hb
   rw [addE]
   have := h2 j u hu
   rw [Nat.zero_mul, Nat.add_zero] at this
   exact this
 simpa using hw j u hu
theorem sizes_one (l : List Ex) (x : Ex) : exSizes (l ++ [x]) = exSizes l + exSize x := by
 induction l with
 | nil => simp [exSizes]
 | cons y r ih => rw [List.cons_append, exSizes, exSizes, ih]; omega
theorem tots_one (l : List Ex) (x : Ex) : exTots (l ++ [x]) = exTots l + (exTot x + 1) := by
 induction l with
 | nil => simp [exTots]
 | cons y r ih => rw [List.cons_append, exTots, exTots, ih]; omega
theorem Bt.below {w : World} {B g : Nat} {A : Option Addr} {zs : List Int} {cap : Nat} {b : Nat} {e : Ex} {u : Value} {bs : List Nat} {W W2 : World} (h : Bt w B g A zs cap b e u bs W) (hg : B ≤ g) (hgl : g < w.heap.size) (hb : Below W.heap.size W W2) : Bt w B g A zs cap b e u bs W2 :=
 h.call hg hgl (by
  obtain ⟨k, x, hk, hr⟩ := h.two.st.cur
  exact ⟨k, x, hk, (hb.block g h.two.st.cur.lt).trans hr⟩) ⟨hb.os, hb.tape, hb.output, hb.size, fun i hi _ => hb.block i hi⟩
theorem below_grown {W w7 : World} (hr : W.grownBy w7 none) : Below W.heap.size W w7 := ⟨hr.os, hr.tape, hr.output, hr.size, fun i hi => hr.block i hi (by simp)⟩
theorem row_shape {W : World} {B n k : Nat} {t : TypeId} {v : Value} {l : List Value} (h : W.ownsRow B t k v (n + 1) l) : ∃ g c, v = .slice (some ⟨g, 0, none⟩) (n + 1) c := by
 rcases h.2 with ⟨-, h0⟩ | ⟨g', cap', cur, rfl, -⟩
 · omega
 exact ⟨g', cap', rfl⟩
theorem q_size : (⟨#[113]⟩ : ByteArray).size ≤ 9223372036854775807 := by decide
theorem Bt.args {w : World} {B g : Nat} {A : Option Addr} {zs : List Int} {cap : Nat} {b : Nat} {e : Ex} {u : Value} {bs bs0 : List Nat} {W w7 : World} {v' : Value} {olds : List Value} (h : Bt w B g A zs cap b e u bs W) (hg : B ≤ g) (hgl : g < w.heap.size)
 (hl : olds.length = e.args.length * 3) (hbs : ∀ x ∈ bs0, x ∈ bs) (hre : ∀ (w' : World) (g' : Nat), (∀ j u, olds[j]? = some u → w'.cell? ⟨g', j, none⟩ = some u) → Keeps W w' bs0 → ExsAt w' g' 0 0 e.args bs0)
 (q : ByteArray) (hq : q.size ≤ 9223372036854775807) (ho : w7.ownsRow W.heap.size 32 3 v' (e.args.length + 1) (olds ++ [.int .i64 1, .string q, .slice none 0 0])) (hr : W.grownBy w7 none) :
 ∃ bs', Bt w B g A zs cap b (.mk e.kind e.name (e.args ++ [.mk 1 q []])) v' bs' (w7.setCell ⟨b, 2, none⟩ v') := by
 have hb : Below W.heap.size W w7 := ⟨hr.os, hr.tape, hr.output, hr.size, fun i hi => hr.block i hi (by simp)⟩
 have hbW := h.two.part.lt
 have h7 := h.below hg hgl hb
 obtain ⟨h1, h2, h3⟩ := h7.put hg hgl 2 v'
 rcases ho.2 with ⟨-, h0⟩ | ⟨g', cap', cur, rfl, hb', hrow, c1, c2, -⟩
 · omega
 have hg7 : g' < w7.heap.size := (World.ownsRow.lt ho g' rfl).2
 have hgb : g' ≠ b := by omega
 have hcell : ∀ (m : Nat) (j : Nat) (u : Value), (olds ++ [Value.int .i64 1, .string q, .slice none 0 0])[j]? = some u → (w7.setCell ⟨b, 2, none⟩ (.slice (some ⟨g', 0, none⟩) (e.args.length + 1) cap')).cell? ⟨g', j, none⟩ = some u := fun _ j u hu =>
  (World.cell?_setCell_other _ _ _ _ (fun e => hgb (by have := congrArg Addr.block e; simpa using this.symm))).trans (by have := World.ownsRow.cells ho (g := g') rfl j u hu; rw [addE, Nat.zero_add] at this; exact this)
 have hkp : Keeps W (w7.setCell ⟨b, 2, none⟩ (.slice (some ⟨g', 0, none⟩) (e.args.length + 1) cap')) bs0 := keeps_on (keeps_below hb bs0) ⟨h2.1, fun x hx hlt => h2.2 x (hbs x hx) hlt⟩
 have hex := hre _ g' (fun j u hu => hcell 0 j u (by rw [List.getElem?_append_left (List.getElem?_eq_some_iff.1 hu).1]; exact hu)) hkp
 have hlast : ∀ (k : Nat) (u : Value), [Value.int .i64 1, .string q, .slice none 0 0][k]? = some u → (w7.setCell ⟨b, 2, none⟩ (.slice (some ⟨g', 0, none⟩) (e.args.length + 1) cap')).cell? ⟨g', e.args.length * 3 + k, none⟩ = some u := fun k u hu =>
  hcell 0 _ u (by rw [List.getElem?_append_right (by omega), hl, Nat.add_sub_cancel_left]; exact hu)
 have hsn := ExsAt.snoc (e := .mk 1 q []) (b1 := []) e.args 0 bs0 hex (by
  rw [show 0 + (0 + e.args.length) * 3 = e.args.length * 3 by omega]
  exact ExAt.mk (u := .slice none 0 0) (hlast 0 _ rfl) (hlast 1 _ rfl) (hlast 2 _ rfl) (leaf_is _ 1 q hq))
 rw [List.append_nil] at hsn
 refine ⟨g' :: bs0, ⟨⟨h1, h3, ⟨⟨_, rfl, ?_, some ⟨g', 0, none⟩, cap', by simp [Ex.args], by simp [Ex.args]; exact c1, by unfold maxLen at c2; omega, Or.inr ⟨g', 0, bs0, rfl, nL hg7 h2.1, rfl, hsn⟩⟩, fun x hx o => ?_⟩⟩, h.gb, h.wb, fun x hx => ?_⟩⟩
 · obtain ⟨⟨_, _, hs, _⟩, _⟩ := h.two.is
   exact hs
 · rcases List.mem_cons.1 hx with rfl | hx
   · refine (World.frozen?_of_block (w := w7) (a := ⟨x, o, none⟩) (Below.heap_setCell w7 _ _ x (by simpa using hgb))).trans ?_
     simp [World.frozen?, hrow]
   exact (World.frozen?_of_block (w := W) (a := ⟨x, o, none⟩) (hkp.2 x hx (h.two.is.lt x (hbs x hx)))).trans (h.two.is.2 x (hbs x hx) o)
 have hwb := h.wb
 rcases List.mem_cons.1 hx with rfl | hx
 · exact ⟨by omega, hgb⟩
 exact h.lo x (hbs x hx)
def bents : List ByteArray := [⟨#[83]⟩, ⟨#[102]⟩, ⟨#[]⟩, ⟨#[97, 98, 99, 100, 101, 102, 103]⟩]
theorem bents_size : ∀ x ∈ bents, x.size ≤ 7 := by decide
theorem draw_wide {T g n cap : Nat} {A : Option Addr} {w : World} {r : Ending} {w' : World} (hT : T ≤ 128) (h : DrawPost T g A n cap w r w') : DrawPost 128 g A n cap w r w' := by
 obtain ⟨v, e, bs, h1, h2, h3, h4, h5⟩ := h
 exact ⟨v, e, bs, h1, h2, h3, ⟨by have := h4.1; omega, by have := h4.2; omega⟩, h5⟩
theorem leaf_cells (W : World) : ∀ (j : Nat) (u : Value), [Value.int .i64 1, .string ⟨#[113]⟩, .slice none 0 0][j]? = some u → (W.alloc (.cells #[.int .i64 1, .string ⟨#[113]⟩, .slice none 0 0] 32)).cell? ((⟨W.heap.size, 0, none⟩ : Addr).add j) = some u := fun j u hu => by
 rw [addE, Nat.zero_add]
 exact Row.cell (Row.new W 32 [.int .i64 1, .string ⟨#[113]⟩, .slice none 0 0]) j u hu
theorem leaf_one : ∀ u ∈ [Value.int .i64 1, .string ⟨#[113]⟩, .slice none 0 0], u.oneCell' = true := by intro u hu; simp at hu; rcases hu with rfl | rfl | rfl <;> rfl
theorem bent_sz (B g : Nat) (A : Option Addr) (zs : List Int) (cap : Nat) (w : World) (hs : Bytes w B A zs) (hg : B ≤ g) (hc : Cur w g A zs.length cap) (hn : zs.length ≤ 1048576) :
 Calls Tryz.prog 36 #[.pointer (some ⟨g, 0, none⟩)] w (BentPostS g A zs.length cap w) := by
 obtain ⟨i0, hi, hz0, hz1, hz2⟩ := info_parts Tryz.infoEx
 have HI := zH (aI hi (aI hz0 (aI hz1 hz2)))
 clear hi hz0 hz1 hz2
 have hgl := hc.lt
 have HS0 := zH (St.start hs hg hc)
 have HN := zH hn
 have HBL := zH (fun (lim : Int) (W : World) (h : St w B g A zs cap W) (h0 : 1 ≤ lim) (h1 : lim ≤ 256) => below_small B g A zs cap lim W h.bytes hg h.cur hn h0 h1)
 have HDR := zH (fun (x : Int) (h0 : 0 ≤ x) (h1 : x < 4) (W : World) (h : St w B g A zs cap W) => show Calls Tryz.prog 48 #[.pointer (some ⟨g, 0, none⟩), .int .i64 (1 + x)] W (DrawPost 128 g A zs.length cap W) by
  obtain ⟨d, hd⟩ : ∃ d : Nat, 1 + x = (d : Int) := ⟨(1 + x).toNat, by omega⟩
  rw [hd]
  exact (draw_any d (by omega) B g A zs cap W h.bytes hg h.cur hn).mono (fun r w' h => draw_wide (by
   have : 2 ^ d ≤ 2 ^ 4 := Nat.pow_le_pow_right (by decide) (by omega)
   omega) h))
 clear hs hc hn
 go_enter Tryz.func36, Tryz.ntmps36
 go_wp2_with fail
 go_at_call 47
 refine (HBL.out 4 _ HS0.out (by decide) (by decide)).mono ?_
 rintro r w1 ⟨x, rfl, x0, x1, hc1, ho1⟩
 have HS1 := zH (HS0.out.call hg hgl hc1 ho1)
 clear hc1 ho1 HS0
 go_wp2_with fail
 go_at_call 48
 refine (HDR.out x x0 x1 _ HS1.out).mono ?_
 rintro r w2 ⟨_, e, bs, rfl, ⟨A2, rfl, his⟩, hge, ht, hc2, ho2⟩
 have HS2 := zH (HS1.out.call hg hgl hc2 ho2)
 have HT := zH (show exTot e ≤ 123 ∧ exSize e ≤ 31 from ⟨by have := ht.1; omega, by have := ht.2; omega⟩)
 have hlt2 := HS2.out.lt
 have HB2 := zH (show Bt w B g A zs cap w2.heap.size e (.slice A2 e.args.length e.args.length) bs (w2.alloc (.cells #[.int .i64 e.kind, .string e.name, .slice A2 e.args.length e.args.length] 32)) from
  ⟨⟨HS2.out.alloc hg _, Row.new w2 _ [.int .i64 e.kind, .string e.name, .slice A2 e.args.length e.args.length], his.below ((wB _ _).alloc (nR _) _)⟩, by omega, hlt2, fun y hy => ⟨draw_high HS1.out hge y hy, Nat.ne_of_lt (his.lt y hy)⟩⟩)
 clear hc2 ho2 his hge ht HS1 HDR hlt2
 go_wp2_with fail
 go_at_call 47
 refine (HBL.out 10 _ HB2.out.two.st (by decide) (by decide)).mono ?_
 rintro r w3 ⟨y, rfl, y0, y1, hc3, ho3⟩
 have HB3 := zH (HB2.out.call hg hgl hc3 ho3)
 clear hc3 ho3 HB2 HS2
 rcases (show y = 0 ∨ y = 1 ∨ y = 2 ∨ 3 ≤ y by omega) with rfl | rfl | rfl | h3
 · go_wp2_with fail
   go_at_call 47
   refine (HBL.out 6 _ HB3.out.two.st (by decide) (by decide)).mono ?_
   rintro r w4 ⟨k, rfl, k0, k1, hc4, ho4⟩
   have HB4 := zH (HB3.out.call hg hgl hc4 ho4)
   clear hc4 ho4 HB3
   obtain ⟨c0, c1, c2, cf⟩ := HB4.out.two.part.facts
   obtain ⟨q0, q1, q2, hq⟩ := HB4.out.two.st.box
   obtain ⟨b0, b1, b2, bf⟩ := hq.facts
   have hbb := HB4.out.wb
   have hbn : w.heap.size ≠ w2.heap.size := by omega
   have hbm : w2.heap.size ≠ w.heap.size := by omega
   go_wp2_with fail
   refine bP (v := .agg #[.int .i64 k, .string e.name, .slice A2 e.args.length e.args.length]) (by simp [results, Tryz.results36, go_sem, b0, b1, b2]) rfl ?_
   exact Bt.fin (Bt.kind HB4.out hg hgl k) hgl ⟨by have := HT.out.1; cases e; simp [exTot, Ex.name, Ex.args] at *; omega, by have := HT.out.2; cases e; simp [exSize, Ex.args] at *; omega⟩
 · have HPK := zH (HB3.out.two.st.pick hg HN.out bents (by decide) (by decide))
   have HAL := zH (HB3.out.alloc hg (.cells (bents.map Value.string).toArray 9))
   go_wp2_with fail
   go_at_call 39
   refine HPK.out.mono ?_
   rintro r w4 ⟨y, hy, rfl, hc4, ho4⟩
   have HY := zH (bents_size y hy)
   have HB4 := zH (HAL.out.call hg hgl hc4 ho4)
   clear hc4 ho4 hy HPK HAL HB3
   obtain ⟨c0, c1, c2, cf⟩ := HB4.out.two.part.facts
   obtain ⟨q0, q1, q2, hq⟩ := HB4.out.two.st.box
   obtain ⟨b0, b1, b2, bf⟩ := hq.facts
   have hbb := HB4.out.wb
   have hbn : w.heap.size ≠ w2.heap.size := by omega
   have hbm : w2.heap.size ≠ w.heap.size := by omega
   go_wp2_with fail
   refine bP (v := .agg #[.int .i64 e.kind, .string y, .slice A2 e.args.length e.args.length]) (by simp [results, Tryz.results36, go_sem, b0, b1, b2]) rfl ?_
   exact Bt.fin (Bt.name HB4.out hg hgl y (by have := HY.out; omega)) hgl ⟨by have := HT.out.1; have := HY.out; cases e; simp [exTot, Ex.name, Ex.args] at *; omega, by have := HT.out.2; cases e; simp [exSize, Ex.args] at *; omega⟩
 · have HB4 := zH (HB3.out.alloc hg (.cells #[.int .i64 1, .string ⟨#[113]⟩, .slice none 0 0] 32))
   obtain ⟨olds, bs0, o1, o2, o3, o4, o5⟩ := olds_of HB4.out.two.is.1
   have HOL := zH (aI o1 (aI o2 (aI o3 (aI o4 o5))))
   have HLN := zH (show e.args.length ≤ 123 by have := HT.out.1; have := tots_ge e.args; cases e; simp [exTot, Ex.args] at *; omega)
   have CM := zH (show e.args.length + 1 ≤ maxLen by unfold maxLen; have := HLN.out; omega)
   have CB := zH (show (e.args.length + 1) * 48 ≤ 140737488355328 by have := HLN.out; omega)
   have HNW := zH (leaf_cells w3)
   clear o1 o2 o3 o4 o5
   obtain ⟨c0, c1, c2, cf⟩ := HB3.out.two.part.facts
   obtain ⟨q0, q1, q2, hq⟩ := HB3.out.two.st.box
   obtain ⟨b0, b1, b2, bf⟩ := hq.facts
   have hbb := HB3.out.wb
   have hbn : w.heap.size ≠ w2.heap.size := by omega
   have hbm : w2.heap.size ≠ w.heap.size := by omega
   go_wp2_with (
    at_builtin; (refine wpList_append_grows _ rfl (.tmp 25) (.tmp 27) 30 rfl 32 i0 (.agg #[.int .i64 0, .string ⟨#[]⟩, .slice none 0 0]) 3 48 Tryz.underlying30 HI.out.1 HI.out.2.1 HI.out.2.2.1 HI.out.2.2.2 rfl (by decide) A2 e.args.length e.args.length olds rfl HOL.out.2.2.1 HOL.out.1 HOL.out.2.1 ⟨w3.heap.size, 0, none⟩ 1 1 [.int .i64 1, .string ⟨#[113]⟩, .slice none 0 0] rfl rfl HNW.out leaf_one (Nat.lt_succ_self _) CM.out CB.out ?_); intro v1 w5 ho5 hg5
    obtain ⟨g5, c5, rfl⟩ := row_shape ho5
    have HB5 := zH (Bt.below HB4.out hg hgl (below_grown hg5))
    have HA5 := zH (Bt.args HB4.out hg hgl HOL.out.1 HOL.out.2.2.2.1 HOL.out.2.2.2.2 ⟨#[113]⟩ q_size ho5 hg5)
    clear ho5 hg5 c0 c1 c2 cf b0 b1 b2 bf hq q0 q1 q2
    obtain ⟨c0, c1, c2, cf⟩ := HB5.out.two.part.facts
    obtain ⟨q0, q1, q2, hq⟩ := HB5.out.two.st.box
    obtain ⟨b0, b1, b2, bf⟩ := hq.facts)
   refine bP (v := .agg #[.int .i64 e.kind, .string e.name, .slice (some ⟨g5, 0, none⟩) (e.args.length + 1) c5]) (by simp [results, Tryz.results36, go_sem, b0, b1, b2]) rfl ?_
   obtain ⟨bs', hA⟩ := HA5.out
   have hf := Bt.fin hA hgl ⟨by have := HT.out.1; cases e; simp [exTot, exTots, tots_one, Ex.name, Ex.args] at *; have h1 : (⟨#[113]⟩ : ByteArray).size = 1 := rfl; omega, by have := HT.out.2; cases e; simp [exSize, exSizes, sizes_one, Ex.args] at *; omega⟩
   exact hf
 have n0 : y ≠ 0 := by omega
 have n1 : y ≠ 1 := by omega
 have n2 : y ≠ 2 := by omega
 obtain ⟨c0, c1, c2, cf⟩ := HB3.out.two.part.facts
 obtain ⟨q0, q1, q2, hq⟩ := HB3.out.two.st.box
 obtain ⟨b0, b1, b2, bf⟩ := hq.facts
 have hbb := HB3.out.wb
 have hbn : w.heap.size ≠ w2.heap.size := by omega
 have hbm : w2.heap.size ≠ w.heap.size := by omega
 go_wp2_with fail
 refine bP (v := .agg #[.int .i64 e.kind, .string e.name, .slice A2 e.args.length e.args.length]) (by simp [results, Tryz.results36, go_sem, b0, b1, b2]) rfl ?_
 exact Bt.fin HB3.out hgl ⟨by have := HT.out.1; omega, by have := HT.out.2; omega⟩
def Strs (w : World) (A : Option Addr) (xs : List ByteArray) : Prop :=
 ∀ i x, xs[i]? = some x → ∃ a, A = some a ∧ w.cell? (a.add i) = some (.string x) ∧ a.block < w.heap.size
theorem block_add (a : Addr) (n : Nat) : (a.add n).block = a.block := by unfold Addr.add; split <;> rfl
theorem Strs.below {w w' : World} {A : Option Addr} {xs : List ByteArray} (h : Strs w A xs) (hb : Below w.heap.size w w') : Strs w' A xs := fun i x hx => by
 obtain ⟨a, e, hc, hl⟩ := h i x hx
 exact ⟨a, e, (hb.cell (p := a.add i) (by rw [block_add]; exact hl)).trans hc, nL hl hb.size⟩
theorem Strs.at_ {w : World} {A : Option Addr} {xs : List ByteArray} (h : Strs w A xs) (k : Nat) (hk : k < xs.length) : ∃ a, A = some a ∧ w.cell? (a.add k) = some (.string xs[k]) ∧ a.block < w.heap.size :=
 h k xs[k] (List.getElem?_eq_getElem hk)
theorem take_nextS {α : Type} (l : List α) (k : Nat) (h : k < l.length) : l.take (k + 1) = l.take k ++ [l[k]] := by
 rw [List.take_succ_eq_append_getElem h]
theorem Strs.get {w : World} {A : Option Addr} {xs : List ByteArray} (h : Strs w A xs) (k : Nat) (hk : k < xs.length) :
 ∃ a x, A = some a ∧ w.cell? (a.add k) = some (.string x) ∧ x ∈ xs ∧ xs[k]? = some x ∧ xs.take (k + 1) = xs.take k ++ [x] ∧ a.block < w.heap.size := by
 obtain ⟨a, e, hc, hl⟩ := h.at_ k hk
 exact ⟨a, xs[k], e, hc, List.getElem_mem hk, List.getElem?_eq_getElem hk, take_nextS xs k hk, hl⟩
end Go.Proofs.YtiaknfnhmoinpaaGreat
namespace Go.Proofs.YtiaknfnhmoinpaaGreat
open Go
def dz (u : Nat) : List UInt8 := if u = 0 then [] else Lib.decDigits u
theorem dz_zero : dz 0 = [] := by simp [dz]
theorem dz_step (u : Nat) (h : u ≠ 0) : dz u = dz (u / 10) ++ [UInt8.ofNat (48 + u % 10)] := by
 unfold dz
 rw [if_neg h]
 by_cases h10 : u < 10
 · rw [if_pos (by omega), Lib.decDigits, dif_pos h10, Nat.mod_eq_of_lt h10]; rfl
 rw [if_neg (by omega), Lib.decDigits, dif_neg h10]
theorem itoa_pos (u : Nat) (h : u ≠ 0) : Lib.itoa (u : Int) = dz u := by
 unfold Lib.itoa dz; rw [if_neg (by omega), if_neg h]; simp
end Go.Proofs.YtiaknfnhmoinpaaGreat
namespace Go.Proofs.YtiaknfnhmoinpaaGreat
open Go
def tailOk (c : UInt8) : Bool := (decide (97 ≤ c.toNat) && decide (c.toNat ≤ 122)) || (decide (48 ≤ c.toNat) && decide (c.toNat ≤ 57))
def tailL (l : List UInt8) : Bool := l.all tailOk
def nameL (lo hi : Nat) : List UInt8 → Bool
 | [] => false
 | c :: r => decide (r.length ≤ 5) && (decide (lo ≤ c.toNat) && decide (c.toNat ≤ hi)) && tailL r
theorem tail_yes {c : UInt8} (h : (97 ≤ c.toNat ∧ c.toNat ≤ 122) ∨ (48 ≤ c.toNat ∧ c.toNat ≤ 57)) : tailOk c = true := by
 unfold tailOk
 rcases h with ⟨h1, h2⟩ | ⟨h1, h2⟩ <;> simp [h1, h2]
theorem tail_not {c : UInt8} (h : c.toNat < 48 ∨ (57 < c.toNat ∧ c.toNat < 97) ∨ 122 < c.toNat) : tailOk c = false := by
 unfold tailOk
 simp only [Bool.or_eq_false_iff, Bool.and_eq_false_iff, decide_eq_false_iff_not]
 omega
theorem tail_step (l : List UInt8) (k : Nat) (c : UInt8) (h : l.drop k = c :: l.drop (k + 1)) (hc : tailOk c = true) : tailL (l.drop k) = tailL (l.drop (k + 1)) := by
 rw [h]; simp [tailL, hc]
theorem tail_stop (l : List UInt8) (k : Nat) (c : UInt8) (h : l.drop k = c :: l.drop (k + 1)) (hc : tailOk c = false) : tailL (l.drop k) = false := by
 rw [h]; simp [tailL, hc]
def idxFrom (s : ByteArray) : Nat → List ByteArray → Int
 | _, [] => -1
 | k, x :: r => if x = s then k else idxFrom s (k + 1) r
def idx (xs : List ByteArray) (s : ByteArray) : Int := idxFrom s 0 xs
theorem idx_not (s : ByteArray) : ∀ (xs : List ByteArray) (k : Nat), s ∉ xs → idxFrom s k xs = -1 := by
 intro xs
 induction xs with
 | nil => intro k _; rfl
 | cons x r ih =>
  intro k h
  rw [idxFrom, if_neg (fun e => h (by rw [e]; exact List.mem_cons_self)), ih _ (fun e => h (List.mem_cons_of_mem _ e))]
theorem idx_yes (s : ByteArray) : ∀ (xs : List ByteArray) (k : Nat), s ∈ xs → (k : Int) ≤ idxFrom s k xs ∧ idxFrom s k xs < k + xs.length := by
 intro xs
 induction xs with
 | nil => intro k h; cases h
 | cons x r ih =>
  intro k h
  rw [idxFrom]
  by_cases e : x = s
  · rw [if_pos e]; simp only [lC]; omega
  rw [if_neg e]
  have h2 : s ∈ r := by
   rcases List.mem_cons.1 h with e2 | h2
   · exact absurd e2.symm e
   exact h2
  have := ih (k + 1) h2
  simp only [lC]; omega
theorem idx_mem (xs : List ByteArray) (s : ByteArray) : 0 ≤ idx xs s ↔ s ∈ xs := by
 constructor
 · intro h
   by_cases hm : s ∈ xs
   · exact hm
   have := idx_not s xs 0 hm
   unfold idx at h; omega
 intro h; have := idx_yes s xs 0 h; unfold idx; omega
theorem idx_ge (xs : List ByteArray) (s : ByteArray) : -1 ≤ idx xs s := by
 by_cases hm : s ∈ xs
 · have := (idx_mem xs s).2 hm; omega
 have := idx_not s xs 0 hm; unfold idx; omega
def distinct (xs : List ByteArray) : Bool := decide xs.Nodup
theorem nodup_take (xs : List ByteArray) (k : Nat) (x : ByteArray) (h : xs.take (k + 1) = xs.take k ++ [x]) : (xs.take (k + 1)).Nodup ↔ (xs.take k).Nodup ∧ x ∉ xs.take k := by
 rw [h, List.nodup_append]
 constructor
 · rintro ⟨h1, -, h2⟩
   exact ⟨h1, fun hm => h2 x hm x (by simp) rfl⟩
 rintro ⟨h1, h2⟩
 exact ⟨h1, by simp, fun a ha b hb e => by rw [List.mem_singleton] at hb; subst hb; subst e; exact h2 ha⟩
theorem nodup_of_take (xs : List ByteArray) (k : Nat) (h : ¬ (xs.take k).Nodup) : ¬ xs.Nodup := fun hn => h (hn.sublist (List.take_sublist k xs))
def uniteFrom : List ByteArray → List ByteArray → List ByteArray
 | out, [] => out
 | out, x :: r => if 0 ≤ idx out x then uniteFrom out r else uniteFrom (out ++ [x]) r
def unite (a b : List ByteArray) : List ByteArray := uniteFrom (uniteFrom [] a) b
theorem unite_len : ∀ (xs out : List ByteArray), (uniteFrom out xs).length ≤ out.length + xs.length := by
 intro xs
 induction xs with
 | nil => intro out; simp [uniteFrom]
 | cons x r ih =>
  intro out
  rw [uniteFrom]
  split
  · have := ih out; simp only [lC]; omega
  have := ih (out ++ [x]); simp only [lA, lC, List.length_nil] at this ⊢; omega
end Go.Proofs.YtiaknfnhmoinpaaGreat
