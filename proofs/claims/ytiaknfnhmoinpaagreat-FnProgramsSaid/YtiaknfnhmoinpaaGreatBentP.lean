/- A part of the proof of the seat's statement: BentP. Condition: as each says. -/
import Derived.Test.YtiaknfnhmoinpaaGreatSpecFmt
set_option maxHeartbeats 8000000
namespace Go.Proofs.YtiaknfnhmoinpaaGreat
open Go Go.RowKit
structure MidPr (l : List Ru) : Prop where
 lo : 1 ≤ l.length
 hi : l.length ≤ 25
 tot : rusTot l ≤ 2000
 each : ∀ r ∈ l, r.params.length ≤ 3 ∧ r.vars.length ≤ 2
structure SmallPr (l : List Ru) : Prop where
 lo : 1 ≤ l.length
 hi : l.length ≤ 10
 tot : rusTot l ≤ 400
 each : ∀ r ∈ l, r.params.length ≤ 2 ∧ r.vars.length ≤ 2
theorem smallPr_is {l : List Ru} (h : smallPr l = true) : SmallPr l := by
 simp only [smallPr, Bool.and_eq_true, decide_eq_true_eq, List.all_eq_true] at h
 exact ⟨h.1.1.1, h.1.1.2, h.1.2, h.2⟩
def BentPPost (g : Nat) (A : Option Addr) (n cap : Nat) (w : World) (r : Ending) (w' : World) : Prop :=
 ∃ v l bs, r = .returned (.agg #[v]) ∧ Dr w.heap.size w' v l bs ∧ MidPr l ∧ Cur w' g A n cap ∧ Only g w w'
theorem SKids.slot {base : Nat} {W : World} {gR n cR : Nat} {l : List Ru} {bs : List Nat} {k : Nat} {r : Ru} (h : SKids base W (.slice (some ⟨gR, 0, none⟩) n cR) l bs) (hk : l[k]? = some r) :
 ∃ v1 v2 u, n = l.length ∧ n ≤ cR ∧ base ≤ gR ∧ gR < W.heap.size ∧ (∀ o, W.frozen? ⟨gR, o, none⟩ = false) ∧ Cells7 W gR (k * 7) (.string r.name) (.string r.con) v1 v2 (.int .i64 r.body.kind) (.string r.body.name) u ∧ OwnsL base W v2 r.params ∧ (∀ x, v2.ownBlock = some x → x ∈ bs ∧ x ≠ gR) ∧
  (∀ s : ByteArray, s.size ≤ 9223372036854775807 → ∃ bs2, Dr base (W.setCell ⟨gR, k * 7, none⟩ (.string s)) (.slice (some ⟨gR, 0, none⟩) n cR) (l.set k { r with name := s }) bs2) ∧
  (∀ s : ByteArray, s.size ≤ 9223372036854775807 → ∃ bs2, Dr base (W.setCell ⟨gR, k * 7 + 1, none⟩ (.string s)) (.slice (some ⟨gR, 0, none⟩) n cR) (l.set k { r with con := s }) bs2) ∧
  (∀ (W2 : World) (y : Value) (ys : List ByteArray), OwnsL base W2 y (r.params ++ ys) → W.grownBy W2 v2.ownBlock → (∀ x ∈ ys, x.size ≤ 9223372036854775807) → ∃ bs2, Dr base (W2.setCell ⟨gR, k * 7 + 3, none⟩ y) (.slice (some ⟨gR, 0, none⟩) n cR) (l.set k { r with params := r.params ++ ys }) bs2) ∧
  (∀ (e2 : Ex) (u2 : Value) (be : List Nat), ExIs W (.agg #[.int .i64 e2.kind, .string e2.name, u2]) e2 be → Fb base W be → gR ∉ be →
   ∃ bs2, Dr base (((W.setCell ⟨gR, k * 7 + 4, none⟩ (.int .i64 e2.kind)).setCell ⟨gR, k * 7 + 5, none⟩ (.string e2.name)).setCell ⟨gR, k * 7 + 6, none⟩ u2) (.slice (some ⟨gR, 0, none⟩) n cR) (l.set k { r with body := e2 }) bs2) := by
 obtain ⟨g, cap, v1, v2, u, e, h2, h3, h4, h5, h6, h7, h8⟩ := h.change hk
 simp only [Value.slice.injEq, Option.some.injEq, Addr.mk.injEq, and_true] at e
 obtain ⟨rfl, rfl, rfl⟩ := e
 exact ⟨v1, v2, u, rfl, h2, h3, h4, h5, h6, h7, h8⟩
structure Bp (w : World) (B g : Nat) (A : Option Addr) (zs : List Int) (cap P : Nat) (v : Value) (l : List Ru) (bs : List Nat) (W : World) : Prop where
 ps : Ps w B g A zs cap W
 res : ∃ x, PBox W w.heap.size x
 box : PBox W P v
 kids : SKids (w.heap.size + 1) W v l bs
 up : w.heap.size < P
 ne : v.ownBlock ≠ some P
 out : P ∉ bs
theorem Bp.call {w : World} {B g : Nat} {A : Option Addr} {zs : List Int} {cap P : Nat} {v : Value} {l : List Ru} {bs : List Nat} {W W2 : World} (h : Bp w B g A zs cap P v l bs W) (hg : B ≤ g) (hgl : g < w.heap.size) (hc : Cur W2 g A zs.length cap) (ho : Only g W W2) : Bp w B g A zs cap P v l bs W2 := by
 have hup := h.up
 obtain ⟨x, hx⟩ := h.res
 exact ⟨h.ps.call hg hc ho, ⟨x, hx.only ho (by omega)⟩, h.box.only ho (by omega), h.kids.keep (S := [g]) ⟨ho.os, ho.tape, ho.output, ho.size, fun k hk hn => ho.block k hk (fun e => hn (by simp [Option.some.inj e]))⟩ (by simp; omega), hup, h.ne, h.out⟩
theorem Bp.drew {w : World} {B g : Nat} {A : Option Addr} {zs : List Int} {cap P : Nat} {v : Value} {l : List Ru} {bs : List Nat} {W : World} (h : Bp w B g A zs cap P v l bs W) : Bp w B g A zs cap P v l bs W.drew :=
 ⟨⟨⟨h.ps.only.os, h.ps.only.tape, h.ps.only.output, h.ps.only.size, h.ps.only.block⟩, h.ps.cur, h.ps.bytes⟩, h.res, h.box, h.kids.keep ((Fr.refl [] W).drew) (by simp), h.up, h.ne, h.out⟩
def Wk (w : World) (B g : Nat) (A : Option Addr) (zs : List Int) (cap P : Nat) (v : Value) (X : World) : Prop := X.cell? ⟨P, 0, none⟩ = some v ∧ Hid (Ps w B g A zs cap X ∧ ∃ x, PBox X w.heap.size x)
theorem Bp.weak {w : World} {B g : Nat} {A : Option Addr} {zs : List Int} {cap P : Nat} {v : Value} {l : List Ru} {bs : List Nat} {W : World} (h : Bp w B g A zs cap P v l bs W) : Wk w B g A zs cap P v W := ⟨h.box.facts.1, zH ⟨h.ps, h.res⟩⟩
theorem Bp.put {w : World} {B g : Nat} {A : Option Addr} {zs : List Int} {cap P gR n cR : Nat} {l : List Ru} {bs : List Nat} {W : World} (h : Bp w B g A zs cap P (.slice (some ⟨gR, 0, none⟩) n cR) l bs W) (hg : B ≤ g) (hgl : g < w.heap.size) (hR : w.heap.size + 1 ≤ gR) (m : Nat) (y : Value) :
 Ps w B g A zs cap (W.setCell ⟨gR, m, none⟩ y) ∧ (∃ x, PBox (W.setCell ⟨gR, m, none⟩ y) w.heap.size x) ∧ PBox (W.setCell ⟨gR, m, none⟩ y) P (.slice (some ⟨gR, 0, none⟩) n cR) := by
 obtain ⟨x, hx⟩ := h.res
 have hne : gR ≠ P := fun e => h.ne (by rw [e]; rfl)
 exact ⟨h.ps.set hg hgl (by omega) m y, ⟨x, (Below.heap_setCell W ⟨gR, m, none⟩ y w.heap.size (by simp; omega)).trans hx⟩, (Below.heap_setCell W ⟨gR, m, none⟩ y P (by simpa using hne.symm)).trans h.box⟩
theorem Bp.putW {w : World} {B g : Nat} {A : Option Addr} {zs : List Int} {cap P gR n cR : Nat} {l : List Ru} {bs : List Nat} {W : World} (h : Bp w B g A zs cap P (.slice (some ⟨gR, 0, none⟩) n cR) l bs W) (hg : B ≤ g) (hgl : g < w.heap.size) (hR : w.heap.size + 1 ≤ gR) (m : Nat) (y : Value) :
 Wk w B g A zs cap P (.slice (some ⟨gR, 0, none⟩) n cR) (W.setCell ⟨gR, m, none⟩ y) := by
 obtain ⟨h1, h2, h3⟩ := h.put hg hgl hR m y
 exact ⟨h3.facts.1, zH ⟨h1, h2⟩⟩
theorem Ps.fr {w : World} {B g : Nat} {A : Option Addr} {zs : List Int} {cap : Nat} {W W2 : World} {S : List Nat} (h : Ps w B g A zs cap W) (hg : B ≤ g) (hgl : g < w.heap.size) (hf : Fr S W W2) (hS : ∀ x ∈ S, w.heap.size ≤ x) : Ps w B g A zs cap W2 := by
 have hsz := h.only.size
 refine ⟨⟨hf.os.trans h.only.os, hf.tape.trans h.only.tape, hf.output.trans h.only.output, nT hsz hf.size, fun i hi hn => (hf.block i (by omega) (fun hx => by have := hS i hx; omega)).trans (h.only.block i hi hn)⟩, ?_, h.bytes.below (hf.below (fun x hx => by have := hS x hx; omega) (by omega))⟩
 have hl := h.cur.lt
 obtain ⟨k, x, hk, hr⟩ := h.cur
 exact ⟨k, x, hk, (hf.block g hl (fun hx => by have := hS g hx; omega)).trans hr⟩
theorem Bp.grown {w : World} {B g : Nat} {A : Option Addr} {zs : List Int} {cap P gR n cR : Nat} {l : List Ru} {bs : List Nat} {W W2 : World} {v2 : Value} (h : Bp w B g A zs cap P (.slice (some ⟨gR, 0, none⟩) n cR) l bs W) (hg : B ≤ g) (hgl : g < w.heap.size) (hR : gR < W.heap.size)
 (hgr : W.grownBy W2 v2.ownBlock) (hob : ∀ x, v2.ownBlock = some x → x ∈ bs ∧ x ≠ gR) : Ps w B g A zs cap W2 ∧ (∃ x, PBox W2 w.heap.size x) ∧ PBox W2 P (.slice (some ⟨gR, 0, none⟩) n cR) ∧ W2.heap[gR]? = W.heap[gR]? := by
 obtain ⟨x, hx⟩ := h.res
 have hlo : ∀ y, v2.ownBlock = some y → w.heap.size + 1 ≤ y ∧ y ≠ P := fun y hy => ⟨(h.kids.mine.range y (hob y hy).1).1, fun e => h.out (by rw [← e]; exact (hob y hy).1)⟩
 exact ⟨h.ps.fr hg hgl (S := v2.ownBlock.toList) (Fr.grown hgr (fun k hk => by simp [hk])) (fun y hy => by have := (hlo y (by simpa using hy)).1; omega), ⟨x, (hgr.block _ hx.facts.2.2 (fun e => by have := (hlo _ e.symm).1; omega)).trans hx⟩,
  (hgr.block _ h.box.facts.2.2 (fun e => (hlo _ e.symm).2 rfl)).trans h.box, hgr.block gR hR (fun e => (hob _ e.symm).2 rfl)⟩
theorem grown_alloc {W W2 : World} {o : Obj} {b : Option Nat} (h : (W.alloc o).grownBy W2 b) : W.grownBy W2 b :=
 ⟨h.os, h.tape, h.output, nT (by simp) h.size, fun i hi hn => (h.block i (by simp; omega) hn).trans (Below.heap_alloc W o i hi)⟩
theorem Bp.alloc {w : World} {B g : Nat} {A : Option Addr} {zs : List Int} {cap P : Nat} {v : Value} {l : List Ru} {bs : List Nat} {W : World} (h : Bp w B g A zs cap P v l bs W) (hg : B ≤ g) (hgl : g < w.heap.size) (o : Obj) : Bp w B g A zs cap P v l bs (W.alloc o) :=
 h.call hg hgl (h.ps.cur.below ((wB _ _).alloc (nR _) o)) (Only.ofBelow ((wB _ _).alloc (nR _) o))
theorem Bp.pickN {w : World} {B g : Nat} {A : Option Addr} {zs : List Int} {cap P : Nat} {v : Value} {l : List Ru} {bs : List Nat} {W : World} (h : Bp w B g A zs cap P v l bs W) (hg : B ≤ g) (hn : zs.length ≤ 1048576) (ss : List ByteArray) (h0 : 1 ≤ ss.length) (h1 : ss.length ≤ 256) :
 Calls Tryz.prog 39 #[.pointer (some ⟨g, 0, none⟩), .slice (some ⟨W.heap.size, 0, none⟩) ss.length ss.length] (W.alloc (.cells (ss.map Value.string).toArray 9)) (PickPost ss g A zs.length cap (W.alloc (.cells (ss.map Value.string).toArray 9))) := h.ps.pickN hg hn ss h0 h1
theorem bent_end {w : World} {B g : Nat} {A : Option Addr} {zs : List Int} {cap : Nat} {v : Value} {l : List Ru} {bs : List Nat} {W : World} (hg : B ≤ g) (hgl : g < w.heap.size) (hp : Ps w B g A zs cap W) (hd : Dr (w.heap.size + 1) W v l bs) (hm : MidPr l) :
 BentPPost g A zs.length cap w (.returned (.agg #[v])) (W.setCell ⟨w.heap.size, 0, none⟩ v) := by
 have h2 := hp.set hg hgl (nR _) 0 v
 have hk : Keeps W (W.setCell ⟨w.heap.size, 0, none⟩ v) bs := keeps_set (fun x hx e => by have h9 := (hd.2 x hx).1; have e2 : x = w.heap.size := e; omega)
 exact ⟨v, l, bs, rfl, ⟨hd.1.keeps hk, fun x hx => by have h9 := (hd.2.keeps hk) x hx; exact ⟨by omega, h9.2⟩⟩, hm, h2.cur, h2.only⟩
theorem rus_set : ∀ (l : List Ru) (k : Nat) (r2 : Ru), rusTot (l.set k r2) ≤ rusTot l + ruTot r2 + 1 := by
 intro l
 induction l with
 | nil => intro k r2; simp [rusTot]
 | cons x t ih =>
  intro k r2
  cases k with
  | zero => rw [tJ, rusTot, rusTot]; omega
  | succ k => rw [uJ, rusTot, rusTot]; have := ih k r2; omega
theorem mid_set {l : List Ru} {k : Nat} {r r2 : Ru} (h : SmallPr l) (hk : l[k]? = some r) (ht : ruTot r2 ≤ ruTot r + 200) (hp : r2.params.length ≤ 3 ∧ r2.vars.length ≤ 2) : MidPr (l.set k r2) := by
 have h1 := rusTot_mem (List.mem_of_getElem? hk)
 have h2 := rus_set l k r2
 have h3 := h.tot
 refine ⟨by rw [List.length_set]; exact h.lo, by rw [List.length_set]; have := h.hi; omega, by omega, fun x hx => ?_⟩
 rcases List.mem_or_eq_of_mem_set hx with hx | rfl
 · have := h.each x hx; omega
 exact hp
theorem SmallPr.mid {l : List Ru} (h : SmallPr l) : MidPr l := ⟨h.lo, by have := h.hi; omega, by have := h.tot; omega, fun x hx => by have := h.each x hx; omega⟩
theorem Wk.set {w : World} {B g : Nat} {A : Option Addr} {zs : List Int} {cap P gR : Nat} {v : Value} {X : World} (h : Wk w B g A zs cap P v X) (hg : B ≤ g) (hgl : g < w.heap.size) (hR : w.heap.size + 1 ≤ gR) (hne : gR ≠ P) (m : Nat) (y : Value) : Wk w B g A zs cap P v (X.setCell ⟨gR, m, none⟩ y) := by
 obtain ⟨h1, x, h2⟩ := h.2.out
 exact ⟨(World.cell?_of_block (w := X) (a := ⟨P, 0, none⟩) (Below.heap_setCell X ⟨gR, m, none⟩ y P (by simpa using hne.symm))).trans h.1, zH ⟨h1.set hg hgl (by omega) m y, x, (Below.heap_setCell X ⟨gR, m, none⟩ y w.heap.size (by simp; omega)).trans h2⟩⟩
structure AccPr (l : List Ru) : Prop where
 lo : 1 ≤ l.length
 hi : l.length ≤ 25
 tot : rusTot l ≤ 400 + l.length * 40
 each : ∀ r ∈ l, r.params.length ≤ 3 ∧ r.vars.length ≤ 2
theorem SmallPr.acc {l : List Ru} (h : SmallPr l) : AccPr l := ⟨h.lo, by have := h.hi; omega, by have := h.tot; omega, fun x hx => by have := h.each x hx; omega⟩
theorem AccPr.mid {l : List Ru} (h : AccPr l) : MidPr l := ⟨h.lo, h.hi, by have := h.tot; have := h.hi; omega, h.each⟩
def lenS : Option Value → Nat
 | some (.slice _ n _) => n
 | _ => 0
theorem Bp.below {w : World} {B g : Nat} {A : Option Addr} {zs : List Int} {cap P : Nat} {v : Value} {l : List Ru} {bs : List Nat} {W W2 : World} (h : Bp w B g A zs cap P v l bs W) (hg : B ≤ g) (hgl : g < w.heap.size) (hb : Below W.heap.size W W2) : Bp w B g A zs cap P v l bs W2 :=
 h.call hg hgl (h.ps.cur.below hb) (Only.ofBelow hb)
theorem Bp.more {w : World} {B g : Nat} {A : Option Addr} {zs : List Int} {cap P gq q cq g5 c9 : Nat} {acc : List Ru} {bs : List Nat} {W W3 : World} {r : Ru} {v1 v2 u : Value} {vs : List Value} {o : Obj} (h : Bp w B g A zs cap P (.slice (some ⟨gq, 0, none⟩) q cq) acc bs W) (hg : B ≤ g) (hgl : g < w.heap.size) (hq : q = acc.length)
 (hvs : W.ownsRow (w.heap.size + 1) 34 7 (.slice (some ⟨gq, 0, none⟩) q cq) acc.length vs ∧ SCells W acc vs bs) (hr : RuS W (.agg #[.string r.name, .string r.con, v1, v2, .int .i64 r.body.kind, .string r.body.name, u]) r [])
 (ho : W3.ownsRow (w.heap.size + 1) 34 7 (.slice (some ⟨g5, 0, none⟩) (q + 1) c9) (q + 1) (vs ++ [.string r.name, .string r.con, v1, v2, .int .i64 r.body.kind, .string r.body.name, u]))
 (hgr : (W.alloc o).grownBy W3 (Value.slice (some ⟨gq, 0, none⟩) q cq).ownBlock) (hat : (Value.slice (some ⟨gq, 0, none⟩) q cq).ownBlock = some g5 ∨ g5 = (W.alloc o).heap.size) :
 (Ps w B g A zs cap W3 ∧ ∃ x, PBox W3 w.heap.size x) ∧ PBox W3 P (.slice (some ⟨gq, 0, none⟩) q cq) ∧
  Bp w B g A zs cap P (.slice (some ⟨g5, 0, none⟩) (q + 1) c9) (acc ++ [r]) (bs ++ []) (W3.setCell ⟨P, 0, none⟩ (.slice (some ⟨g5, 0, none⟩) (q + 1) c9)) := by
 subst hq
 have hup := h.up
 have hP := h.box.facts.2.2
 have hne : gq ≠ P := fun e => h.ne (by rw [e]; rfl)
 have hlt := hvs.1.lt gq rfl
 have hK := h.kids.push (o := o) (C := W.heap.size) (by omega) (fun x hx => by
  rcases hx with hx | hx
  · exact (h.kids.mine.range x hx).2
  exact (hvs.1.lt x hx).2) hvs hr (Mine.nil _ _) ho hgr hat
 have hF3 : Fr [gq] (W.alloc o) W3 := Fr.grown hgr (fun k hk => by simp [Value.ownBlock] at hk; simp [hk])
 have hF : Fr [gq] W W3 := (Fr.alloc W o).trans hF3 (fun x hx => Or.inl hx)
 have hps := h.ps.fr hg hgl hF (fun x hx => by simp at hx; subst hx; omega)
 obtain ⟨x, hx⟩ := h.res
 have hres : PBox W3 w.heap.size x := (hF.block _ hx.facts.2.2 (by simp; omega)).trans hx
 have hbox : PBox W3 P (.slice (some ⟨gq, 0, none⟩) acc.length cq) := (hF.block _ hP (by simp; exact fun e => hne e.symm)).trans h.box
 have h5 : g5 ≠ P := by
  rcases hat with hat | hat
  · simp [Value.ownBlock] at hat; omega
  simp at hat; omega
 have hout : P ∉ bs ++ [] := by rw [List.append_nil]; exact h.out
 refine ⟨⟨hps, x, hres⟩, hbox, ⟨hps.set hg hgl (by omega) 0 _, ⟨x, (Below.heap_setCell W3 ⟨P, 0, none⟩ _ w.heap.size (by simp; omega)).trans hres⟩, hbox.set _, ?_, hup, fun e => h5 (by simpa [Value.ownBlock] using e), hout⟩⟩
 exact hK.on (keeps_set (fun y hy e => hout (by have e2 : y = P := e; rw [← e2]; exact hy))) (fun y hy => by
  simp [Value.ownBlock] at hy
  subst hy
  exact Below.heap_setCell W3 ⟨P, 0, none⟩ _ g5 (by simpa using h5))
def rule9 (nm : ByteArray) : Ru := ⟨nm, ⟨#[]⟩, [], [], .mk 4 ⟨#[]⟩ []⟩
theorem rule9_is (W : World) (nm : ByteArray) (h : nm.size ≤ 30) : RuS W (.agg #[.string (rule9 nm).name, .string (rule9 nm).con, .slice none 0 0, .slice none 0 0, .int .i64 (rule9 nm).body.kind, .string (rule9 nm).body.name, .slice none 0 0]) (rule9 nm) [] :=
 ⟨_, _, _, [], [], [], rfl, (by show nm.size ≤ _; omega), (by show (0 : Nat) ≤ _; omega), rfl, ss_nil W, ps_nil W, leaf_is W 4 ⟨#[]⟩ (by decide)⟩
theorem AccPr.more {l : List Ru} {nm : ByteArray} (h : AccPr l) (hn : nm.size ≤ 30) (hl : l.length < 25) : AccPr (l ++ [rule9 nm]) := by
 refine ⟨by simp, by simp; omega, ?_, fun x hx => ?_⟩
 · have h1 : ruTot (rule9 nm) = nm.size := by
    simp [ruTot, rule9, ssTot, totN, exTot, exTots]
    rfl
   have := h.tot
   rw [rusTot_app, lA]
   simp only [rusTot, lC, List.length_nil]
   omega
 rcases List.mem_append.1 hx with hx | hx
 · exact h.each x hx
 simp at hx; subst hx; simp [rule9]
def bcons : List ByteArray := [⟨#[]⟩, ⟨#[81]⟩, ⟨#[99]⟩, ⟨#[78]⟩]
def bpars : List ByteArray := [⟨#[113]⟩, ⟨#[120]⟩, ⟨#[104]⟩]
def bnames : List ByteArray := [⟨#[97, 112, 112]⟩, ⟨#[97, 100, 100]⟩, ⟨#[70]⟩, ⟨#[97, 98, 99, 100, 101, 102, 103]⟩]
theorem bent_sizes : (∀ x ∈ bcons, x.size ≤ 7) ∧ (∀ x ∈ bpars, x.size ≤ 7) ∧ (∀ x ∈ bnames, x.size ≤ 7) := by decide
theorem bentp_any (B g : Nat) (A : Option Addr) (zs : List Int) (cap : Nat) (w : World) (hs : Bytes w B A zs) (hg : B ≤ g) (hc : Cur w g A zs.length cap) (hn : zs.length ≤ 1048576) :
 Calls Tryz.prog 21 #[.pointer (some ⟨g, 0, none⟩)] w (BentPPost g A zs.length cap w) := by
 have hgl := hc.lt
 have h0 := (Ps.start hs hc).alloc hg (.cells #[.slice none 0 0] 26)
 have H0 := zH h0
 have HN := zH hn
 have HPL := zH (pool_any B g A zs cap _ h0.bytes hg h0.cur hn)
 have HBX := zH (PBox.new w (.slice none 0 0))
 clear hs hc hn h0
 go_enter Tryz.func21, Tryz.ntmps21
 go_wp2_with fail
 go_at_call 46
 refine HPL.out.mono ?_
 rintro r w1 ⟨v, l, bs, rfl, hk1, hsm, hc1, ho1⟩
 obtain ⟨r0, hr0⟩ : ∃ r0, l[0]? = some r0 := ⟨_, List.getElem?_eq_getElem (by have := (smallPr_is hsm).lo; omega)⟩
 obtain ⟨gR, cR, -, -, -, rfl, h5, h6, h7, -⟩ := hk1.change hr0
 obtain ⟨n, hln⟩ : ∃ n, n = l.length := ⟨_, rfl⟩
 rw [← hln] at hk1 ⊢
 have hP := (HBX.out.only ho1 (by omega)).facts.2.2
 have HB := zH (show Bp w B g A zs cap w1.heap.size (.slice (some ⟨gR, 0, none⟩) n cR) l bs (w1.alloc (.cells #[.slice (some ⟨gR, 0, none⟩) n cR] 26)) from by
  have hb := (wB _ w1).alloc (nR _) (.cells #[.slice (some ⟨gR, 0, none⟩) n cR] 26)
  have hps := H0.out.call hg hc1 ho1
  refine ⟨hps.alloc hg _, ⟨_, (HBX.out.only ho1 (by omega)).below hb⟩, PBox.new w1 _, ?_, hP, fun e => ?_, fun hx => ?_⟩
  · have h9 := hk1.keep (Fr.alloc (S := []) w1 (.cells #[.slice (some ⟨gR, 0, none⟩) n cR] 26)) (by simp)
    simp only [World.size_alloc] at h9
    exact h9
  · have := h7; simp [Value.ownBlock] at e; omega
  have := (hk1.mine.range _ hx).2; omega)
 have HSM := zH (smallPr_is hsm)
 have HLN := zH hln
 have hn1 : 1 ≤ n := by have := HSM.out.lo; omega
 have hn2 : n ≤ 10 := by have := HSM.out.hi; omega
 clear hk1 hsm hc1 ho1 hr0 hln HPL H0 HBX
 obtain ⟨p0, pf, pl⟩ := HB.out.box.facts
 go_wp2_with fail
 go_at_call 47
 refine (HB.out.ps.num hg HN.out (n : Int) (by omega) (by omega)).mono ?_
 rintro r w2 ⟨x, rfl, x0, x1, hc2, ho2⟩
 have HB2 := zH (HB.out.call hg hgl hc2 ho2)
 obtain ⟨k, rfl⟩ : ∃ k : Nat, x = (k : Int) := ⟨x.toNat, by omega⟩
 have hkn : k < n := by omega
 obtain ⟨r, hr⟩ : ∃ r, l[k]? = some r := ⟨_, List.getElem?_eq_getElem (by rw [← HLN.out]; exact hkn)⟩
 have HR := zH hr
 clear hc2 ho2 hr HB p0 pf pl
 go_wp2_with fail
 go_at_call 47
 refine (HB2.out.ps.num hg HN.out 12 (by omega) (by omega)).mono ?_
 rintro r' w3 ⟨y, rfl, y0, y1, hc3, ho3⟩
 have HB3 := zH (HB2.out.call hg hgl hc3 ho3)
 clear hc3 ho3 HB2
 obtain ⟨p0, pf, pl⟩ := HB3.out.box.facts
 obtain ⟨x9, hx9⟩ := HB3.out.res
 obtain ⟨q0, qf, ql⟩ := hx9.facts
 have hup := HB3.out.up
 obtain ⟨-, -, -, -, -, -, hgR3, -⟩ := HB3.out.kids.slot HR.out
 clear hx9
 rcases (show y = 0 ∨ y = 1 ∨ y = 2 ∨ y = 3 ∨ y = 4 ∨ 5 ≤ y by omega) with rfl | rfl | rfl | rfl | rfl | h5
 · have HPK := zH (HB3.out.drew.pickN hg HN.out bcons (by decide) (by decide))
   have HAL := zH (HB3.out.drew.alloc hg hgl (.cells (bcons.map Value.string).toArray 9))
   go_wp2_with fail
   go_region_held3 (fun X => X.cell? ⟨w1.heap.size, 0, none⟩ = some (.slice (some ⟨gR, 0, none⟩) n cR) ∧ Hid (Ps w B g A zs cap X ∧ ∃ x, PBox X w.heap.size x))
    (first | exact HB3.out.drew.weak | exact HAL.out.weak | exact HB4.out.weak | exact HB4.out.putW hg hgl hl2 _ _)
    (first | (go_at_call 39; refine HPK.out.mono ?_; rintro r4 w4 ⟨s, hs, rfl, hc4, ho4⟩; have HS := zH (bent_sizes.1 s hs); have HB4 := zH (HAL.out.call hg hgl hc4 ho4); obtain ⟨v1, v2, u, -, hl1, hl2, hl3, hl4, hl5, hl6, hl7, h6, h7, h8, h9⟩ := HB4.out.kids.slot HR.out; obtain ⟨c0, c1, c2, c3, c4, c5, c6⟩ := hl5; have f1 := hl4 (k * 7 + 1); have HZ := zH h7; clear hc4 ho4 hs h6 h7 h8 h9 hl4 hl6 hl7))
   obtain ⟨bs2, hd⟩ := HZ.out s (by have := HS.out; omega)
   obtain ⟨hps, ⟨x8, hx8⟩, hpb⟩ := HB4.out.put hg hgl hl2 (k * 7 + 1) (.string s)
   have HD := zH (bent_end hg hgl hps hd (mid_set HSM.out HR.out (by have := HS.out; unfold ruTot; dsimp only; omega) (by have := HSM.out.each r (List.mem_of_getElem? HR.out); dsimp only; omega)))
   have hfin := (hx8.set (.slice (some ⟨gR, 0, none⟩) n cR)).facts.1
   clear hd p0 pf pl q0 qf ql
   obtain ⟨p0, pf, pl⟩ := hpb.facts
   obtain ⟨q0, qf, ql⟩ := hx8.facts
   clear hps hx8 hpb HZ HB4 c0 c1 c2 c3 c4 c5 c6 f1
   generalize w4.setCell ⟨gR, k * 7 + 1, none⟩ (.string s) = W5 at *
   go_wp2_with fail
   refine bP (v := .agg #[.slice (some ⟨gR, 0, none⟩) n cR]) (by simp [results, Tryz.results21, go_sem, hfin]) rfl ?_
   exact HD.out
 · obtain ⟨i0, hi, hz0, hz1, hz2⟩ := info_parts Tryz.info9u
   have HI := zH (aI hi (aI hz0 (aI hz1 hz2)))
   clear hi hz0 hz1 hz2
   have HPK := zH (HB3.out.drew.pickN hg HN.out bpars (by decide) (by decide))
   have HAL := zH (HB3.out.drew.alloc hg hgl (.cells (bpars.map Value.string).toArray 9))
   obtain ⟨v1, v2, u, -, hl1, hl2, hl3, hl4, hl5, hl6, hl7, -⟩ := HB3.out.kids.slot HR.out
   obtain ⟨A2, c2, rfl, -⟩ := hl6.shape
   obtain ⟨c0, c1, -, c3, c4, c5, c6⟩ := hl5
   have HOB := zH hl7
   have hnP : gR ≠ w1.heap.size := fun e => HB3.out.ne (by rw [e]; rfl)
   have CM := zH (show r.params.length + 1 ≤ maxLen by unfold maxLen; have := HSM.out.each r (List.mem_of_getElem? HR.out); omega)
   have CB := zH (show (r.params.length + 1) * 16 ≤ 140737488355328 by have := HSM.out.each r (List.mem_of_getElem? HR.out); omega)
   clear hl4 hl6 hl7
   have HC4 := zH (fun (X : World) (hX : Bp w B g A zs cap w1.heap.size (.slice (some ⟨gR, 0, none⟩) n cR) l bs X) (ho : Only g (w3.drew.alloc (.cells (bpars.map Value.string).toArray 9)) X) => show X.cell? ⟨gR, k * 7 + 3, none⟩ = some (.slice A2 r.params.length c2) ∧ X.frozen? ⟨gR, k * 7 + 3, none⟩ = false ∧ gR < X.heap.size ∧
    Hid (∀ (W2 : World) (y : Value) (ys : List ByteArray), OwnsL (w.heap.size + 1) W2 y (r.params ++ ys) → X.grownBy W2 (Value.slice A2 r.params.length c2).ownBlock → (∀ x ∈ ys, x.size ≤ 9223372036854775807) → ∃ bs2, Dr (w.heap.size + 1) (W2.setCell ⟨gR, k * 7 + 3, none⟩ y) (.slice (some ⟨gR, 0, none⟩) n cR) (l.set k { r with params := r.params ++ ys }) bs2) ∧
    Hid (OwnsL (w.heap.size + 1) X (.slice A2 r.params.length c2) r.params) from by
    obtain ⟨z1, z2, zu, -, -, -, hz3, hz4, hz5, hz6, hz7, -, -, hz8, -⟩ := hX.kids.slot HR.out
    have hz9 := hz5.c3
    rw [(ocell ho).1 gR (k * 7 + 3) (by simp; omega) (by omega)] at hz9
    have hz10 := hz9.symm.trans ((World.cell?_of_block (w := w3) (a := ⟨gR, k * 7 + 3, none⟩) (Below.heap_alloc w3.drew _ gR (by simpa using hl3))).trans c3)
    obtain rfl := Option.some.inj hz10
    exact ⟨hz5.c3, hz4 (k * 7 + 3), hz3, zH hz8, zH hz6⟩)
   go_wp2_with fail
   refine wp_region_held_drew (S := (fun X => X.cell? ⟨w1.heap.size, 0, none⟩ = some (.slice (some ⟨gR, 0, none⟩) n cR) ∧ Hid (Ps w B g A zs cap X ∧ ∃ x, PBox X w.heap.size x))) (by kernel_rfl) ?_ (fun hHeld => ?_)
   · exact HB3.out.drew.weak
   refine zT (i := 0) (v := (.pointer (some ⟨w1.heap.size, 0, none⟩))) rfl (fun w hSw => ?_) hHeld ?_
   · (try dsimp only at hSw)
     go_simp
   try simp only [Act.put, sJ]
   refine zT (i := 1) (v := (.slice (some ⟨gR, 0, none⟩) n cR)) rfl (fun w hSw => ?_) hHeld ?_
   · (try dsimp only at hSw)
     go_simp
   try simp only [Act.put]
   refine zT (i := 2) (v := (.int .i64 (k : Int))) rfl (fun w hSw => ?_) hHeld ?_
   · (try dsimp only at hSw)
     go_simp
   try simp only [Act.put]
   refine zT (i := 3) (v := (.pointer (some ⟨w1.heap.size, 0, none⟩))) rfl (fun w hSw => ?_) hHeld ?_
   · (try dsimp only at hSw)
     go_simp
   try simp only [Act.put]
   refine zT (i := 4) (v := (.slice (some ⟨gR, 0, none⟩) n cR)) rfl (fun w hSw => ?_) hHeld ?_
   · (try dsimp only at hSw)
     go_simp
   try simp only [Act.put]
   refine zT (i := 5) (v := (.int .i64 (k : Int))) rfl (fun w hSw => ?_) hHeld ?_
   · (try dsimp only at hSw)
     go_simp
   try simp only [Act.put]
   refine zT (i := 6) (v := (.pointer (some ⟨gR, k * 7, none⟩))) rfl (fun w hSw => ?_) hHeld ?_
   · (try dsimp only at hSw)
     go_simp
   try simp only [Act.put]
   refine zT (i := 7) (v := (.pointer (some ⟨gR, k * 7 + 3, none⟩))) rfl (fun w hSw => ?_) hHeld ?_
   · (try dsimp only at hSw)
     go_simp
   try simp only [Act.put]
   refine zT (i := 9) (v := (.pointer (some ⟨g, 0, none⟩))) rfl (fun w hSw => ?_) hHeld ?_
   · (try dsimp only at hSw)
     go_simp
   try simp only [Act.put]
   refine wpAnyH_ready (rs := [8, 10]) (by kernel_rfl) (by simp) ?_
   refine AllReadyH.cons rfl (fun K hK => ?_) (AllReadyH.cons rfl (fun K hK => ?_) AllReadyH.nil)
   · go_simp
     refine hK.out _ _ hHeld (fun hHeld => ?_)
     try simp only [Act.put, sJ, tJ, uJ]
     refine zC (i := 10) rfl fun K hK => ?_
     clear hHeld
     go_simp
     refine hK.out _ _ HAL.out.weak (fun hHeld => ?_)
     try simp only [Act.put, sJ, tJ, uJ]
     refine zC (i := 11) rfl fun K hK => ?_
     clear hHeld
     go_simp
     go_at_call 39
     refine HPK.out.mono ?_
     rintro r4 w4 ⟨s, hs, rfl, hc4, ho4⟩
     have HS := zH (bent_sizes.2.1 s hs)
     have HB4 := zH (HAL.out.call hg hgl hc4 ho4)
     obtain ⟨d3, g3, hz3, HZ, HZ6⟩ := HC4.out w4 HB4.out ho4
     obtain ⟨p0, pf, pl⟩ := HB4.out.box.facts
     clear hc4 ho4 hs
     refine hK.out _ _ HB4.out.weak (fun hHeld => ?_)
     try simp only [Act.put, sJ, tJ, uJ]
     refine zC (i := 12) rfl fun K hK => ?_
     clear hHeld
     go_simp
     refine hK.out _ _ (HB4.out.alloc hg hgl _).weak (fun hHeld => ?_)
     try simp only [Act.put, sJ, tJ, uJ]
     clear hHeld
     refine zC (i := 13) rfl fun K hK => ?_
     refine step_append_lies _ (by rfl) _ _ _ (by rfl) (w.heap.size + 1) 9 i0 _ 1 16 Tryz.underlying29 HI.out.1 HI.out.2.1 HI.out.2.2.1 HI.out.2.2.2 rfl (by decide) (.slice A2 r.params.length c2) r.params.length (r.params.map Value.string) (by rfl) (World.ownsRow.alloc HZ6.out _) ⟨w4.heap.size, 0, none⟩ 1 1 [.string s] (by rfl) (by rfl) (World.news_of_block (heap_alloc_new w4 _)) one_new (by decide) CM.out CB.out (by simp; omega) (w4.heap.size + 1) (by simp) ?_
     intro g5 cq w5 ho5 hg5 hat5 hlt5
     have HG5 := zH (grown_alloc hg5)
     obtain ⟨hp5, ⟨x5, hx5⟩, hb5, hr5⟩ := HB4.out.grown hg hgl hz3 HG5.out HOB.out
     have H5 := zH (show Wk w B g A zs cap w1.heap.size (.slice (some ⟨gR, 0, none⟩) n cR) w5 from ⟨hb5.facts.1, zH ⟨hp5, x5, hx5⟩⟩)
     clear p0 pf pl
     obtain ⟨p0, pf, pl⟩ := hb5.facts
     have e3 := (World.cell?_of_block (w := w4) (a := ⟨gR, k * 7 + 3, none⟩) hr5).trans d3
     have k3 := (World.frozen?_of_block (w := w4) (a := ⟨gR, k * 7 + 3, none⟩) hr5).trans g3
     have HY5 := zH (OwnsL.next ho5)
     clear ho5 hg5 hat5 hp5 hx5 hb5 hr5
     refine hK.out _ _ H5.out (fun hHeld => ?_)
     try simp only [Act.put, sJ]
     refine zT (i := 14) (v := (.pointer (some ⟨gR, k * 7, none⟩))) rfl (fun w hSw => ?_) hHeld ?_
     · (try dsimp only at hSw)
       go_simp
     try simp only [Act.put]
     refine zT (i := 15) (v := (.pointer (some ⟨gR, k * 7 + 3, none⟩))) rfl (fun w hSw => ?_) hHeld ?_
     · (try dsimp only at hSw)
       go_simp
     try simp only [Act.put]
     clear hHeld
     refine zC (i := 16) rfl fun K hK => ?_
     go_simp
     refine hK.out _ _ (H5.out.set hg hgl hl2 hnP _ _) (fun hHeld => ?_)
     try simp only [Act.put, sJ, tJ, uJ]
     refine wpAnyH_done (by kernel_rfl) ?_ _
     obtain ⟨bs2, hd⟩ := HZ.out w5 (.slice (some ⟨g5, 0, none⟩) (r.params.length + 1) cq) [s] HY5.out HG5.out (fun x hx => by have := HS.out; simp at hx; subst hx; omega)
     have hw1 := H5.out.set hg hgl hl2 hnP (k * 7 + 3) (.slice (some ⟨g5, 0, none⟩) (r.params.length + 1) cq)
     obtain ⟨hps, x8, hx8⟩ := hw1.2.out
     have HD := zH (bent_end hg hgl hps hd (mid_set HSM.out HR.out (by have := HS.out; unfold ruTot; dsimp only; rw [ssTot_app]; simp [ssTot, totN]; omega) (by have := HSM.out.each r (List.mem_of_getElem? HR.out); simp; omega)))
     have hfin := (hx8.set (.slice (some ⟨gR, 0, none⟩) n cR)).facts.1
     have hp9 := hw1.1
     clear hd p0 pf pl q0 qf ql hw1 hHeld
     obtain ⟨q0, qf, ql⟩ := hx8.facts
     clear hps hx8 HZ HZ6 HB4 HB3 HPK HAL HC4 H5 HY5 HG5 c0 c1 c3 c4 c5 c6 d3 g3 e3 k3
     generalize w5.setCell ⟨gR, k * 7 + 3, none⟩ (.slice (some ⟨g5, 0, none⟩) (r.params.length + 1) cq) = W5 at *
     go_wp2_with fail
     refine bP (v := .agg #[.slice (some ⟨gR, 0, none⟩) n cR]) (by simp [results, Tryz.results21, go_sem, hfin]) rfl ?_
     exact HD.out
   clear hHeld
   go_simp
   refine hK.out _ _ HAL.out.weak (fun hHeld => ?_)
   try simp only [Act.put, sJ, tJ, uJ]
   refine wpAnyH_ready (rs := [8, 11]) (by kernel_rfl) (by simp) ?_
   refine AllReadyH.cons rfl (fun K hK => ?_) (AllReadyH.cons rfl (fun K hK => ?_) AllReadyH.nil)
   · go_simp
     refine hK.out _ _ hHeld (fun hHeld => ?_)
     try simp only [Act.put, sJ, tJ, uJ]
     refine zC (i := 11) rfl fun K hK => ?_
     clear hHeld
     go_simp
     go_at_call 39
     refine HPK.out.mono ?_
     rintro r4 w4 ⟨s, hs, rfl, hc4, ho4⟩
     have HS := zH (bent_sizes.2.1 s hs)
     have HB4 := zH (HAL.out.call hg hgl hc4 ho4)
     obtain ⟨d3, g3, hz3, HZ, HZ6⟩ := HC4.out w4 HB4.out ho4
     obtain ⟨p0, pf, pl⟩ := HB4.out.box.facts
     clear hc4 ho4 hs
     refine hK.out _ _ HB4.out.weak (fun hHeld => ?_)
     try simp only [Act.put, sJ, tJ, uJ]
     refine zC (i := 12) rfl fun K hK => ?_
     clear hHeld
     go_simp
     refine hK.out _ _ (HB4.out.alloc hg hgl _).weak (fun hHeld => ?_)
     try simp only [Act.put, sJ, tJ, uJ]
     clear hHeld
     refine zC (i := 13) rfl fun K hK => ?_
     refine step_append_lies _ (by rfl) _ _ _ (by rfl) (w.heap.size + 1) 9 i0 _ 1 16 Tryz.underlying29 HI.out.1 HI.out.2.1 HI.out.2.2.1 HI.out.2.2.2 rfl (by decide) (.slice A2 r.params.length c2) r.params.length (r.params.map Value.string) (by rfl) (World.ownsRow.alloc HZ6.out _) ⟨w4.heap.size, 0, none⟩ 1 1 [.string s] (by rfl) (by rfl) (World.news_of_block (heap_alloc_new w4 _)) one_new (by decide) CM.out CB.out (by simp; omega) (w4.heap.size + 1) (by simp) ?_
     intro g5 cq w5 ho5 hg5 hat5 hlt5
     have HG5 := zH (grown_alloc hg5)
     obtain ⟨hp5, ⟨x5, hx5⟩, hb5, hr5⟩ := HB4.out.grown hg hgl hz3 HG5.out HOB.out
     have H5 := zH (show Wk w B g A zs cap w1.heap.size (.slice (some ⟨gR, 0, none⟩) n cR) w5 from ⟨hb5.facts.1, zH ⟨hp5, x5, hx5⟩⟩)
     clear p0 pf pl
     obtain ⟨p0, pf, pl⟩ := hb5.facts
     have e3 := (World.cell?_of_block (w := w4) (a := ⟨gR, k * 7 + 3, none⟩) hr5).trans d3
     have k3 := (World.frozen?_of_block (w := w4) (a := ⟨gR, k * 7 + 3, none⟩) hr5).trans g3
     have HY5 := zH (OwnsL.next ho5)
     clear ho5 hg5 hat5 hp5 hx5 hb5 hr5
     refine hK.out _ _ H5.out (fun hHeld => ?_)
     try simp only [Act.put, sJ]
     refine zT (i := 14) (v := (.pointer (some ⟨gR, k * 7, none⟩))) rfl (fun w hSw => ?_) hHeld ?_
     · (try dsimp only at hSw)
       go_simp
     try simp only [Act.put]
     refine zT (i := 15) (v := (.pointer (some ⟨gR, k * 7 + 3, none⟩))) rfl (fun w hSw => ?_) hHeld ?_
     · (try dsimp only at hSw)
       go_simp
     try simp only [Act.put]
     clear hHeld
     refine zC (i := 16) rfl fun K hK => ?_
     go_simp
     refine hK.out _ _ (H5.out.set hg hgl hl2 hnP _ _) (fun hHeld => ?_)
     try simp only [Act.put, sJ, tJ, uJ]
     refine wpAnyH_done (by kernel_rfl) ?_ _
     obtain ⟨bs2, hd⟩ := HZ.out w5 (.slice (some ⟨g5, 0, none⟩) (r.params.length + 1) cq) [s] HY5.out HG5.out (fun x hx => by have := HS.out; simp at hx; subst hx; omega)
     have hw1 := H5.out.set hg hgl hl2 hnP (k * 7 + 3) (.slice (some ⟨g5, 0, none⟩) (r.params.length + 1) cq)
     obtain ⟨hps, x8, hx8⟩ := hw1.2.out
     have HD := zH (bent_end hg hgl hps hd (mid_set HSM.out HR.out (by have := HS.out; unfold ruTot; dsimp only; rw [ssTot_app]; simp [ssTot, totN]; omega) (by have := HSM.out.each r (List.mem_of_getElem? HR.out); simp; omega)))
     have hfin := (hx8.set (.slice (some ⟨gR, 0, none⟩) n cR)).facts.1
     have hp9 := hw1.1
     clear hd p0 pf pl q0 qf ql hw1 hHeld
     obtain ⟨q0, qf, ql⟩ := hx8.facts
     clear hps hx8 HZ HZ6 HB4 HB3 HPK HAL HC4 H5 HY5 HG5 c0 c1 c3 c4 c5 c6 d3 g3 e3 k3
     generalize w5.setCell ⟨gR, k * 7 + 3, none⟩ (.slice (some ⟨g5, 0, none⟩) (r.params.length + 1) cq) = W5 at *
     go_wp2_with fail
     refine bP (v := .agg #[.slice (some ⟨gR, 0, none⟩) n cR]) (by simp [results, Tryz.results21, go_sem, hfin]) rfl ?_
     exact HD.out
   clear hHeld
   go_simp
   go_at_call 39
   refine HPK.out.mono ?_
   rintro r4 w4 ⟨s, hs, rfl, hc4, ho4⟩
   have HS := zH (bent_sizes.2.1 s hs)
   have HB4 := zH (HAL.out.call hg hgl hc4 ho4)
   obtain ⟨d3, g3, hz3, HZ, HZ6⟩ := HC4.out w4 HB4.out ho4
   obtain ⟨p0, pf, pl⟩ := HB4.out.box.facts
   clear hc4 ho4 hs
   refine hK.out _ _ HB4.out.weak (fun hHeld => ?_)
   try simp only [Act.put, sJ, tJ, uJ]
   refine wpAnyH_ready (rs := [8, 12]) (by kernel_rfl) (by simp) ?_
   refine AllReadyH.cons rfl (fun K hK => ?_) (AllReadyH.cons rfl (fun K hK => ?_) AllReadyH.nil)
   · go_simp
     refine hK.out _ _ hHeld (fun hHeld => ?_)
     try simp only [Act.put, sJ, tJ, uJ]
     refine zC (i := 12) rfl fun K hK => ?_
     clear hHeld
     go_simp
     refine hK.out _ _ (HB4.out.alloc hg hgl _).weak (fun hHeld => ?_)
     try simp only [Act.put, sJ, tJ, uJ]
     clear hHeld
     refine zC (i := 13) rfl fun K hK => ?_
     refine step_append_lies _ (by rfl) _ _ _ (by rfl) (w.heap.size + 1) 9 i0 _ 1 16 Tryz.underlying29 HI.out.1 HI.out.2.1 HI.out.2.2.1 HI.out.2.2.2 rfl (by decide) (.slice A2 r.params.length c2) r.params.length (r.params.map Value.string) (by rfl) (World.ownsRow.alloc HZ6.out _) ⟨w4.heap.size, 0, none⟩ 1 1 [.string s] (by rfl) (by rfl) (World.news_of_block (heap_alloc_new w4 _)) one_new (by decide) CM.out CB.out (by simp; omega) (w4.heap.size + 1) (by simp) ?_
     intro g5 cq w5 ho5 hg5 hat5 hlt5
     have HG5 := zH (grown_alloc hg5)
     obtain ⟨hp5, ⟨x5, hx5⟩, hb5, hr5⟩ := HB4.out.grown hg hgl hz3 HG5.out HOB.out
     have H5 := zH (show Wk w B g A zs cap w1.heap.size (.slice (some ⟨gR, 0, none⟩) n cR) w5 from ⟨hb5.facts.1, zH ⟨hp5, x5, hx5⟩⟩)
     clear p0 pf pl
     obtain ⟨p0, pf, pl⟩ := hb5.facts
     have e3 := (World.cell?_of_block (w := w4) (a := ⟨gR, k * 7 + 3, none⟩) hr5).trans d3
     have k3 := (World.frozen?_of_block (w := w4) (a := ⟨gR, k * 7 + 3, none⟩) hr5).trans g3
     have HY5 := zH (OwnsL.next ho5)
     clear ho5 hg5 hat5 hp5 hx5 hb5 hr5
     refine hK.out _ _ H5.out (fun hHeld => ?_)
     try simp only [Act.put, sJ]
     refine zT (i := 14) (v := (.pointer (some ⟨gR, k * 7, none⟩))) rfl (fun w hSw => ?_) hHeld ?_
     · (try dsimp only at hSw)
       go_simp
     try simp only [Act.put]
     refine zT (i := 15) (v := (.pointer (some ⟨gR, k * 7 + 3, none⟩))) rfl (fun w hSw => ?_) hHeld ?_
     · (try dsimp only at hSw)
       go_simp
     try simp only [Act.put]
     clear hHeld
     refine zC (i := 16) rfl fun K hK => ?_
     go_simp
     refine hK.out _ _ (H5.out.set hg hgl hl2 hnP _ _) (fun hHeld => ?_)
     try simp only [Act.put, sJ, tJ, uJ]
     refine wpAnyH_done (by kernel_rfl) ?_ _
     obtain ⟨bs2, hd⟩ := HZ.out w5 (.slice (some ⟨g5, 0, none⟩) (r.params.length + 1) cq) [s] HY5.out HG5.out (fun x hx => by have := HS.out; simp at hx; subst hx; omega)
     have hw1 := H5.out.set hg hgl hl2 hnP (k * 7 + 3) (.slice (some ⟨g5, 0, none⟩) (r.params.length + 1) cq)
     obtain ⟨hps, x8, hx8⟩ := hw1.2.out
     have HD := zH (bent_end hg hgl hps hd (mid_set HSM.out HR.out (by have := HS.out; unfold ruTot; dsimp only; rw [ssTot_app]; simp [ssTot, totN]; omega) (by have := HSM.out.each r (List.mem_of_getElem? HR.out); simp; omega)))
     have hfin := (hx8.set (.slice (some ⟨gR, 0, none⟩) n cR)).facts.1
     have hp9 := hw1.1
     clear hd p0 pf pl q0 qf ql hw1 hHeld
     obtain ⟨q0, qf, ql⟩ := hx8.facts
     clear hps hx8 HZ HZ6 HB4 HB3 HPK HAL HC4 H5 HY5 HG5 c0 c1 c3 c4 c5 c6 d3 g3 e3 k3
     generalize w5.setCell ⟨gR, k * 7 + 3, none⟩ (.slice (some ⟨g5, 0, none⟩) (r.params.length + 1) cq) = W5 at *
     go_wp2_with fail
     refine bP (v := .agg #[.slice (some ⟨gR, 0, none⟩) n cR]) (by simp [results, Tryz.results21, go_sem, hfin]) rfl ?_
     exact HD.out
   clear hHeld
   go_simp
   refine hK.out _ _ (HB4.out.alloc hg hgl _).weak (fun hHeld => ?_)
   try simp only [Act.put, sJ, tJ, uJ]
   refine zC (i := 8) rfl fun K hK => ?_
   go_simp
   refine hK.out _ _ hHeld (fun hHeld => ?_)
   try simp only [Act.put, sJ, tJ, uJ]
   clear hHeld
   refine zC (i := 13) rfl fun K hK => ?_
   refine step_append_lies _ (by rfl) _ _ _ (by rfl) (w.heap.size + 1) 9 i0 _ 1 16 Tryz.underlying29 HI.out.1 HI.out.2.1 HI.out.2.2.1 HI.out.2.2.2 rfl (by decide) (.slice A2 r.params.length c2) r.params.length (r.params.map Value.string) (by rfl) (World.ownsRow.alloc HZ6.out _) ⟨w4.heap.size, 0, none⟩ 1 1 [.string s] (by rfl) (by rfl) (World.news_of_block (heap_alloc_new w4 _)) one_new (by decide) CM.out CB.out (by simp; omega) (w4.heap.size + 1) (by simp) ?_
   intro g5 cq w5 ho5 hg5 hat5 hlt5
   have HG5 := zH (grown_alloc hg5)
   obtain ⟨hp5, ⟨x5, hx5⟩, hb5, hr5⟩ := HB4.out.grown hg hgl hz3 HG5.out HOB.out
   have H5 := zH (show Wk w B g A zs cap w1.heap.size (.slice (some ⟨gR, 0, none⟩) n cR) w5 from ⟨hb5.facts.1, zH ⟨hp5, x5, hx5⟩⟩)
   clear p0 pf pl
   obtain ⟨p0, pf, pl⟩ := hb5.facts
   have e3 := (World.cell?_of_block (w := w4) (a := ⟨gR, k * 7 + 3, none⟩) hr5).trans d3
   have k3 := (World.frozen?_of_block (w := w4) (a := ⟨gR, k * 7 + 3, none⟩) hr5).trans g3
   have HY5 := zH (OwnsL.next ho5)
   clear ho5 hg5 hat5 hp5 hx5 hb5 hr5
   refine hK.out _ _ H5.out (fun hHeld => ?_)
   try simp only [Act.put, sJ]
   refine zT (i := 14) (v := (.pointer (some ⟨gR, k * 7, none⟩))) rfl (fun w hSw => ?_) hHeld ?_
   · (try dsimp only at hSw)
     go_simp
   try simp only [Act.put]
   refine zT (i := 15) (v := (.pointer (some ⟨gR, k * 7 + 3, none⟩))) rfl (fun w hSw => ?_) hHeld ?_
   · (try dsimp only at hSw)
     go_simp
   try simp only [Act.put]
   clear hHeld
   refine zC (i := 16) rfl fun K hK => ?_
   go_simp
   refine hK.out _ _ (H5.out.set hg hgl hl2 hnP _ _) (fun hHeld => ?_)
   try simp only [Act.put, sJ, tJ, uJ]
   refine wpAnyH_done (by kernel_rfl) ?_ _
   obtain ⟨bs2, hd⟩ := HZ.out w5 (.slice (some ⟨g5, 0, none⟩) (r.params.length + 1) cq) [s] HY5.out HG5.out (fun x hx => by have := HS.out; simp at hx; subst hx; omega)
   have hw1 := H5.out.set hg hgl hl2 hnP (k * 7 + 3) (.slice (some ⟨g5, 0, none⟩) (r.params.length + 1) cq)
   obtain ⟨hps, x8, hx8⟩ := hw1.2.out
   have HD := zH (bent_end hg hgl hps hd (mid_set HSM.out HR.out (by have := HS.out; unfold ruTot; dsimp only; rw [ssTot_app]; simp [ssTot, totN]; omega) (by have := HSM.out.each r (List.mem_of_getElem? HR.out); simp; omega)))
   have hfin := (hx8.set (.slice (some ⟨gR, 0, none⟩) n cR)).facts.1
   have hp9 := hw1.1
   clear hd p0 pf pl q0 qf ql hw1 hHeld
   obtain ⟨q0, qf, ql⟩ := hx8.facts
   clear hps hx8 HZ HZ6 HB4 HB3 HPK HAL HC4 H5 HY5 HG5 c0 c1 c3 c4 c5 c6 d3 g3 e3 k3
   generalize w5.setCell ⟨gR, k * 7 + 3, none⟩ (.slice (some ⟨g5, 0, none⟩) (r.params.length + 1) cq) = W5 at *
   go_wp2_with fail
   refine bP (v := .agg #[.slice (some ⟨gR, 0, none⟩) n cR]) (by simp [results, Tryz.results21, go_sem, hfin]) rfl ?_
   exact HD.out
 · have HDR := zH (HB3.out.drew)
   have HCL := zH (draw_any 3 (by decide) B g A zs cap w3.drew HDR.out.ps.bytes hg HDR.out.ps.cur HN.out)
   go_wp2_with fail
   go_region_held3 (fun X => X.cell? ⟨w1.heap.size, 0, none⟩ = some (.slice (some ⟨gR, 0, none⟩) n cR) ∧ Hid (Ps w B g A zs cap X ∧ ∃ x, PBox X w.heap.size x))
    (first | exact HDR.out.weak | exact HB4.out.weak | exact ((HB4.out.weak.set hg hgl hl2 hnP _ _).set hg hgl hl2 hnP _ _).set hg hgl hl2 hnP _ _)
    (first | (go_at_call 48; refine HCL.out.mono ?_; rintro r4 w4 ⟨_, e4, be, rfl, ⟨A4, rfl, his⟩, hge, ht4, hc4, ho4⟩; have HB4 := zH (HDR.out.call hg hgl hc4 ho4); obtain ⟨v1, v2, u, -, hl1, hl2, hl3, hl4, hl5, hl6, hl7, h6, h7, h8, h9⟩ := HB4.out.kids.slot HR.out; obtain ⟨c0, c1, c2, c3, c4, c5, c6⟩ := hl5; have f4 := hl4 (k * 7 + 4); have f5 := hl4 (k * 7 + 5); have f6 := hl4 (k * 7 + 6); have HZ := zH h9; have HI := zH his; have HGE := zH hge; have HT4 := zH ht4; have hnP : gR ≠ w1.heap.size := (fun e => HB4.out.ne (by rw [e]; rfl)); clear hc4 ho4 his hge ht4 h6 h7 h8 h9 hl4 hl6 hl7))
   have HB9 := zH (HB3.out.drew)
   have hfb : Fb (w.heap.size + 1) w4 be := fun x hx => ⟨by have h1 := HGE.out x hx; have h2 : w3.heap.size ≤ x := h1; omega, HI.out.lt x hx, HI.out.2 x hx⟩
   obtain ⟨bs2, hd⟩ := HZ.out e4 (.slice A4 e4.args.length e4.args.length) be HI.out.1 hfb (fun hx => by have h1 := HGE.out _ hx; have h2 : w3.heap.size ≤ gR := h1; omega)
   have hw1 := ((HB4.out.weak.set hg hgl hl2 hnP (k * 7 + 4) (.int .i64 e4.kind)).set hg hgl hl2 hnP (k * 7 + 5) (.string e4.name)).set hg hgl hl2 hnP (k * 7 + 6) (.slice A4 e4.args.length e4.args.length)
   obtain ⟨hps, x8, hx8⟩ := hw1.2.out
   have HD := zH (bent_end hg hgl hps hd (mid_set HSM.out HR.out (by have := HT4.out.1; unfold ruTot; dsimp only; omega) (by have := HSM.out.each r (List.mem_of_getElem? HR.out); dsimp only; omega)))
   have hfin := (hx8.set (.slice (some ⟨gR, 0, none⟩) n cR)).facts.1
   have hp9 := hw1.1
   clear hd p0 pf pl q0 qf ql hw1 hfb
   obtain ⟨q0, qf, ql⟩ := hx8.facts
   clear hps hx8 HZ HB4 c0 c1 c2 c3 c4 c5 c6 f4 f5 f6
   rw [show k * 7 + 4 + 1 = k * 7 + 5 from rfl, show k * 7 + 4 + 2 = k * 7 + 6 from rfl]
   generalize ((w4.setCell ⟨gR, k * 7 + 4, none⟩ (.int .i64 e4.kind)).setCell ⟨gR, k * 7 + 5, none⟩ (.string e4.name)).setCell ⟨gR, k * 7 + 6, none⟩ (.slice A4 e4.args.length e4.args.length) = W5 at *
   go_wp2_with fail
   refine bP (v := .agg #[.slice (some ⟨gR, 0, none⟩) n cR]) (by simp [results, Tryz.results21, go_sem, hfin]) rfl ?_
   exact HD.out
 · have HPK := zH (HB3.out.drew.pickN hg HN.out bnames (by decide) (by decide))
   have HAL := zH (HB3.out.drew.alloc hg hgl (.cells (bnames.map Value.string).toArray 9))
   go_wp2_with fail
   go_region_held3 (fun X => X.cell? ⟨w1.heap.size, 0, none⟩ = some (.slice (some ⟨gR, 0, none⟩) n cR) ∧ Hid (Ps w B g A zs cap X ∧ ∃ x, PBox X w.heap.size x))
    (first | exact HB3.out.drew.weak | exact HAL.out.weak | exact HB4.out.weak | exact HB4.out.putW hg hgl hl2 _ _)
    (first | (go_at_call 39; refine HPK.out.mono ?_; rintro r4 w4 ⟨s, hs, rfl, hc4, ho4⟩; have HS := zH (bent_sizes.2.2 s hs); have HB4 := zH (HAL.out.call hg hgl hc4 ho4); obtain ⟨v1, v2, u, -, hl1, hl2, hl3, hl4, hl5, hl6, hl7, h6, h7, h8, h9⟩ := HB4.out.kids.slot HR.out; obtain ⟨c0, c1, c2, c3, c4, c5, c6⟩ := hl5; have f1 := hl4 (k * 7); have HZ := zH h6; clear hc4 ho4 hs h6 h7 h8 h9 hl4 hl6 hl7))
   obtain ⟨bs2, hd⟩ := HZ.out s (by have := HS.out; omega)
   obtain ⟨hps, ⟨x8, hx8⟩, hpb⟩ := HB4.out.put hg hgl hl2 (k * 7) (.string s)
   have HD := zH (bent_end hg hgl hps hd (mid_set HSM.out HR.out (by have := HS.out; unfold ruTot; dsimp only; omega) (by have := HSM.out.each r (List.mem_of_getElem? HR.out); dsimp only; omega)))
   have hfin := (hx8.set (.slice (some ⟨gR, 0, none⟩) n cR)).facts.1
   clear hd p0 pf pl q0 qf ql
   obtain ⟨p0, pf, pl⟩ := hpb.facts
   obtain ⟨q0, qf, ql⟩ := hx8.facts
   clear hps hx8 hpb HZ HB4 c0 c1 c2 c3 c4 c5 c6 f1
   generalize w4.setCell ⟨gR, k * 7, none⟩ (.string s) = W5 at *
   go_wp2_with fail
   refine bP (v := .agg #[.slice (some ⟨gR, 0, none⟩) n cR]) (by simp [results, Tryz.results21, go_sem, hfin]) rfl ?_
   exact HD.out
 · obtain ⟨i0, hi, hz0, hz1, hz2⟩ := info_parts Tryz.infoRu
   have HI := zH (aI hi (aI hz0 (aI hz1 hz2)))
   clear hi hz0 hz1 hz2
   have HA0 := zH HSM.out.acc
   go_wp2_with fail
   go_loopw [66] (fun _ wr => ∃ (gq q cq : Nat) (acc : List Ru) (bs2 : List Nat), q = acc.length ∧ q ≤ 25 ∧ 1 ≤ q ∧ Hid (Bp w B g A zs cap w1.heap.size (.slice (some ⟨gq, 0, none⟩) q cq) acc bs2 wr) ∧ Hid (AccPr acc)) (fun _ wr => 25 - lenS (wr.cell? ⟨w1.heap.size, 0, none⟩))
   case atStart => exact ⟨gR, n, cR, l, bs, HLN.out, by omega, hn1, HB3, HA0⟩
   case round =>
    obtain ⟨gq, q, cq, acc, bs2, hq, hq25, hq1, HBR, HAC⟩ := hrel
    have HQ := zH hq
    clear hq p0 pf pl q0 qf ql HB3
    obtain ⟨p0, pf, pl⟩ := HBR.out.box.facts
    obtain ⟨x9, hx9⟩ := HBR.out.res
    obtain ⟨q0, qf, ql⟩ := hx9.facts
    have hqi : (q : Int) ≤ 25 := by omega
    by_cases hlt : q < 25
    · have hlti : (q : Int) < 25 := by omega
      have HBD := zH HBR.out.drew
      obtain ⟨d, hd⟩ : ∃ d : ByteArray, d = ⟨(dz ((q : Nat) : Int).toNat).toArray⟩ := ⟨_, rfl⟩
      have HFI := zH (fun (W : World) => spec_pos ((q : Nat) : Int) (by omega) (by omega) W)
      rw [← hd] at HFI
      have hds : d.size ≤ 21 := by rw [hd]; show (List.toArray _).size ≤ 21; simpa using dz_len ((q : Nat) : Int) (by omega) (by omega)
      obtain ⟨nm, hnm⟩ : ∃ nm : ByteArray, nm = ⟨#[107]⟩ ++ d := ⟨_, rfl⟩
      have hcat : ∀ W, (Op.stringOp .add ⟨#[107]⟩ d).run Tryz.prog W = .ok (.string nm) W := fun W => by rw [hnm]; exact run_string_add_sum W _ _ (by show 1 + d.size ≤ _; omega)
      have HNM := zH (show nm.size ≤ 30 by rw [hnm, ByteArray.size_append]; show 1 + d.size ≤ 30; omega)
      have C1 := zH (show q + 1 ≤ maxLen by unfold maxLen; omega)
      have C2 := zH (show (q + 1) * 128 ≤ 140737488355328 by omega)
      have H1C := zH (show ∀ u ∈ ([.string nm, .string ⟨#[]⟩, .slice none 0 0, .slice none 0 0, .int .i64 4, .string ⟨#[]⟩, .slice none 0 0] : List Value), u.oneCell' = true from fun u hu => by
       simp at hu
       rcases hu with rfl | rfl | rfl | rfl | rfl | rfl <;> rfl)
      clear hd hds hnm hx9
      go_wp2_with fail
      refine wp_region_held_drew (S := (fun X => Hid (Ps w B g A zs cap X ∧ ∃ x, PBox X w.heap.size x))) (by kernel_rfl) ?_ (fun hHeld => ?_)
      · exact HBD.out.weak.2
      refine zT (i := 0) (v := (.pointer (some ⟨w1.heap.size, 0, none⟩))) rfl (fun w hSw => ?_) hHeld ?_
      · (try dsimp only at hSw)
        go_simp
      try simp only [Act.put, sJ]
      refine zT (i := 2) (v := (.pointer (some ⟨w1.heap.size, 0, none⟩))) rfl (fun w hSw => ?_) hHeld ?_
      · (try dsimp only at hSw)
        go_simp
      try simp only [Act.put]
      refine zT (i := 7) (v := (.agg #[.int .i64 4, .string ⟨#[]⟩, .slice none 0 0])) rfl (fun w hSw => ?_) hHeld ?_
      · (try dsimp only at hSw)
        go_simp
      try simp only [Act.put]
      refine wpAnyH_ready (rs := [1, 3]) (by kernel_rfl) (by simp) ?_
      refine AllReadyH.cons rfl (fun K hK => ?_) (AllReadyH.cons rfl (fun K hK => ?_) AllReadyH.nil)
      · go_simp
        refine hK.out _ _ hHeld (fun hHeld => ?_)
        try simp only [Act.put, sJ, tJ, uJ]
        refine zC (i := 3) rfl fun K hK => ?_
        go_simp
        refine hK.out _ _ hHeld (fun hHeld => ?_)
        try simp only [Act.put, sJ, tJ, uJ]
        refine zT (i := 4) (v := (.int .i64 (q : Int))) rfl (fun w hSw => ?_) hHeld ?_
        · (try dsimp only at hSw)
          go_simp
        try simp only [Act.put, sJ]
        refine zC (i := 5) rfl fun K hK => ?_
        clear hHeld
        go_simp
        go_at_call 49
        refine (HFI.out _).mono ?_
        rintro r4 w4 ⟨rfl, hb4⟩
        have HB4 := zH (HBD.out.below hg hgl hb4)
        clear p0 pf pl q0 qf ql
        obtain ⟨p0, pf, pl⟩ := HB4.out.box.facts
        obtain ⟨x8, hx8⟩ := HB4.out.res
        obtain ⟨q0, qf, ql⟩ := hx8.facts
        clear hb4 hx8
        refine hK.out _ _ HB4.out.weak.2 (fun hHeld => ?_)
        try simp only [Act.put, sJ, tJ, uJ]
        refine zT (i := 6) (v := (.string nm)) rfl (fun w hSw => ?_) hHeld ?_
        · (try dsimp only at hSw)
          go_simp
        try simp only [Act.put, sJ]
        refine zT (i := 8) (v := (.agg #[.string nm, .string ⟨#[]⟩, .slice none 0 0, .slice none 0 0, .int .i64 4, .string ⟨#[]⟩, .slice none 0 0])) rfl (fun w hSw => ?_) hHeld ?_
        · (try dsimp only at hSw)
          go_simp
        try simp only [Act.put]
        refine zC (i := 9) rfl fun K hK => ?_
        clear hHeld
        go_simp
        refine hK.out _ _ (HB4.out.alloc hg hgl _).weak.2 (fun hHeld => ?_)
        try simp only [Act.put, sJ, tJ, uJ]
        clear hHeld
        refine zC (i := 10) rfl fun K hK => ?_
        obtain ⟨vs, hvs, hcs⟩ := HB4.out.kids.row
        have HVC := zH (aI hvs hcs)
        rw [← HQ.out] at hvs
        refine step_append_lies _ (by rfl) _ _ _ (by rfl) (w.heap.size + 1) 34 i0 _ 7 128 Tryz.underlying24 HI.out.1 HI.out.2.1 HI.out.2.2.1 HI.out.2.2.2 rfl (by decide) (.slice (some ⟨gq, 0, none⟩) q cq) q vs (by rfl) (World.ownsRow.alloc hvs _) ⟨w4.heap.size, 0, none⟩ 1 1 [.string nm, .string ⟨#[]⟩, .slice none 0 0, .slice none 0 0, .int .i64 4, .string ⟨#[]⟩, .slice none 0 0] (by rfl) (by rfl) (World.news_of_block (heap_alloc_new w4 _)) H1C.out (by decide) C1.out C2.out (by simp; omega) (w4.heap.size + 1) (by simp) ?_
        intro g5 c9 w5 ho5 hg5 hat5 hlt5
        obtain ⟨hp5, hb5, hn5⟩ := HB4.out.more hg hgl HQ.out (r := rule9 nm) HVC.out (rule9_is _ nm HNM.out) ho5 hg5 (by rw [World.size_alloc]; exact hat5)
        have H5 := zH hp5
        have HN5 := zH hn5
        clear p0 pf pl
        obtain ⟨p0, pf, pl⟩ := hb5.facts
        clear ho5 hg5 hat5 hp5 hb5 hn5 hvs hcs
        refine hK.out _ _ H5 (fun hHeld => ?_)
        try simp only [Act.put, sJ]
        refine zT (i := 11) (v := (.pointer (some ⟨w1.heap.size, 0, none⟩))) rfl (fun w hSw => ?_) hHeld ?_
        · (try dsimp only at hSw)
          go_simp
        try simp only [Act.put]
        clear hHeld
        refine zC (i := 12) rfl fun K hK => ?_
        go_simp
        refine hK.out _ _ HN5.out.weak.2 (fun hHeld => ?_)
        try simp only [Act.put, sJ, tJ, uJ]
        refine wpAnyH_done (by kernel_rfl) ?_ _
        have hME : 25 - lenS ((w5.setCell ⟨w1.heap.size, 0, none⟩ (.slice (some ⟨g5, 0, none⟩) (q + 1) c9)).cell? ⟨w1.heap.size, 0, none⟩) < 25 - lenS (wr.cell? ⟨w1.heap.size, 0, none⟩) := by
         rw [HN5.out.box.facts.1, HBR.out.box.facts.1]
         show 25 - (q + 1) < 25 - q
         omega
        clear hHeld p0 pf pl q0 qf ql
        generalize w5.setCell ⟨w1.heap.size, 0, none⟩ (.slice (some ⟨g5, 0, none⟩) (q + 1) c9) = W5 at *
        go_wp2_with fail
        go_roundw
        case rel => exact ⟨g5, q + 1, c9, _, _, by rw [lA, ← HQ.out]; rfl, by omega, by omega, HN5, zH (HAC.out.more HNM.out (by rw [← HQ.out]; exact hlt))⟩
        case measure => exact hME
      go_simp
      refine hK.out _ _ hHeld (fun hHeld => ?_)
      try simp only [Act.put, sJ, tJ, uJ]
      refine zT (i := 4) (v := (.int .i64 (q : Int))) rfl (fun w hSw => ?_) hHeld ?_
      · (try dsimp only at hSw)
        go_simp
      try simp only [Act.put, sJ]
      refine wpAnyH_ready (rs := [1, 5]) (by kernel_rfl) (by simp) ?_
      refine AllReadyH.cons rfl (fun K hK => ?_) (AllReadyH.cons rfl (fun K hK => ?_) AllReadyH.nil)
      · go_simp
        refine hK.out _ _ hHeld (fun hHeld => ?_)
        try simp only [Act.put, sJ, tJ, uJ]
        refine zC (i := 5) rfl fun K hK => ?_
        clear hHeld
        go_simp
        go_at_call 49
        refine (HFI.out _).mono ?_
        rintro r4 w4 ⟨rfl, hb4⟩
        have HB4 := zH (HBD.out.below hg hgl hb4)
        clear p0 pf pl q0 qf ql
        obtain ⟨p0, pf, pl⟩ := HB4.out.box.facts
        obtain ⟨x8, hx8⟩ := HB4.out.res
        obtain ⟨q0, qf, ql⟩ := hx8.facts
        clear hb4 hx8
        refine hK.out _ _ HB4.out.weak.2 (fun hHeld => ?_)
        try simp only [Act.put, sJ, tJ, uJ]
        refine zT (i := 6) (v := (.string nm)) rfl (fun w hSw => ?_) hHeld ?_
        · (try dsimp only at hSw)
          go_simp
        try simp only [Act.put, sJ]
        refine zT (i := 8) (v := (.agg #[.string nm, .string ⟨#[]⟩, .slice none 0 0, .slice none 0 0, .int .i64 4, .string ⟨#[]⟩, .slice none 0 0])) rfl (fun w hSw => ?_) hHeld ?_
        · (try dsimp only at hSw)
          go_simp
        try simp only [Act.put]
        refine zC (i := 9) rfl fun K hK => ?_
        clear hHeld
        go_simp
        refine hK.out _ _ (HB4.out.alloc hg hgl _).weak.2 (fun hHeld => ?_)
        try simp only [Act.put, sJ, tJ, uJ]
        clear hHeld
        refine zC (i := 10) rfl fun K hK => ?_
        obtain ⟨vs, hvs, hcs⟩ := HB4.out.kids.row
        have HVC := zH (aI hvs hcs)
        rw [← HQ.out] at hvs
        refine step_append_lies _ (by rfl) _ _ _ (by rfl) (w.heap.size + 1) 34 i0 _ 7 128 Tryz.underlying24 HI.out.1 HI.out.2.1 HI.out.2.2.1 HI.out.2.2.2 rfl (by decide) (.slice (some ⟨gq, 0, none⟩) q cq) q vs (by rfl) (World.ownsRow.alloc hvs _) ⟨w4.heap.size, 0, none⟩ 1 1 [.string nm, .string ⟨#[]⟩, .slice none 0 0, .slice none 0 0, .int .i64 4, .string ⟨#[]⟩, .slice none 0 0] (by rfl) (by rfl) (World.news_of_block (heap_alloc_new w4 _)) H1C.out (by decide) C1.out C2.out (by simp; omega) (w4.heap.size + 1) (by simp) ?_
        intro g5 c9 w5 ho5 hg5 hat5 hlt5
        obtain ⟨hp5, hb5, hn5⟩ := HB4.out.more hg hgl HQ.out (r := rule9 nm) HVC.out (rule9_is _ nm HNM.out) ho5 hg5 (by rw [World.size_alloc]; exact hat5)
        have H5 := zH hp5
        have HN5 := zH hn5
        clear p0 pf pl
        obtain ⟨p0, pf, pl⟩ := hb5.facts
        clear ho5 hg5 hat5 hp5 hb5 hn5 hvs hcs
        refine hK.out _ _ H5 (fun hHeld => ?_)
        try simp only [Act.put, sJ]
        refine zT (i := 11) (v := (.pointer (some ⟨w1.heap.size, 0, none⟩))) rfl (fun w hSw => ?_) hHeld ?_
        · (try dsimp only at hSw)
          go_simp
        try simp only [Act.put]
        clear hHeld
        refine zC (i := 12) rfl fun K hK => ?_
        go_simp
        refine hK.out _ _ HN5.out.weak.2 (fun hHeld => ?_)
        try simp only [Act.put, sJ, tJ, uJ]
        refine wpAnyH_done (by kernel_rfl) ?_ _
        have hME : 25 - lenS ((w5.setCell ⟨w1.heap.size, 0, none⟩ (.slice (some ⟨g5, 0, none⟩) (q + 1) c9)).cell? ⟨w1.heap.size, 0, none⟩) < 25 - lenS (wr.cell? ⟨w1.heap.size, 0, none⟩) := by
         rw [HN5.out.box.facts.1, HBR.out.box.facts.1]
         show 25 - (q + 1) < 25 - q
         omega
        clear hHeld p0 pf pl q0 qf ql
        generalize w5.setCell ⟨w1.heap.size, 0, none⟩ (.slice (some ⟨g5, 0, none⟩) (q + 1) c9) = W5 at *
        go_wp2_with fail
        go_roundw
        case rel => exact ⟨g5, q + 1, c9, _, _, by rw [lA, ← HQ.out]; rfl, by omega, by omega, HN5, zH (HAC.out.more HNM.out (by rw [← HQ.out]; exact hlt))⟩
        case measure => exact hME
      clear hHeld
      go_simp
      go_at_call 49
      refine (HFI.out _).mono ?_
      rintro r4 w4 ⟨rfl, hb4⟩
      have HB4 := zH (HBD.out.below hg hgl hb4)
      clear p0 pf pl q0 qf ql
      obtain ⟨p0, pf, pl⟩ := HB4.out.box.facts
      obtain ⟨x8, hx8⟩ := HB4.out.res
      obtain ⟨q0, qf, ql⟩ := hx8.facts
      clear hb4 hx8
      refine hK.out _ _ HB4.out.weak.2 (fun hHeld => ?_)
      try simp only [Act.put, sJ, tJ, uJ]
      refine zT (i := 6) (v := (.string nm)) rfl (fun w hSw => ?_) hHeld ?_
      · (try dsimp only at hSw)
        go_simp
      try simp only [Act.put, sJ]
      refine zT (i := 8) (v := (.agg #[.string nm, .string ⟨#[]⟩, .slice none 0 0, .slice none 0 0, .int .i64 4, .string ⟨#[]⟩, .slice none 0 0])) rfl (fun w hSw => ?_) hHeld ?_
      · (try dsimp only at hSw)
        go_simp
      try simp only [Act.put]
      refine wpAnyH_ready (rs := [1, 9]) (by kernel_rfl) (by simp) ?_
      refine AllReadyH.cons rfl (fun K hK => ?_) (AllReadyH.cons rfl (fun K hK => ?_) AllReadyH.nil)
      · go_simp
        refine hK.out _ _ hHeld (fun hHeld => ?_)
        try simp only [Act.put, sJ, tJ, uJ]
        refine zC (i := 9) rfl fun K hK => ?_
        clear hHeld
        go_simp
        refine hK.out _ _ (HB4.out.alloc hg hgl _).weak.2 (fun hHeld => ?_)
        try simp only [Act.put, sJ, tJ, uJ]
        clear hHeld
        refine zC (i := 10) rfl fun K hK => ?_
        obtain ⟨vs, hvs, hcs⟩ := HB4.out.kids.row
        have HVC := zH (aI hvs hcs)
        rw [← HQ.out] at hvs
        refine step_append_lies _ (by rfl) _ _ _ (by rfl) (w.heap.size + 1) 34 i0 _ 7 128 Tryz.underlying24 HI.out.1 HI.out.2.1 HI.out.2.2.1 HI.out.2.2.2 rfl (by decide) (.slice (some ⟨gq, 0, none⟩) q cq) q vs (by rfl) (World.ownsRow.alloc hvs _) ⟨w4.heap.size, 0, none⟩ 1 1 [.string nm, .string ⟨#[]⟩, .slice none 0 0, .slice none 0 0, .int .i64 4, .string ⟨#[]⟩, .slice none 0 0] (by rfl) (by rfl) (World.news_of_block (heap_alloc_new w4 _)) H1C.out (by decide) C1.out C2.out (by simp; omega) (w4.heap.size + 1) (by simp) ?_
        intro g5 c9 w5 ho5 hg5 hat5 hlt5
        obtain ⟨hp5, hb5, hn5⟩ := HB4.out.more hg hgl HQ.out (r := rule9 nm) HVC.out (rule9_is _ nm HNM.out) ho5 hg5 (by rw [World.size_alloc]; exact hat5)
        have H5 := zH hp5
        have HN5 := zH hn5
        clear p0 pf pl
        obtain ⟨p0, pf, pl⟩ := hb5.facts
        clear ho5 hg5 hat5 hp5 hb5 hn5 hvs hcs
        refine hK.out _ _ H5 (fun hHeld => ?_)
        try simp only [Act.put, sJ]
        refine zT (i := 11) (v := (.pointer (some ⟨w1.heap.size, 0, none⟩))) rfl (fun w hSw => ?_) hHeld ?_
        · (try dsimp only at hSw)
          go_simp
        try simp only [Act.put]
        clear hHeld
        refine zC (i := 12) rfl fun K hK => ?_
        go_simp
        refine hK.out _ _ HN5.out.weak.2 (fun hHeld => ?_)
        try simp only [Act.put, sJ, tJ, uJ]
        refine wpAnyH_done (by kernel_rfl) ?_ _
        have hME : 25 - lenS ((w5.setCell ⟨w1.heap.size, 0, none⟩ (.slice (some ⟨g5, 0, none⟩) (q + 1) c9)).cell? ⟨w1.heap.size, 0, none⟩) < 25 - lenS (wr.cell? ⟨w1.heap.size, 0, none⟩) := by
         rw [HN5.out.box.facts.1, HBR.out.box.facts.1]
         show 25 - (q + 1) < 25 - q
         omega
        clear hHeld p0 pf pl q0 qf ql
        generalize w5.setCell ⟨w1.heap.size, 0, none⟩ (.slice (some ⟨g5, 0, none⟩) (q + 1) c9) = W5 at *
        go_wp2_with fail
        go_roundw
        case rel => exact ⟨g5, q + 1, c9, _, _, by rw [lA, ← HQ.out]; rfl, by omega, by omega, HN5, zH (HAC.out.more HNM.out (by rw [← HQ.out]; exact hlt))⟩
        case measure => exact hME
      clear hHeld
      go_simp
      refine hK.out _ _ (HB4.out.alloc hg hgl _).weak.2 (fun hHeld => ?_)
      try simp only [Act.put, sJ, tJ, uJ]
      refine zC (i := 1) rfl fun K hK => ?_
      go_simp
      refine hK.out _ _ hHeld (fun hHeld => ?_)
      try simp only [Act.put, sJ, tJ, uJ]
      clear hHeld
      refine zC (i := 10) rfl fun K hK => ?_
      obtain ⟨vs, hvs, hcs⟩ := HB4.out.kids.row
      have HVC := zH (aI hvs hcs)
      rw [← HQ.out] at hvs
      refine step_append_lies _ (by rfl) _ _ _ (by rfl) (w.heap.size + 1) 34 i0 _ 7 128 Tryz.underlying24 HI.out.1 HI.out.2.1 HI.out.2.2.1 HI.out.2.2.2 rfl (by decide) (.slice (some ⟨gq, 0, none⟩) q cq) q vs (by rfl) (World.ownsRow.alloc hvs _) ⟨w4.heap.size, 0, none⟩ 1 1 [.string nm, .string ⟨#[]⟩, .slice none 0 0, .slice none 0 0, .int .i64 4, .string ⟨#[]⟩, .slice none 0 0] (by rfl) (by rfl) (World.news_of_block (heap_alloc_new w4 _)) H1C.out (by decide) C1.out C2.out (by simp; omega) (w4.heap.size + 1) (by simp) ?_
      intro g5 c9 w5 ho5 hg5 hat5 hlt5
      obtain ⟨hp5, hb5, hn5⟩ := HB4.out.more hg hgl HQ.out (r := rule9 nm) HVC.out (rule9_is _ nm HNM.out) ho5 hg5 (by rw [World.size_alloc]; exact hat5)
      have H5 := zH hp5
      have HN5 := zH hn5
      clear p0 pf pl
      obtain ⟨p0, pf, pl⟩ := hb5.facts
      clear ho5 hg5 hat5 hp5 hb5 hn5 hvs hcs
      refine hK.out _ _ H5 (fun hHeld => ?_)
      try simp only [Act.put, sJ]
      refine zT (i := 11) (v := (.pointer (some ⟨w1.heap.size, 0, none⟩))) rfl (fun w hSw => ?_) hHeld ?_
      · (try dsimp only at hSw)
        go_simp
      try simp only [Act.put]
      clear hHeld
      refine zC (i := 12) rfl fun K hK => ?_
      go_simp
      refine hK.out _ _ HN5.out.weak.2 (fun hHeld => ?_)
      try simp only [Act.put, sJ, tJ, uJ]
      refine wpAnyH_done (by kernel_rfl) ?_ _
      have hME : 25 - lenS ((w5.setCell ⟨w1.heap.size, 0, none⟩ (.slice (some ⟨g5, 0, none⟩) (q + 1) c9)).cell? ⟨w1.heap.size, 0, none⟩) < 25 - lenS (wr.cell? ⟨w1.heap.size, 0, none⟩) := by
       rw [HN5.out.box.facts.1, HBR.out.box.facts.1]
       show 25 - (q + 1) < 25 - q
       omega
      clear hHeld p0 pf pl q0 qf ql
      generalize w5.setCell ⟨w1.heap.size, 0, none⟩ (.slice (some ⟨g5, 0, none⟩) (q + 1) c9) = W5 at *
      go_wp2_with fail
      go_roundw
      case rel => exact ⟨g5, q + 1, c9, _, _, by rw [lA, ← HQ.out]; rfl, by omega, by omega, HN5, zH (HAC.out.more HNM.out (by rw [← HQ.out]; exact hlt))⟩
      case measure => exact hME
    have hnlt : ¬ (q : Int) < 25 := by omega
    obtain ⟨bs3, hd3⟩ := HBR.out.kids.dr
    have HD := zH (bent_end hg hgl HBR.out.ps hd3 HAC.out.mid)
    obtain ⟨x8, hx8⟩ := HBR.out.res
    have hfin := (hx8.set (.slice (some ⟨gq, 0, none⟩) q cq)).facts.1
    clear hd3 hx8 hx9
    go_wp2_with fail
    refine bP (v := .agg #[.slice (some ⟨gq, 0, none⟩) q cq]) (by simp [results, Tryz.results21, go_sem, hfin]) rfl ?_
    exact HD.out
 have n0 : y ≠ 0 := by omega
 have n1 : y ≠ 1 := by omega
 have n2 : y ≠ 2 := by omega
 have n3 : y ≠ 3 := by omega
 have n4 : y ≠ 4 := by omega
 obtain ⟨bs2, hd⟩ := HB3.out.kids.dr
 have HD := zH (bent_end hg hgl HB3.out.ps hd HSM.out.mid)
 obtain ⟨x8, hx8⟩ := HB3.out.res
 have hfin := (hx8.set (.slice (some ⟨gR, 0, none⟩) n cR)).facts.1
 clear hd hx8
 go_wp2_with fail
 refine bP (v := .agg #[.slice (some ⟨gR, 0, none⟩) n cR]) (by simp [results, Tryz.results21, go_sem, hfin]) rfl ?_
 exact HD.out
end Go.Proofs.YtiaknfnhmoinpaaGreat
