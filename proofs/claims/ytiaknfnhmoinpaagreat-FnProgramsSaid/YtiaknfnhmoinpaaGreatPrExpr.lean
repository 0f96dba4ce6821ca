/- A part of the proof of the seat's statement: PrExpr. Condition: as each says. -/
import Derived.Test.YtiaknfnhmoinpaaGreatBentP
import Derived.Test.YtiaknfnhmoinpaaGreatKids
set_option maxHeartbeats 8000000
namespace Go.Proofs.YtiaknfnhmoinpaaGreat
open Go Go.RowKit
def wds : List ByteArray := [⟨#[97, 112, 112]⟩, ⟨#[97, 100, 100]⟩, ⟨#[105, 110, 102]⟩, ⟨#[101, 113, 97]⟩, ⟨#[101, 118]⟩, ⟨#[113]⟩, ⟨#[78]⟩, ⟨#[67]⟩, ⟨#[83]⟩, ⟨#[]⟩]
theorem wds_size : ∀ x ∈ wds, x.size ≤ 3 := by decide
def WdPost (g : Nat) (A : Option Addr) (n cap : Nat) (w : World) (r : Ending) (w' : World) : Prop := ∃ x : ByteArray, r = .returned (.string x) ∧ x.size ≤ 3 ∧ Cur w' g A n cap ∧ Only g w w'
theorem wd_any (B g : Nat) (A : Option Addr) (zs : List Int) (cap : Nat) (w : World) (hs : Bytes w B A zs) (hg : B ≤ g) (hc : Cur w g A zs.length cap) (hn : zs.length ≤ 1048576) :
 Calls Tryz.prog 38 #[.pointer (some ⟨g, 0, none⟩)] w (WdPost g A zs.length cap w) := by
 have HPK := zH ((Ps.start hs hc).pickN hg hn wds (by decide) (by decide))
 have HB := zH ((Ps.start hs hc).alloc hg (.cells (wds.map Value.string).toArray 9))
 clear hs hc hn
 go_enter Tryz.func38, Tryz.ntmps38
 go_wp2_with fail
 go_at_call 39
 refine HPK.out.mono ?_
 rintro r w2 ⟨x, hx, rfl, hc2, ho2⟩
 have HX := zH (wds_size x hx)
 have HF := zH (HB.out.call hg hc2 ho2)
 clear hx hc2 ho2
 go_wp2_with fail
 go_ret
 exact ⟨x, rfl, HX.out, HF.out.cur, HF.out.only⟩
def ExprPost (d g : Nat) (A : Option Addr) (n cap : Nat) (w : World) (r : Ending) (w' : World) : Prop :=
 ∃ v e bs, r = .returned v ∧ ExIs w' v e bs ∧ Mine w' w.heap.size bs ∧ exSize e ≤ 5 ^ d ∧ exTot e ≤ 3000 * 5 ^ d ∧ Cur w' g A n cap ∧ Only g w w'
structure Ep (w : World) (B g : Nat) (A : Option Addr) (zs : List Int) (cap : Nat) (v : Value) (l : List Ru) (bp : List Nat) (W : World) : Prop where
 ps : Ps w B g A zs cap W
 pbox : PBox W w.heap.size v
 rbox : ∃ v0 v1 v2, Row W (w.heap.size + 1) 32 [v0, v1, v2]
 rs : RsIs W v l bp
 out : g ∉ bp
 lt : ∀ x ∈ bp, x < w.heap.size
theorem Ep.call {w : World} {B g : Nat} {A : Option Addr} {zs : List Int} {cap : Nat} {v : Value} {l : List Ru} {bp : List Nat} {W W2 : World} (h : Ep w B g A zs cap v l bp W) (hg : B ≤ g) (hgl : g < w.heap.size) (hc : Cur W2 g A zs.length cap) (ho : Only g W W2) : Ep w B g A zs cap v l bp W2 := by
 obtain ⟨v0, v1, v2, hr⟩ := h.rbox
 exact ⟨h.ps.call hg hc ho, h.pbox.only ho (by omega), ⟨v0, v1, v2, hr.only ho (by omega)⟩, h.rs.keeps (keeps_only ho h.out), h.out, h.lt⟩
theorem Ep.below {w : World} {B g : Nat} {A : Option Addr} {zs : List Int} {cap : Nat} {v : Value} {l : List Ru} {bp : List Nat} {W W2 : World} (h : Ep w B g A zs cap v l bp W) (hg : B ≤ g) (hgl : g < w.heap.size) (hb : Below W.heap.size W W2) : Ep w B g A zs cap v l bp W2 :=
 h.call hg hgl (h.ps.cur.below hb) (Only.ofBelow hb)
theorem Ep.alloc {w : World} {B g : Nat} {A : Option Addr} {zs : List Int} {cap : Nat} {v : Value} {l : List Ru} {bp : List Nat} {W : World} (h : Ep w B g A zs cap v l bp W) (hg : B ≤ g) (hgl : g < w.heap.size) (o : Obj) : Ep w B g A zs cap v l bp (W.alloc o) :=
 h.below hg hgl ((wB _ _).alloc (nR _) o)
theorem Ep.start {w : World} {B g : Nat} {A : Option Addr} {zs : List Int} {cap : Nat} {v : Value} {l : List Ru} {bp : List Nat} (hs : Bytes w B A zs) (hg : B ≤ g) (hc : Cur w g A zs.length cap) (hv : RsIs w v l bp) (ho : g ∉ bp) (hl : ∀ x ∈ bp, x < w.heap.size) :
 Ep w B g A zs cap v l bp ((w.alloc (.cells #[v] 26)).alloc (.cells #[.int .i64 0, .string ⟨#[]⟩, .slice none 0 0] 32)) := by
 have hb1 : Below w.heap.size w (w.alloc (.cells #[v] 26)) := (wB _ _).alloc (nR _) _
 have hb2 := (wB (w.alloc (.cells #[v] 26)).heap.size (w.alloc (.cells #[v] 26))).alloc (nR _) (.cells #[.int .i64 0, .string ⟨#[]⟩, .slice none 0 0] 32)
 refine ⟨((Ps.start hs hc).below hg hb1).below hg hb2, (PBox.new w v).below hb2, ⟨.int .i64 0, .string ⟨#[]⟩, .slice none 0 0, ?_⟩, (hv.below hb1).below hb2, ho, hl⟩
 have h := Row.new (w.alloc (.cells #[v] 26)) 32 [.int .i64 0, .string ⟨#[]⟩, .slice none 0 0]
 simp only [World.size_alloc] at h
 exact h
theorem Ep.fr {w : World} {B g : Nat} {A : Option Addr} {zs : List Int} {cap : Nat} {v : Value} {l : List Ru} {bp S : List Nat} {W W2 : World} (h : Ep w B g A zs cap v l bp W) (hg : B ≤ g) (hgl : g < w.heap.size) (hf : Fr S W W2) (hS : ∀ x ∈ S, w.heap.size + 2 ≤ x) : Ep w B g A zs cap v l bp W2 := by
 obtain ⟨v0, v1, v2, hr⟩ := h.rbox
 exact ⟨h.ps.fr hg hgl hf (fun x hx => by have := hS x hx; omega), (hf.block _ h.pbox.facts.2.2 (fun hx => by have := hS _ hx; omega)).trans h.pbox, ⟨v0, v1, v2, (hf.block _ hr.lt (fun hx => by have := hS _ hx; omega)).trans hr⟩,
  h.rs.keeps (fr_keeps hf (fun x hx hs => by have := hS x hs; have := h.lt x hx; omega)), h.out, h.lt⟩
theorem Ep.drew {w : World} {B g : Nat} {A : Option Addr} {zs : List Int} {cap : Nat} {v : Value} {l : List Ru} {bp : List Nat} {W : World} (h : Ep w B g A zs cap v l bp W) (hg : B ≤ g) (hgl : g < w.heap.size) : Ep w B g A zs cap v l bp W.drew := h.fr hg hgl ((Fr.refl [] W).drew) (by simp)
theorem Ep.weak {w : World} {B g : Nat} {A : Option Addr} {zs : List Int} {cap : Nat} {v : Value} {l : List Ru} {bp : List Nat} {W : World} (h : Ep w B g A zs cap v l bp W) : W.cell? ⟨w.heap.size, 0, none⟩ = some v ∧ Hid (Ep w B g A zs cap v l bp W) := ⟨h.pbox.facts.1, zH h⟩
theorem Ep.old {w : World} {B g : Nat} {A : Option Addr} {zs : List Int} {cap : Nat} {v : Value} {l : List Ru} {bp : List Nat} {W : World} (h : Ep w B g A zs cap v l bp W) {gR j : Nat} {u : Value} (hg : gR < w.heap.size) (hne : gR ≠ g) (hu : w.cell? ⟨gR, j, none⟩ = some u) : W.cell? ⟨gR, j, none⟩ = some u :=
 (World.cell?_of_block (w := w) (a := ⟨gR, j, none⟩) (h.ps.only.block gR hg (fun e => hne (Option.some.inj e)))).trans hu
theorem Ep.fin {w : World} {B g : Nat} {A : Option Addr} {zs : List Int} {cap : Nat} {v : Value} {l : List Ru} {bp : List Nat} {W : World} {d : Nat} {K : Int} {S : ByteArray} {u : Value} {e : Ex} {bs : List Nat} (h : Ep w B g A zs cap v l bp W) (hg : B ≤ g) (hgl : g < w.heap.size)
 (hi : ExIs W (.agg #[.int .i64 K, .string S, u]) e bs) (hm : Mine W (w.heap.size + 2) bs) (h1 : exSize e ≤ 5 ^ d) (h2 : exTot e ≤ 3000 * 5 ^ d) :
 ExprPost d g A zs.length cap w (.returned (.agg #[.int .i64 K, .string S, u])) (((W.setCell ⟨w.heap.size + 1, 0, none⟩ (.int .i64 K)).setCell ⟨w.heap.size + 1, 1, none⟩ (.string S)).setCell ⟨w.heap.size + 1, 2, none⟩ u) ∧
  Row (((W.setCell ⟨w.heap.size + 1, 0, none⟩ (.int .i64 K)).setCell ⟨w.heap.size + 1, 1, none⟩ (.string S)).setCell ⟨w.heap.size + 1, 2, none⟩ u) (w.heap.size + 1) 32 [.int .i64 K, .string S, u] := by
 have hne : ∀ x ∈ bs, x ≠ w.heap.size + 1 := fun x hx e => by have := (hm.range x hx).1; omega
 have hk : Keeps W (((W.setCell ⟨w.heap.size + 1, 0, none⟩ (.int .i64 K)).setCell ⟨w.heap.size + 1, 1, none⟩ (.string S)).setCell ⟨w.heap.size + 1, 2, none⟩ u) bs := keeps_on (keeps_on (keeps_set (fun x hx => hne x hx)) (keeps_set (fun x hx => hne x hx))) (keeps_set (fun x hx => hne x hx))
 have hp := ((h.ps.set hg hgl (b := w.heap.size + 1) (by omega) 0 (.int .i64 K)).set hg hgl (b := w.heap.size + 1) (by omega) 1 (.string S)).set hg hgl (b := w.heap.size + 1) (by omega) 2 u
 obtain ⟨v0, v1, v2, hr⟩ := h.rbox
 refine ⟨⟨_, e, bs, rfl, hi.keeps hk, (hm.keeps hk).mono (by omega), h1, h2, hp.cur, hp.only⟩, ?_⟩
 have h3 := row_set (row_set (row_set hr 0 (.int .i64 K)) 1 (.string S)) 2 u
 unfold Row
 rw [h3]
 simp [List.setIfInBounds_toArray]
structure Es (w : World) (B g : Nat) (A : Option Addr) (zs : List Int) (cap : Nat) (v : Value) (l : List Ru) (bp : List Nat) (bR bO : Nat) (y0 y1 y2 y3 y4 y5 y6 : Value) (K : Int) (S : ByteArray) (u : Value) (W : World) : Prop where
 ep : Ep w B g A zs cap v l bp W
 rb : Box7 W bR 34 y0 y1 y2 y3 y4 y5 y6
 ob : Row W bO 32 [.int .i64 K, .string S, u]
 lo : w.heap.size + 2 ≤ bR
 lt : bR < bO
theorem Es.call {w : World} {B g : Nat} {A : Option Addr} {zs : List Int} {cap : Nat} {v : Value} {l : List Ru} {bp : List Nat} {bR bO : Nat} {y0 y1 y2 y3 y4 y5 y6 : Value} {K : Int} {S : ByteArray} {u : Value} {W W2 : World} (h : Es w B g A zs cap v l bp bR bO y0 y1 y2 y3 y4 y5 y6 K S u W) (hg : B ≤ g) (hgl : g < w.heap.size) (hc : Cur W2 g A zs.length cap) (ho : Only g W W2) :
 Es w B g A zs cap v l bp bR bO y0 y1 y2 y3 y4 y5 y6 K S u W2 := by
 have h1 := h.lo
 have h2 := h.lt
 exact ⟨h.ep.call hg hgl hc ho, (ho.block _ h.rb.lt (fun e => by have := Option.some.inj e; omega)).trans h.rb, h.ob.only ho (by omega), h1, h2⟩
theorem Es.below {w : World} {B g : Nat} {A : Option Addr} {zs : List Int} {cap : Nat} {v : Value} {l : List Ru} {bp : List Nat} {bR bO : Nat} {y0 y1 y2 y3 y4 y5 y6 : Value} {K : Int} {S : ByteArray} {u : Value} {W W2 : World} (h : Es w B g A zs cap v l bp bR bO y0 y1 y2 y3 y4 y5 y6 K S u W) (hg : B ≤ g) (hgl : g < w.heap.size) (hb : Below W.heap.size W W2) :
 Es w B g A zs cap v l bp bR bO y0 y1 y2 y3 y4 y5 y6 K S u W2 := h.call hg hgl (h.ep.ps.cur.below hb) (Only.ofBelow hb)
theorem Es.grow {w : World} {B g : Nat} {A : Option Addr} {zs : List Int} {cap : Nat} {v : Value} {l : List Ru} {bp : List Nat} {bR bO : Nat} {y0 y1 y2 y3 y4 y5 y6 : Value} {K : Int} {S : ByteArray} {u : Value} {W W2 : World} {Z : List Nat} (h : Es w B g A zs cap v l bp bR bO y0 y1 y2 y3 y4 y5 y6 K S u W) (hg : B ≤ g) (hgl : g < w.heap.size) (hf : Fr Z W W2) (hZ : ∀ x ∈ Z, bO + 1 ≤ x) :
 Es w B g A zs cap v l bp bR bO y0 y1 y2 y3 y4 y5 y6 K S u W2 := by
 have h1 := h.lo
 have h2 := h.lt
 exact ⟨h.ep.fr hg hgl hf (fun x hx => by have := hZ x hx; omega), h.rb.keep hf (fun hx => by have := hZ _ hx; omega), (hf.block _ h.ob.lt (fun hx => by have := hZ _ hx; omega)).trans h.ob, h1, h2⟩
theorem Es.put {w : World} {B g : Nat} {A : Option Addr} {zs : List Int} {cap : Nat} {v : Value} {l : List Ru} {bp : List Nat} {bR bO : Nat} {y0 y1 y2 y3 y4 y5 y6 : Value} {K : Int} {S : ByteArray} {u : Value} {W : World} (h : Es w B g A zs cap v l bp bR bO y0 y1 y2 y3 y4 y5 y6 K S u W) (hg : B ≤ g) (hgl : g < w.heap.size) (u2 : Value) :
 Es w B g A zs cap v l bp bR bO y0 y1 y2 y3 y4 y5 y6 K S u2 (W.setCell ⟨bO, 2, none⟩ u2) := by
 have h1 := h.lo
 have h2 := h.lt
 refine ⟨h.ep.fr hg hgl (Fr.set (S := [bO]) W ⟨bO, 2, none⟩ u2 (by simp)) (fun x hx => by simp at hx; omega), h.rb.keep (Fr.set (S := [bO]) W ⟨bO, 2, none⟩ u2 (by simp)) (by simp; omega), ?_, h1, h2⟩
 have h3 := row_set h.ob 2 u2
 unfold Row
 rw [h3]
 simp [List.setIfInBounds_toArray]
theorem Es.out3 {w : World} {B g : Nat} {A : Option Addr} {zs : List Int} {cap : Nat} {v : Value} {l : List Ru} {bp : List Nat} {bR bO : Nat} {y0 y1 y2 y3 y4 y5 y6 : Value} {K : Int} {S : ByteArray} {u : Value} {W : World} (h : Es w B g A zs cap v l bp bR bO y0 y1 y2 y3 y4 y5 y6 K S u W) (hg : B ≤ g) (hgl : g < w.heap.size) (K2 : Int) (S2 : ByteArray) (u2 : Value) :
 Es w B g A zs cap v l bp bR bO y0 y1 y2 y3 y4 y5 y6 K2 S2 u2 (((W.setCell ⟨bO, 0, none⟩ (.int .i64 K2)).setCell ⟨bO, 1, none⟩ (.string S2)).setCell ⟨bO, 2, none⟩ u2) := by
 have h1 := h.lo
 have h2 := h.lt
 have hf : Fr [bO] W (((W.setCell ⟨bO, 0, none⟩ (.int .i64 K2)).setCell ⟨bO, 1, none⟩ (.string S2)).setCell ⟨bO, 2, none⟩ u2) :=
  ((Fr.set (S := [bO]) W ⟨bO, 0, none⟩ (.int .i64 K2) (by simp)).trans (Fr.set (S := [bO]) _ ⟨bO, 1, none⟩ (.string S2) (by simp)) (fun x hx => Or.inl hx)).trans (Fr.set (S := [bO]) _ ⟨bO, 2, none⟩ u2 (by simp)) (fun x hx => Or.inl hx)
 refine ⟨h.ep.fr hg hgl hf (fun x hx => by simp at hx; omega), h.rb.keep hf (by simp; omega), ?_, h1, h2⟩
 have h3 := row_set (row_set (row_set h.ob 0 (.int .i64 K2)) 1 (.string S2)) 2 u2
 unfold Row
 rw [h3]
 simp [List.setIfInBounds_toArray]
theorem kid_more {w : World} {B g : Nat} {A : Option Addr} {zs : List Int} {cap : Nat} {v : Value} {l : List Ru} {bp : List Nat} {bR bO : Nat} {y0 y1 y2 y3 y4 y5 y6 : Value} {K : Int} {S : ByteArray} {AO : Option Addr} {q co g6 c6 C : Nat} {W W3 : World} {es : List Ex} {bs b1 : List Nat} {e : Ex} {u : Value} {vs : List Value} {o : Obj} (hg : B ≤ g) (hgl : g < w.heap.size) (hq : q = es.length)
 (hS : Es w B g A zs cap v l bp bR bO y0 y1 y2 y3 y4 y5 y6 K S (.slice AO q co) W) (hK : Kids (bO + 1) W (.slice AO q co) es bs) (hC : bO + 1 ≤ C) (hC2 : ∀ x, x ∈ bs ∨ (Value.slice AO q co).ownBlock = some x → x < C)
 (hvs : W.ownsRow (bO + 1) 32 3 (.slice AO q co) es.length vs ∧ CellsOf W es vs bs) (he : ExIs W (.agg #[.int .i64 e.kind, .string e.name, u]) e b1) (hm : Mine W C b1)
 (ho : W3.ownsRow (bO + 1) 32 3 (.slice (some ⟨g6, 0, none⟩) (q + 1) c6) (q + 1) (vs ++ [.int .i64 e.kind, .string e.name, u])) (hgr : (W.alloc o).grownBy W3 (Value.slice AO q co).ownBlock) (hat : (Value.slice AO q co).ownBlock = some g6 ∨ g6 = (W.alloc o).heap.size) :
 Ep w B g A zs cap v l bp W3 ∧ Row W3 bO 32 [.int .i64 K, .string S, .slice AO q co] ∧ Es w B g A zs cap v l bp bR bO y0 y1 y2 y3 y4 y5 y6 K S (.slice (some ⟨g6, 0, none⟩) (q + 1) c6) (W3.setCell ⟨bO, 2, none⟩ (.slice (some ⟨g6, 0, none⟩) (q + 1) c6)) ∧
  Kids (bO + 1) (W3.setCell ⟨bO, 2, none⟩ (.slice (some ⟨g6, 0, none⟩) (q + 1) c6)) (.slice (some ⟨g6, 0, none⟩) (q + 1) c6) (es ++ [e]) (bs ++ b1) := by
 subst hq
 have hP := hK.push (o := o) hC hC2 hvs he hm ho hgr hat
 have hF3 : Fr (Value.slice AO es.length co).ownBlock.toList (W.alloc o) W3 := Fr.grown hgr (fun k hk => by simp [hk])
 have hF : Fr (Value.slice AO es.length co).ownBlock.toList W W3 := (Fr.alloc W o).trans hF3 (fun x hx => Or.inl hx)
 have hS3 := hS.grow hg hgl hF (fun x hx => (hvs.1.lt x (by simpa using hx)).1)
 exact ⟨hS3.ep, hS3.ob, hS3.put hg hgl _, hP.keep (Fr.set (S := [bO]) W3 ⟨bO, 2, none⟩ _ (by simp)) (by simp)⟩
theorem three_one (k : Int) (s : ByteArray) (A : Option Addr) (n c : Nat) : ∀ u ∈ [Value.int .i64 k, .string s, .slice A n c], u.oneCell' = true := by intro u hu; simp at hu; rcases hu with rfl | rfl | rfl <;> rfl
theorem arity_four {l : List Ru} (h : MidPr l) (s : ByteArray) : -1 ≤ arityR l s ∧ arityR l s ≤ 4 := by
 unfold arityR
 rcases hf : l.find? (named s) with _ | r
 · exact ⟨by decide, by decide⟩
 have h1 := h.each r (List.mem_of_find?_eq_some hf)
 show -1 ≤ (r.params.length : Int) + (if r.con.size = 0 then 0 else 1) ∧ (r.params.length : Int) + (if r.con.size = 0 then 0 else 1) ≤ 4
 split <;> omega
theorem pow5 (d : Nat) : 1 ≤ 5 ^ d := Nat.pow_pos (by decide)
def OwnE (d : Nat) : Prop := ∀ (B g : Nat) (A : Option Addr) (zs : List Int) (cap : Nat) (l : List Ru) (u : Value) (bp : List Nat) (w : World), Bytes w B A zs → B ≤ g → Cur w g A zs.length cap → zs.length ≤ 1048576 → RsIs w u l bp → g ∉ bp → (∀ x ∈ bp, x < w.heap.size) → MidPr l →
 Calls Tryz.prog 37 #[.pointer (some ⟨g, 0, none⟩), .agg #[u], .int .i64 (d : Int)] w (ExprPost d g A zs.length cap w)
def evars : List ByteArray := [⟨#[120]⟩, ⟨#[121]⟩, ⟨#[122]⟩, ⟨#[120]⟩, ⟨#[121]⟩]
theorem evars_size : ∀ x ∈ evars, x.size ≤ 3 := by decide
set_option maxRecDepth 20000 in
theorem expr_step (d : Nat) (ih : ∀ d', d' + 1 = d → OwnE d') (hd9 : d ≤ 1000) : OwnE d := by
 intro B g A zs cap l u bp w hs hg hc hn hu hgp hlp hm
 have hgl := hc.lt
 have H0 := zH (Ep.start hs hg hc hu hgp hlp)
 have HN := zH hn
 have HM := zH hm
 have HU := zH hu
 obtain ⟨A1, c1, rfl, hc1, hc2, hcase⟩ := id hu
 obtain ⟨gR, oR, rfl, hgR, hgne⟩ : ∃ gR oR, A1 = some ⟨gR, oR, none⟩ ∧ gR < w.heap.size ∧ gR ≠ g := by
  rcases hcase with ⟨rfl, -⟩ | ⟨gR, oR, bs', rfl, h1, rfl, -⟩
  · have := hm.lo; simp at this
  exact ⟨gR, oR, rfl, h1, fun e => hgp (by rw [← e]; simp)⟩
 have hpk := fun (X : World) (h : Ep w B g A zs cap (.slice (some ⟨gR, oR, none⟩) l.length c1) l bp X) => h.ps.pickN hg hn evars (by decide) (by decide)
 have HPK := zH hpk
 obtain ⟨n, hln⟩ : ∃ n, n = l.length := ⟨_, rfl⟩
 have HLN := zH hln
 have hn1 : 1 ≤ n := by have := hm.lo; omega
 have hn2 : n ≤ 25 := by have := hm.hi; omega
 rw [← hln] at H0 HU HPK hc1 ⊢
 clear hs hc hn hm hu hln hgp hpk hcase hlp
 by_cases hd : d < 2
 · have hdi : (d : Int) < 2 := by omega
   have HAL := zH (H0.out.alloc hg hgl (.cells (evars.map Value.string).toArray 9))
   have hpk0 := HPK.out _ H0.out
   simp only [World.size_alloc] at hpk0
   have HPK0 := zH hpk0
   clear hpk0
   go_enter Tryz.func37, Tryz.ntmps37
   go_wp2_with fail
   go_at_call 39
   refine HPK0.out.mono ?_
   rintro r w3 ⟨y, hy, rfl, hc3, ho3⟩
   have HY := zH (evars_size y hy)
   have HS3 := zH (HAL.out.call hg hgl hc3 ho3)
   have HV := zH (var_any y w3)
   clear hc3 ho3 hy HPK HPK0 HAL H0
   go_wp2_with fail
   go_at_call 60
   refine HV.out.mono ?_
   rintro r w4 ⟨rfl, hb4⟩
   have HS4 := zH (HS3.out.below hg hgl hb4)
   obtain ⟨q0, q1, q2, hq⟩ := HS4.out.rbox
   have hql := hq.lt
   have b0 := hq.cell 0 _ rfl
   have b1 := hq.cell 1 _ rfl
   have b2 := hq.cell 2 _ rfl
   have bf := fun o => hq.thaw o
   have f0 := bf 0
   have f1 := bf 1
   have f2 := bf 2
   clear hb4 HS3 HV bf hq
   have hy1 := HY.out
   have hp5 := pow5 d
   obtain ⟨hfin, hrow⟩ := HS4.out.fin (d := d) (e := .mk 1 y []) hg hgl (leaf_is w4 1 y (by omega)) (Mine.nil _ _) (by simp [exSize, exSizes]; omega) (by simp [exTot, exTots]; omega)
   have k0 := hrow.cell 0 _ rfl
   have k1 := hrow.cell 1 _ rfl
   have k2 := hrow.cell 2 _ rfl
   have HFIN := zH hfin
   clear hfin hrow
   go_wp2_with fail
   refine bP (v := .agg #[.int .i64 1, .string y, .slice none 0 0]) (by simp [results, Tryz.results37, go_sem, k0, k1, k2]) rfl ?_
   exact HFIN.out
 obtain ⟨i0, hi, hz0, hz1, hz2⟩ := info_parts Tryz.infoEx
 have HI := zH (aI hi (aI hz0 (aI hz1 hz2)))
 clear hi hz0 hz1 hz2
 have hdi : ¬ (d : Int) < 2 := by omega
 obtain ⟨d', rfl⟩ : ∃ d', d = d' + 1 := ⟨d - 1, by omega⟩
 have HON := zH (fun (lim : Int) (X : World) (h : Ep w B g A zs cap (.slice (some ⟨gR, oR, none⟩) n c1) l bp X) (h0 : 1 ≤ lim) (h1 : lim ≤ 256) => once_any B g A zs cap lim X h.ps.bytes hg h.ps.cur HN.out h0 h1)
 go_enter Tryz.func37, Tryz.ntmps37
 go_wp2_with fail
 go_at_call 35
 refine (HON.out 4 _ H0.out (by decide) (by decide)).mono ?_
 rintro r w1 ⟨x, rfl, hcc1, ho1⟩
 have HS1 := zH (H0.out.call hg hgl hcc1 ho1)
 clear hcc1 ho1 H0
 cases x
 · obtain ⟨p0, pf, pl⟩ := HS1.out.pbox.facts
   have HD1 := zH (HS1.out.drew hg hgl)
   go_wp2_with fail
   refine cut_region (fun a W => ∃ (bR k : Nat) (r : Ru) (A3 : Option Addr) (c3 : Nat) (A4 : Option Addr) (c4 : Nat) (A5 : Option Addr) (z5 c5 : Nat), a = { tmps := #[.pointer (some ⟨g, 0, none⟩), .agg #[.slice (some ⟨gR, oR, none⟩) n c1], .int .i64 ((d' : Int) + 1), undef, .pointer (some ⟨w.heap.size, 0, none⟩), undef, .pointer (some ⟨w.heap.size + 1, 0, none⟩), .pointer (some ⟨bR, 0, none⟩), undef, undef, undef, .int .i64 ((d' : Int) + 1), .bool (decide ((d' : Int) + 1 < 2)), .bool (decide ((d' : Int) + 1 < 2)), .pointer (some ⟨g, 0, none⟩), .bool false, .bool (decide ((d' : Int) + 1 < 2)), undef, undef, undef, undef, .pointer (some ⟨w.heap.size, 0, none⟩), .slice (some ⟨gR, oR, none⟩) n c1, .pointer (some ⟨g, 0, none⟩), .pointer (some ⟨w.heap.size, 0, none⟩), .slice (some ⟨gR, oR, none⟩) n c1, .int .i64 (n : Int), .int .i64 (k : Int), .pointer (some ⟨gR, oR + k * 7, none⟩), .agg #[.string r.name, .string r.con, .slice A3 r.vars.length c3, .slice A4 r.params.length c4, .int .i64 r.body.kind, .string r.body.name, .slice A5 z5 c5], undef, undef, undef, undef, undef, undef, undef, undef, undef, undef, undef, undef, undef, undef, undef, undef, undef, undef, undef, undef, undef, undef, undef, undef, undef, undef, undef, undef, undef, undef, undef, undef, undef, undef, undef, undef], defers := [] } ∧ Hid (k < n) ∧ Hid (r ∈ l) ∧ Hid (Box7 W bR 34 (.string r.name) (.string r.con) (.slice A3 r.vars.length c3) (.slice A4 r.params.length c4) (.int .i64 r.body.kind) (.string r.body.name) (.slice A5 z5 c5)) ∧ Hid (Ep w B g A zs cap (.slice (some ⟨gR, oR, none⟩) n c1) l bp W) ∧ Hid (w.heap.size + 2 ≤ bR)) ?_ ?_
   · refine wp_region_held_drew (S := (fun X => X.cell? ⟨w.heap.size, 0, none⟩ = some (.slice (some ⟨gR, oR, none⟩) n c1) ∧ Hid (Ep w B g A zs cap (.slice (some ⟨gR, oR, none⟩) n c1) l bp X))) (by kernel_rfl) ?_ (fun hHeld => ?_)
     · exact HD1.out.weak
     refine zT (i := 0) (v := (.pointer (some ⟨w.heap.size, 0, none⟩))) rfl (fun X hSw => ?_) hHeld ?_
     · (try dsimp only at hSw)
       go_simp
     try simp only [Act.put, sJ]
     refine zT (i := 1) (v := (.slice (some ⟨gR, oR, none⟩) n c1)) rfl (fun X hSw => ?_) hHeld ?_
     · (try dsimp only at hSw)
       go_simp
     try simp only [Act.put]
     refine zT (i := 2) (v := (.pointer (some ⟨g, 0, none⟩))) rfl (fun X hSw => ?_) hHeld ?_
     · (try dsimp only at hSw)
       go_simp
     try simp only [Act.put]
     refine zT (i := 3) (v := (.pointer (some ⟨w.heap.size, 0, none⟩))) rfl (fun X hSw => ?_) hHeld ?_
     · (try dsimp only at hSw)
       go_simp
     try simp only [Act.put]
     refine zT (i := 4) (v := (.slice (some ⟨gR, oR, none⟩) n c1)) rfl (fun X hSw => ?_) hHeld ?_
     · (try dsimp only at hSw)
       go_simp
     try simp only [Act.put]
     refine zT (i := 5) (v := (.int .i64 (n : Int))) rfl (fun X hSw => ?_) hHeld ?_
     · (try dsimp only at hSw)
       go_simp
     try simp only [Act.put]
     refine wpAnyH_ready (rs := [6, 9]) (by kernel_rfl) (by simp) ?_
     refine AllReadyH.cons rfl (fun K hK => ?_) (AllReadyH.cons rfl (fun K hK => ?_) AllReadyH.nil)
     · clear hHeld
       go_simp
       go_at_call 47
       refine (HD1.out.ps.num hg HN.out (n : Int) (by omega) (by omega)).mono ?_
       rintro e2 w2 ⟨x, rfl, x0, x1, hcc2, ho2⟩
       have HS2 := zH (HD1.out.call hg hgl hcc2 ho2)
       obtain ⟨k, rfl⟩ : ∃ k : Nat, x = (k : Int) := ⟨x.toNat, by omega⟩
       have hkn : k < n := by omega
       clear hcc2 ho2
       obtain ⟨gR', oR', r, v1, v2, u3, b3, ⟨e9, -, hget, hmem, hcells, hris⟩⟩ := HU.out.get k (by rw [← HLN.out]; exact hkn)
       simp only [Option.some.injEq, Addr.mk.injEq, and_true] at e9
       obtain ⟨rfl, rfl⟩ := e9
       obtain ⟨b1', b2', b3', -, -, -, hss1, hss2, hss3⟩ := hris.parts
       obtain ⟨A3, c3, rfl⟩ := hss1.slice
       obtain ⟨A4, c4, rfl⟩ := hss2.slice
       obtain ⟨A5, z5, c5, rfl⟩ := his_slice0 hss3
       have HCE := zH hcells
       have HMEM := zH hmem
       clear hcells hris hss1 hss2 hss3 hget hmem
       refine hK.out _ _ HS2.out.weak (fun hHeld => ?_)
       try simp only [Act.put, sJ, tJ, uJ]
       refine zT (i := 7) (v := (.pointer (some ⟨gR, oR + k * 7, none⟩))) rfl (fun X hSw => ?_) hHeld ?_
       · (try dsimp only at hSw)
         go_simp
       try simp only [Act.put, sJ]
       refine zT (i := 8) (v := (.agg #[.string r.name, .string r.con, .slice A3 r.vars.length c3, .slice A4 r.params.length c4, .int .i64 r.body.kind, .string r.body.name, .slice A5 z5 c5])) rfl (fun X hSw => ?_) hHeld ?_
       · (try dsimp only at hSw)
         have e0 := hSw.2.out.old hgR hgne HCE.out.c0
         have e1 := hSw.2.out.old hgR hgne HCE.out.c1
         have e2 := hSw.2.out.old hgR hgne HCE.out.c2
         have e3 := hSw.2.out.old hgR hgne HCE.out.c3
         have e4 := hSw.2.out.old hgR hgne HCE.out.c4
         have e5 := hSw.2.out.old hgR hgne HCE.out.c5
         have e6 := hSw.2.out.old hgR hgne HCE.out.c6
         go_simp
       try simp only [Act.put]
       clear hHeld
       refine zC (i := 9) rfl fun K hK => ?_
       go_simp
       refine hK.out _ _ (HS2.out.alloc hg hgl _).weak (fun hHeld => ?_)
       try simp only [Act.put, sJ, tJ, uJ]
       clear hHeld
       have HT := zH (show Box7 (w2.alloc (.cells #[.string r.name, .string r.con, .slice A3 r.vars.length c3, .slice A4 r.params.length c4, .int .i64 r.body.kind, .string r.body.name, .slice A5 z5 c5] 34)) w2.heap.size 34 (.string r.name) (.string r.con) (.slice A3 r.vars.length c3) (.slice A4 r.params.length c4) (.int .i64 r.body.kind) (.string r.body.name) (.slice A5 z5 c5) from heap_alloc_new w2 _)
       have HE := zH (HS2.out.alloc hg hgl (.cells #[.string r.name, .string r.con, .slice A3 r.vars.length c3, .slice A4 r.params.length c4, .int .i64 r.body.kind, .string r.body.name, .slice A5 z5 c5] 34))
       have hb2 : w.heap.size + 2 ≤ w2.heap.size := by have := HS2.out.rbox.choose_spec.choose_spec.choose_spec.lt; omega
       refine zC (i := 10) rfl fun K hK => ?_
       go_simp
       refine hK.out _ _ HE.out.weak (fun hHeld => ?_)
       try simp only [Act.put, sJ, tJ, uJ]
       refine wpAnyH_done (by kernel_rfl) ?_ _
       clear hHeld
       generalize hWf : w2.alloc (.cells #[.string r.name, .string r.con, .slice A3 r.vars.length c3, .slice A4 r.params.length c4, .int .i64 r.body.kind, .string r.body.name, .slice A5 z5 c5] 34) = Wf at *
       clear hWf
       generalize w2.heap.size = bR at *
       exact ⟨_, k, r, A3, c3, A4, c4, A5, z5, c5, rfl, zH hkn, HMEM, HT, HE, zH hb2⟩
     clear hHeld
     have HD1a := zH (HD1.out.alloc hg hgl (.cells #[.string ⟨#[]⟩, .string ⟨#[]⟩, .slice none 0 0, .slice none 0 0, .int .i64 0, .string ⟨#[]⟩, .slice none 0 0] 34))
     have HZ0 := zH (show Box7 (w1.drew.alloc (.cells #[.string ⟨#[]⟩, .string ⟨#[]⟩, .slice none 0 0, .slice none 0 0, .int .i64 0, .string ⟨#[]⟩, .slice none 0 0] 34)) w1.heap.size 34 (.string ⟨#[]⟩) (.string ⟨#[]⟩) (.slice none 0 0) (.slice none 0 0) (.int .i64 0) (.string ⟨#[]⟩) (.slice none 0 0) from heap_alloc_new w1.drew _)
     have hw1g : g < w1.heap.size := HS1.out.ps.cur.lt
     go_simp
     refine hK.out _ _ HD1a.out.weak (fun hHeld => ?_)
     try simp only [Act.put, sJ, tJ, uJ]
     refine zC (i := 6) rfl fun K hK => ?_
     clear hHeld
     go_simp
     go_at_call 47
     refine (HD1a.out.ps.num hg HN.out (n : Int) (by omega) (by omega)).mono ?_
     rintro e2 w2 ⟨x, rfl, x0, x1, hcc2, ho2⟩
     have HS2 := zH (HD1a.out.call hg hgl hcc2 ho2)
     obtain ⟨k, rfl⟩ : ∃ k : Nat, x = (k : Int) := ⟨x.toNat, by omega⟩
     have hkn : k < n := by omega
     have HZ := zH (HZ0.out.keep (S := [g]) ⟨ho2.os, ho2.tape, ho2.output, ho2.size, fun i hi hn => ho2.block i hi (fun e => hn (by simp [Option.some.inj e]))⟩ (by simp; omega))
     clear hcc2 ho2
     obtain ⟨gR', oR', r, v1, v2, u3, b3, ⟨e9, -, hget, hmem, hcells, hris⟩⟩ := HU.out.get k (by rw [← HLN.out]; exact hkn)
     simp only [Option.some.injEq, Addr.mk.injEq, and_true] at e9
     obtain ⟨rfl, rfl⟩ := e9
     obtain ⟨b1', b2', b3', -, -, -, hss1, hss2, hss3⟩ := hris.parts
     obtain ⟨A3, c3, rfl⟩ := hss1.slice
     obtain ⟨A4, c4, rfl⟩ := hss2.slice
     obtain ⟨A5, z5, c5, rfl⟩ := his_slice0 hss3
     have HCE := zH hcells
     have HMEM := zH hmem
     clear hcells hris hss1 hss2 hss3 hget hmem
     refine hK.out _ _ HS2.out.weak (fun hHeld => ?_)
     try simp only [Act.put, sJ, tJ, uJ]
     refine zT (i := 7) (v := (.pointer (some ⟨gR, oR + k * 7, none⟩))) rfl (fun X hSw => ?_) hHeld ?_
     · (try dsimp only at hSw)
       go_simp
     try simp only [Act.put, sJ]
     refine zT (i := 8) (v := (.agg #[.string r.name, .string r.con, .slice A3 r.vars.length c3, .slice A4 r.params.length c4, .int .i64 r.body.kind, .string r.body.name, .slice A5 z5 c5])) rfl (fun X hSw => ?_) hHeld ?_
     · (try dsimp only at hSw)
       have e0 := hSw.2.out.old hgR hgne HCE.out.c0
       have e1 := hSw.2.out.old hgR hgne HCE.out.c1
       have e2 := hSw.2.out.old hgR hgne HCE.out.c2
       have e3 := hSw.2.out.old hgR hgne HCE.out.c3
       have e4 := hSw.2.out.old hgR hgne HCE.out.c4
       have e5 := hSw.2.out.old hgR hgne HCE.out.c5
       have e6 := hSw.2.out.old hgR hgne HCE.out.c6
       go_simp
     try simp only [Act.put]
     clear hHeld
     obtain ⟨j0, j1, j2, j3, j4, j5, j6⟩ := HZ.out.cells
     have f0 := HZ.out.thaw 0
     have f1 := HZ.out.thaw 1
     have f2 := HZ.out.thaw 2
     have f3 := HZ.out.thaw 3
     have f4 := HZ.out.thaw 4
     have f5 := HZ.out.thaw 5
     have f6 := HZ.out.thaw 6
     have HT := zH (sev_box HZ.out (.string r.name) (.string r.con) (.slice A3 r.vars.length c3) (.slice A4 r.params.length c4) (.int .i64 r.body.kind) (.string r.body.name) (.slice A5 z5 c5))
     have hb2 : w.heap.size + 2 ≤ w1.heap.size := by have := HS1.out.rbox.choose_spec.choose_spec.choose_spec.lt; omega
     have HE := zH (HS2.out.fr hg hgl (sev_fr w2 w1.heap.size 0 (.string r.name) (.string r.con) (.slice A3 r.vars.length c3) (.slice A4 r.params.length c4) (.int .i64 r.body.kind) (.string r.body.name) (.slice A5 z5 c5)) (fun x hx => by simp at hx; omega))
     refine zC (i := 10) rfl fun K hK => ?_
     go_simp
     obtain ⟨Wf, hWf⟩ : ∃ V, V = sev w2 w1.heap.size 0 (.string r.name) (.string r.con) (.slice A3 r.vars.length c3) (.slice A4 r.params.length c4) (.int .i64 r.body.kind) (.string r.body.name) (.slice A5 z5 c5) := ⟨_, rfl⟩
     rw [← hWf] at HT HE
     unfold sev at hWf
     simp only [Nat.zero_add] at hWf
     rw [← hWf]
     refine hK.out _ _ HE.out.weak (fun hHeld => ?_)
     try simp only [Act.put, sJ, tJ, uJ]
     refine wpAnyH_done (by kernel_rfl) ?_ _
     clear hHeld hWf j0 j1 j2 j3 j4 j5 j6 f0 f1 f2 f3 f4 f5 f6 HZ
     generalize w1.heap.size = bR at *
     exact ⟨_, k, r, A3, c3, A4, c4, A5, z5, c5, rfl, zH hkn, HMEM, HT, HE, zH hb2⟩
   rintro _ Wf ⟨bR, k, r, A3, c3, A4, c4, A5, z5, c5, rfl, HKN, HMEM, HT, HE, HB2⟩
   have hkn := HKN.out
   have hb2 := HB2.out
   clear HKN HB2 HD1 HS1 p0 pf pl
   obtain ⟨t0, t1, t2, t3, t4, t5, t6⟩ := HT.out.cells
   obtain ⟨p0, pf, pl⟩ := HE.out.pbox.facts
   have hbl := HT.out.lt
   have HAR := zH (fun (X : World) (h : Ep w B g A zs cap (.slice (some ⟨gR, oR, none⟩) n c1) l bp X) => arity_any l (.agg #[.slice (some ⟨gR, oR, none⟩) n c1]) bp r.name X ⟨_, rfl, h.rs⟩ (by have := HM.out.tot; omega))
   have HS4 := zH (show Es w B g A zs cap (.slice (some ⟨gR, oR, none⟩) n c1) l bp bR Wf.heap.size (.string r.name) (.string r.con) (.slice A3 r.vars.length c3) (.slice A4 r.params.length c4) (.int .i64 r.body.kind) (.string r.body.name) (.slice A5 z5 c5) 3 r.name (.slice none 0 0) (Wf.alloc (.cells #[.int .i64 3, .string r.name, .slice none 0 0] 32)) from
    ⟨HE.out.alloc hg hgl _, HT.out.keep (Fr.alloc (S := []) Wf _) (by simp), Row.new Wf 32 [.int .i64 3, .string r.name, .slice none 0 0], hb2, by omega⟩)
   go_wp2_with fail
   go_at_call 20
   refine (HAR.out _ HS4.out.ep).mono ?_
   rintro e3 w3 ⟨rfl, hb3⟩
   have HS5 := zH (HS4.out.below hg hgl hb3)
   obtain ⟨a, ha⟩ : ∃ a, a = arityR l r.name := ⟨_, rfl⟩
   have ha2 := arity_four HM.out r.name
   rw [← ha] at ha2 ⊢
   obtain ⟨ha3, ha4⟩ := ha2
   clear hb3 ha HAR HS4 HT HE t0 t1 t2 t3 t4 t5 t6 p0 pf pl hbl
   generalize Wf.heap.size = bO at *
   clear Wf
   obtain ⟨p0, pf, pl⟩ := HS5.out.ep.pbox.facts
   obtain ⟨t0, t1, t2, t3, t4, t5, t6⟩ := HS5.out.rb.cells
   have o0 := HS5.out.ob.cell 0 _ rfl
   have o1 := HS5.out.ob.cell 1 _ rfl
   have o2 := HS5.out.ob.cell 2 _ rfl
   go_wp2_with fail
   go_at_call 35
   refine (HON.out 6 _ HS5.out.ep (by decide) (by decide)).mono ?_
   rintro e4 w4 ⟨x2, rfl, hcc4, ho4⟩
   have HS6 := zH (HS5.out.call hg hgl hcc4 ho4)
   clear hcc4 ho4 HS5 p0 pf pl t0 t1 t2 t3 t4 t5 t6 o0 o1 o2
   obtain ⟨p0, pf, pl⟩ := HS6.out.ep.pbox.facts
   obtain ⟨t0, t1, t2, t3, t4, t5, t6⟩ := HS6.out.rb.cells
   have hbl := HS6.out.rb.lt
   cases x2
   · go_wp2_with fail
     have HKN := zH (Kids.nilled (bO + 1) w4)
     go_loopw [10] (fun i wr => ∃ (q : Nat) (v' : Value) (es : List Ex) (bs : List Nat), i = .int .i64 (q : Int) ∧ q = es.length ∧ q ≤ 4 ∧ Hid (Es w B g A zs cap (.slice (some ⟨gR, oR, none⟩) n c1) l bp bR bO (.string r.name) (.string r.con) (.slice A3 r.vars.length c3) (.slice A4 r.params.length c4) (.int .i64 r.body.kind) (.string r.body.name) (.slice A5 z5 c5) 3 r.name v' wr) ∧ Hid (Kids (bO + 1) wr v' es bs) ∧ Hid (exSizes es ≤ q * 5 ^ d' ∧ exTots es ≤ q * (3000 * 5 ^ d' + 1))) (fun i _ => 4 - (intOf i).toNat)
     case atStart => exact ⟨0, _, [], [], rfl, rfl, Nat.zero_le _, HS6, HKN, zH (by simp [exSizes, exTots])⟩
     case round =>
      obtain ⟨q, v', es, bs, rfl, hq, hq4, HSR, HKR, HZR⟩ := hrel
      obtain ⟨AO, co, rfl, -, -⟩ := HKR.out.form
      rw [← hq] at HSR HKR
      have HQ := zH hq
      clear hq p0 pf pl t0 t1 t2 t3 t4 t5 t6 hbl
      obtain ⟨p0, pf, pl⟩ := HSR.out.ep.pbox.facts
      have o0 := HSR.out.ob.cell 0 _ rfl
      have o1 := HSR.out.ob.cell 1 _ rfl
      have o2 := HSR.out.ob.cell 2 _ rfl
      have hbl := HSR.out.ob.lt
      have hgO : g < bO := by have := HSR.out.lo; have := HSR.out.lt; omega
      by_cases hlt : (q : Int) < a
      · have HSD := zH (HSR.out.grow (W2 := wr.drew) hg hgl ((Fr.refl [] wr).drew) (by simp))
        have HIH := zH (ih d' rfl B g A zs cap l (.slice (some ⟨gR, oR, none⟩) n c1) bp wr.drew HSD.out.ep.ps.bytes hg HSD.out.ep.ps.cur HN.out HSD.out.ep.rs HSD.out.ep.out (fun x hx => nL (HSD.out.ep.lt x hx) HSD.out.ep.ps.only.size) HM.out)
        have HBW := zH (show bO + 1 ≤ wr.drew.heap.size ∧ ∀ x, x ∈ bs ∨ (Value.slice AO q co).ownBlock = some x → x < wr.drew.heap.size from ⟨hbl, fun x hx => by
         rcases hx with hx | hx
         · exact (HKR.out.mine.range x hx).2
         obtain ⟨vs, hvs, -⟩ := HKR.out.row
         exact (hvs.lt x hx).2⟩)
        have C1 := zH (show q + 1 ≤ maxLen by unfold maxLen; omega)
        have C2 := zH (show (q + 1) * 48 ≤ 140737488355328 by omega)
        go_wp2_with fail
        refine wp_region_held_drew (S := (fun X => X.cell? ⟨w.heap.size, 0, none⟩ = some (.slice (some ⟨gR, oR, none⟩) n c1) ∧ Hid (Ep w B g A zs cap (.slice (some ⟨gR, oR, none⟩) n c1) l bp X))) (by kernel_rfl) ?_ (fun hHeld => ?_)
        · exact HSD.out.ep.weak
        refine zT (i := 0) (v := (.pointer (some ⟨bO, 2, none⟩))) rfl (fun X hSw => ?_) hHeld ?_
        · (try dsimp only at hSw)
          go_simp
        try simp only [Act.put, sJ]
        refine zT (i := 2) (v := (.pointer (some ⟨g, 0, none⟩))) rfl (fun X hSw => ?_) hHeld ?_
        · (try dsimp only at hSw)
          go_simp
        try simp only [Act.put]
        refine zT (i := 3) (v := (.agg #[(.slice (some ⟨gR, oR, none⟩) n c1)])) rfl (fun X hSw => ?_) hHeld ?_
        · (try dsimp only at hSw)
          go_simp
        try simp only [Act.put]
        refine zT (i := 4) (v := (.int .i64 ((d' : Int) + 1))) rfl (fun X hSw => ?_) hHeld ?_
        · (try dsimp only at hSw)
          go_simp
        try simp only [Act.put]
        refine zT (i := 5) (v := (.int .i64 (d' : Int))) rfl (fun X hSw => ?_) hHeld ?_
        · (try dsimp only at hSw)
          go_simp
          exact IntWalk.i64_in _ (by omega)
        try simp only [Act.put]
        refine wpAnyH_ready (rs := [1, 6]) (by kernel_rfl) (by simp) ?_
        refine AllReadyH.cons rfl (fun K hK => ?_) (AllReadyH.cons rfl (fun K hK => ?_) AllReadyH.nil)
        · go_simp
          refine hK.out _ _ hHeld (fun hHeld => ?_)
          try simp only [Act.put, sJ, tJ, uJ]
          refine zC (i := 6) rfl fun K hK => ?_
          clear hHeld
          go_simp
          go_at_call 37
          refine HIH.out.mono ?_
          rintro e9 w5 ⟨_, e5, b5, rfl, hex, hmn, hz1, hz2, hcc5, ho5⟩
          obtain ⟨u9, rfl, -, hu9⟩ := id hex
          obtain ⟨A9, c9, rfl, -⟩ := id hu9
          have HS5 := zH (HSD.out.call hg hgl hcc5 ho5)
          have HK5 := zH (HKR.out.keep (W2 := w5) (S := [g]) ⟨ho5.os, ho5.tape, ho5.output, ho5.size, fun i hi hn => ho5.block i hi (fun e => hn (by simp [Option.some.inj e]))⟩ (by simp; omega))
          have HX5 := zH (aI hex (aI hmn (aI hz1 hz2)))
          clear o0 o1 o2 p0 pf pl
          have o2 := HS5.out.ob.cell 2 _ rfl
          have o1 := HS5.out.ob.lt
          clear hex hmn hz1 hz2 hcc5 ho5 hu9
          refine hK.out _ _ HS5.out.ep.weak (fun hHeld => ?_)
          try simp only [Act.put, sJ, tJ, uJ]
          refine zC (i := 7) rfl fun K hK => ?_
          clear hHeld
          go_simp
          refine hK.out _ _ (HS5.out.ep.alloc hg hgl _).weak (fun hHeld => ?_)
          try simp only [Act.put, sJ, tJ, uJ]
          clear hHeld
          refine zC (i := 8) rfl fun K hK => ?_
          obtain ⟨vs, hvs, hcs⟩ := HK5.out.row
          have HVC := zH (aI hvs hcs)
          rw [← HQ.out] at hvs
          refine step_append_lies _ (by rfl) _ _ _ (by rfl) (bO + 1) 32 i0 _ 3 48 Tryz.underlying30 HI.out.1 HI.out.2.1 HI.out.2.2.1 HI.out.2.2.2 rfl (by decide) (.slice AO q co) q vs (by rfl) (World.ownsRow.alloc hvs _) ⟨w5.heap.size, 0, none⟩ 1 1 [.int .i64 e5.kind, .string e5.name, .slice A9 e5.args.length c9] (by rfl) (by rfl) (World.news_of_block (heap_alloc_new w5 _)) (three_one _ _ _ _ _) (by decide) C1.out C2.out (by simp; omega) (w5.heap.size + 1) (by simp) ?_
          intro g6 c6 w6 ho6 hg6 hat6 hlt6
          obtain ⟨hE6, hO6, hS6, hK6⟩ := kid_more hg hgl HQ.out HS5.out HK5.out HBW.out.1 HBW.out.2 HVC.out HX5.out.1 HX5.out.2.1 ho6 hg6 (by rw [World.size_alloc]; exact hat6)
          have HE6 := zH hE6
          have HS6 := zH hS6
          have HK6 := zH hK6
          clear o1 o2
          have o2 := hO6.cell 2 _ rfl
          have of2 := hO6.thaw 2
          clear hvs hcs ho6 hg6 hat6 hlt6 hE6 hO6 hS6 hK6
          refine hK.out _ _ HE6.out.weak (fun hHeld => ?_)
          try simp only [Act.put, sJ]
          refine zT (i := 9) (v := (.pointer (some ⟨bO, 2, none⟩))) rfl (fun X hSw => ?_) hHeld ?_
          · (try dsimp only at hSw)
            go_simp
          try simp only [Act.put]
          clear hHeld
          refine zC (i := 10) rfl fun K hK => ?_
          go_simp
          refine hK.out _ _ HS6.out.ep.weak (fun hHeld => ?_)
          try simp only [Act.put, sJ, tJ, uJ]
          refine wpAnyH_done (by kernel_rfl) ?_ _
          have HZ6 := zH (show exSizes (es ++ [e5]) ≤ (q + 1) * 5 ^ d' ∧ exTots (es ++ [e5]) ≤ (q + 1) * (3000 * 5 ^ d' + 1) by
           rw [sizes_one, tots_one, Nat.add_mul, Nat.add_mul]
           have h1 := HZR.out
           have h2 := HX5.out.2.2
           omega)
          clear hHeld o2 of2 HS5 HK5 HX5 HE6 HIH HBW HSD HZR HSR
          generalize w6.setCell ⟨bO, 2, none⟩ (.slice (some ⟨g6, 0, none⟩) (q + 1) c6) = W7 at *
          go_wp2_with fail
          go_roundw
          case rel => exact ⟨q + 1, _, es ++ [e5], _, by go_num, by rw [lA, ← HQ.out]; rfl, by omega, HS6, HK6, HZ6⟩
          case measure => simp [intOf]; omega
        clear hHeld
        go_simp
        go_at_call 37
        refine HIH.out.mono ?_
        rintro e9 w5 ⟨_, e5, b5, rfl, hex, hmn, hz1, hz2, hcc5, ho5⟩
        obtain ⟨u9, rfl, -, hu9⟩ := id hex
        obtain ⟨A9, c9, rfl, -⟩ := id hu9
        have HS5 := zH (HSD.out.call hg hgl hcc5 ho5)
        have HK5 := zH (HKR.out.keep (W2 := w5) (S := [g]) ⟨ho5.os, ho5.tape, ho5.output, ho5.size, fun i hi hn => ho5.block i hi (fun e => hn (by simp [Option.some.inj e]))⟩ (by simp; omega))
        have HX5 := zH (aI hex (aI hmn (aI hz1 hz2)))
        clear o0 o1 o2 p0 pf pl
        have o2 := HS5.out.ob.cell 2 _ rfl
        have o1 := HS5.out.ob.lt
        clear hex hmn hz1 hz2 hcc5 ho5 hu9
        refine hK.out _ _ HS5.out.ep.weak (fun hHeld => ?_)
        try simp only [Act.put, sJ, tJ, uJ]
        refine wpAnyH_ready (rs := [1, 7]) (by kernel_rfl) (by simp) ?_
        refine AllReadyH.cons rfl (fun K hK => ?_) (AllReadyH.cons rfl (fun K hK => ?_) AllReadyH.nil)
        · go_simp
          refine hK.out _ _ hHeld (fun hHeld => ?_)
          try simp only [Act.put, sJ, tJ, uJ]
          refine zC (i := 7) rfl fun K hK => ?_
          clear hHeld
          go_simp
          refine hK.out _ _ (HS5.out.ep.alloc hg hgl _).weak (fun hHeld => ?_)
          try simp only [Act.put, sJ, tJ, uJ]
          clear hHeld
          refine zC (i := 8) rfl fun K hK => ?_
          obtain ⟨vs, hvs, hcs⟩ := HK5.out.row
          have HVC := zH (aI hvs hcs)
          rw [← HQ.out] at hvs
          refine step_append_lies _ (by rfl) _ _ _ (by rfl) (bO + 1) 32 i0 _ 3 48 Tryz.underlying30 HI.out.1 HI.out.2.1 HI.out.2.2.1 HI.out.2.2.2 rfl (by decide) (.slice AO q co) q vs (by rfl) (World.ownsRow.alloc hvs _) ⟨w5.heap.size, 0, none⟩ 1 1 [.int .i64 e5.kind, .string e5.name, .slice A9 e5.args.length c9] (by rfl) (by rfl) (World.news_of_block (heap_alloc_new w5 _)) (three_one _ _ _ _ _) (by decide) C1.out C2.out (by simp; omega) (w5.heap.size + 1) (by simp) ?_
          intro g6 c6 w6 ho6 hg6 hat6 hlt6
          obtain ⟨hE6, hO6, hS6, hK6⟩ := kid_more hg hgl HQ.out HS5.out HK5.out HBW.out.1 HBW.out.2 HVC.out HX5.out.1 HX5.out.2.1 ho6 hg6 (by rw [World.size_alloc]; exact hat6)
          have HE6 := zH hE6
          have HS6 := zH hS6
          have HK6 := zH hK6
          clear o1 o2
          have o2 := hO6.cell 2 _ rfl
          have of2 := hO6.thaw 2
          clear hvs hcs ho6 hg6 hat6 hlt6 hE6 hO6 hS6 hK6
          refine hK.out _ _ HE6.out.weak (fun hHeld => ?_)
          try simp only [Act.put, sJ]
          refine zT (i := 9) (v := (.pointer (some ⟨bO, 2, none⟩))) rfl (fun X hSw => ?_) hHeld ?_
          · (try dsimp only at hSw)
            go_simp
          try simp only [Act.put]
          clear hHeld
          refine zC (i := 10) rfl fun K hK => ?_
          go_simp
          refine hK.out _ _ HS6.out.ep.weak (fun hHeld => ?_)
          try simp only [Act.put, sJ, tJ, uJ]
          refine wpAnyH_done (by kernel_rfl) ?_ _
          have HZ6 := zH (show exSizes (es ++ [e5]) ≤ (q + 1) * 5 ^ d' ∧ exTots (es ++ [e5]) ≤ (q + 1) * (3000 * 5 ^ d' + 1) by
           rw [sizes_one, tots_one, Nat.add_mul, Nat.add_mul]
           have h1 := HZR.out
           have h2 := HX5.out.2.2
           omega)
          clear hHeld o2 of2 HS5 HK5 HX5 HE6 HIH HBW HSD HZR HSR
          generalize w6.setCell ⟨bO, 2, none⟩ (.slice (some ⟨g6, 0, none⟩) (q + 1) c6) = W7 at *
          go_wp2_with fail
          go_roundw
          case rel => exact ⟨q + 1, _, es ++ [e5], _, by go_num, by rw [lA, ← HQ.out]; rfl, by omega, HS6, HK6, HZ6⟩
          case measure => simp [intOf]; omega
        clear hHeld
        go_simp
        refine hK.out _ _ (HS5.out.ep.alloc hg hgl _).weak (fun hHeld => ?_)
        try simp only [Act.put, sJ, tJ, uJ]
        refine zC (i := 1) rfl fun K hK => ?_
        go_simp
        refine hK.out _ _ hHeld (fun hHeld => ?_)
        try simp only [Act.put, sJ, tJ, uJ]
        clear hHeld
        refine zC (i := 8) rfl fun K hK => ?_
        obtain ⟨vs, hvs, hcs⟩ := HK5.out.row
        have HVC := zH (aI hvs hcs)
        rw [← HQ.out] at hvs
        refine step_append_lies _ (by rfl) _ _ _ (by rfl) (bO + 1) 32 i0 _ 3 48 Tryz.underlying30 HI.out.1 HI.out.2.1 HI.out.2.2.1 HI.out.2.2.2 rfl (by decide) (.slice AO q co) q vs (by rfl) (World.ownsRow.alloc hvs _) ⟨w5.heap.size, 0, none⟩ 1 1 [.int .i64 e5.kind, .string e5.name, .slice A9 e5.args.length c9] (by rfl) (by rfl) (World.news_of_block (heap_alloc_new w5 _)) (three_one _ _ _ _ _) (by decide) C1.out C2.out (by simp; omega) (w5.heap.size + 1) (by simp) ?_
        intro g6 c6 w6 ho6 hg6 hat6 hlt6
        obtain ⟨hE6, hO6, hS6, hK6⟩ := kid_more hg hgl HQ.out HS5.out HK5.out HBW.out.1 HBW.out.2 HVC.out HX5.out.1 HX5.out.2.1 ho6 hg6 (by rw [World.size_alloc]; exact hat6)
        have HE6 := zH hE6
        have HS6 := zH hS6
        have HK6 := zH hK6
        clear o1 o2
        have o2 := hO6.cell 2 _ rfl
        have of2 := hO6.thaw 2
        clear hvs hcs ho6 hg6 hat6 hlt6 hE6 hO6 hS6 hK6
        refine hK.out _ _ HE6.out.weak (fun hHeld => ?_)
        try simp only [Act.put, sJ]
        refine zT (i := 9) (v := (.pointer (some ⟨bO, 2, none⟩))) rfl (fun X hSw => ?_) hHeld ?_
        · (try dsimp only at hSw)
          go_simp
        try simp only [Act.put]
        clear hHeld
        refine zC (i := 10) rfl fun K hK => ?_
        go_simp
        refine hK.out _ _ HS6.out.ep.weak (fun hHeld => ?_)
        try simp only [Act.put, sJ, tJ, uJ]
        refine wpAnyH_done (by kernel_rfl) ?_ _
        have HZ6 := zH (show exSizes (es ++ [e5]) ≤ (q + 1) * 5 ^ d' ∧ exTots (es ++ [e5]) ≤ (q + 1) * (3000 * 5 ^ d' + 1) by
         rw [sizes_one, tots_one, Nat.add_mul, Nat.add_mul]
         have h1 := HZR.out
         have h2 := HX5.out.2.2
         omega)
        clear hHeld o2 of2 HS5 HK5 HX5 HE6 HIH HBW HSD HZR HSR
        generalize w6.setCell ⟨bO, 2, none⟩ (.slice (some ⟨g6, 0, none⟩) (q + 1) c6) = W7 at *
        go_wp2_with fail
        go_roundw
        case rel => exact ⟨q + 1, _, es ++ [e5], _, by go_num, by rw [lA, ← HQ.out]; rfl, by omega, HS6, HK6, HZ6⟩
        case measure => simp [intOf]; omega
      obtain ⟨bs2, hsl, hmn⟩ := HKR.out.is
      have hp5 := pow5 d'
      have hps : 5 ^ (d' + 1) = 5 * 5 ^ d' := by rw [Nat.pow_succ, Nat.mul_comm]
      have hz := HZR.out
      have hq5 : q * 5 ^ d' ≤ 4 * 5 ^ d' := Nat.mul_le_mul_right _ hq4
      have hq6 : q * (3000 * 5 ^ d' + 1) ≤ 4 * (3000 * 5 ^ d' + 1) := Nat.mul_le_mul_right _ hq4
      have hSz : (r.name).size ≤ 2000 := by have h9 := rusTot_mem HMEM.out; have h8 := HM.out.tot; unfold ruTot at h9; omega
      have hxi : ExIs wr (.agg #[.int .i64 3, .string r.name, .slice AO q co]) (.mk 3 r.name es) bs2 := ⟨_, rfl, (by show (r.name).size ≤ 9223372036854775807; omega), hsl⟩
      obtain ⟨hfin, hrow⟩ := HSR.out.ep.fin (d := d' + 1) hg hgl hxi (hmn.mono (by have := HSR.out.lo; have := HSR.out.lt; omega)) (by rw [exSize]; omega) (by rw [exTot]; omega)
      have k0 := hrow.cell 0 _ rfl
      have k1 := hrow.cell 1 _ rfl
      have k2 := hrow.cell 2 _ rfl
      have HFIN := zH hfin
      obtain ⟨z0, z1, z2, hzr⟩ := HSR.out.ep.rbox
      have hzl := hzr.lt
      have b0 := hzr.cell 0 _ rfl
      have b1 := hzr.cell 1 _ rfl
      have b2 := hzr.cell 2 _ rfl
      have f0 := hzr.thaw 0
      have f1 := hzr.thaw 1
      have f2 := hzr.thaw 2
      have hoo : bO ≠ w.heap.size + 1 := by have := HSR.out.lo; have := HSR.out.lt; omega
      clear hsl hmn hfin hrow hzr hxi hz
      go_wp2_with fail
      refine bP (v := .agg #[.int .i64 3, .string r.name, .slice AO q co]) (by simp [results, Tryz.results37, go_sem, k0, k1, k2]) rfl ?_
      exact HFIN.out
   have hv2 : r.vars.length ≤ 2 := (HM.out.each r HMEM.out).2
   have o0 := HS6.out.ob.cell 0 _ rfl
   have o1 := HS6.out.ob.cell 1 _ rfl
   have o2 := HS6.out.ob.cell 2 _ rfl
   have of0 := HS6.out.ob.thaw 0
   have of1 := HS6.out.ob.thaw 1
   have of2 := HS6.out.ob.thaw 2
   have hbl2 := HS6.out.ob.lt
   by_cases hcon : r.con.size = 0
   · have hxe := empty_yes hcon
     go_wp2_with fail
     have HKN := zH (Kids.nilled (bO + 1) w4)
     go_loopw [10] (fun i wr => ∃ (q : Nat) (v' : Value) (es : List Ex) (bs : List Nat), i = .int .i64 (q : Int) ∧ q = es.length ∧ q ≤ 4 ∧ Hid (Es w B g A zs cap (.slice (some ⟨gR, oR, none⟩) n c1) l bp bR bO (.string r.name) (.string r.con) (.slice A3 r.vars.length c3) (.slice A4 r.params.length c4) (.int .i64 r.body.kind) (.string r.body.name) (.slice A5 z5 c5) 3 r.name v' wr) ∧ Hid (Kids (bO + 1) wr v' es bs) ∧ Hid (exSizes es ≤ q * 5 ^ d' ∧ exTots es ≤ q * (3000 * 5 ^ d' + 1))) (fun i _ => 4 - (intOf i).toNat)
     case atStart => exact ⟨0, _, [], [], rfl, rfl, Nat.zero_le _, HS6, HKN, zH (by simp [exSizes, exTots])⟩
     case round =>
      obtain ⟨q, v', es, bs, rfl, hq, hq4, HSR, HKR, HZR⟩ := hrel
      obtain ⟨AO, co, rfl, -, -⟩ := HKR.out.form
      rw [← hq] at HSR HKR
      have HQ := zH hq
      clear hq p0 pf pl t0 t1 t2 t3 t4 t5 t6 hbl
      obtain ⟨p0, pf, pl⟩ := HSR.out.ep.pbox.facts
      have o0 := HSR.out.ob.cell 0 _ rfl
      have o1 := HSR.out.ob.cell 1 _ rfl
      have o2 := HSR.out.ob.cell 2 _ rfl
      have hbl := HSR.out.ob.lt
      have hgO : g < bO := by have := HSR.out.lo; have := HSR.out.lt; omega
      by_cases hlt : (q : Int) < a
      · have HSD := zH (HSR.out.grow (W2 := wr.drew) hg hgl ((Fr.refl [] wr).drew) (by simp))
        have HIH := zH (ih d' rfl B g A zs cap l (.slice (some ⟨gR, oR, none⟩) n c1) bp wr.drew HSD.out.ep.ps.bytes hg HSD.out.ep.ps.cur HN.out HSD.out.ep.rs HSD.out.ep.out (fun x hx => nL (HSD.out.ep.lt x hx) HSD.out.ep.ps.only.size) HM.out)
        have HBW := zH (show bO + 1 ≤ wr.drew.heap.size ∧ ∀ x, x ∈ bs ∨ (Value.slice AO q co).ownBlock = some x → x < wr.drew.heap.size from ⟨hbl, fun x hx => by
         rcases hx with hx | hx
         · exact (HKR.out.mine.range x hx).2
         obtain ⟨vs, hvs, -⟩ := HKR.out.row
         exact (hvs.lt x hx).2⟩)
        have C1 := zH (show q + 1 ≤ maxLen by unfold maxLen; omega)
        have C2 := zH (show (q + 1) * 48 ≤ 140737488355328 by omega)
        go_wp2_with fail
        refine wp_region_held_drew (S := (fun X => X.cell? ⟨w.heap.size, 0, none⟩ = some (.slice (some ⟨gR, oR, none⟩) n c1) ∧ Hid (Ep w B g A zs cap (.slice (some ⟨gR, oR, none⟩) n c1) l bp X))) (by kernel_rfl) ?_ (fun hHeld => ?_)
        · exact HSD.out.ep.weak
        refine zT (i := 0) (v := (.pointer (some ⟨bO, 2, none⟩))) rfl (fun X hSw => ?_) hHeld ?_
        · (try dsimp only at hSw)
          go_simp
        try simp only [Act.put, sJ]
        refine zT (i := 2) (v := (.pointer (some ⟨g, 0, none⟩))) rfl (fun X hSw => ?_) hHeld ?_
        · (try dsimp only at hSw)
          go_simp
        try simp only [Act.put]
        refine zT (i := 3) (v := (.agg #[(.slice (some ⟨gR, oR, none⟩) n c1)])) rfl (fun X hSw => ?_) hHeld ?_
        · (try dsimp only at hSw)
          go_simp
        try simp only [Act.put]
        refine zT (i := 4) (v := (.int .i64 ((d' : Int) + 1))) rfl (fun X hSw => ?_) hHeld ?_
        · (try dsimp only at hSw)
          go_simp
        try simp only [Act.put]
        refine zT (i := 5) (v := (.int .i64 (d' : Int))) rfl (fun X hSw => ?_) hHeld ?_
        · (try dsimp only at hSw)
          go_simp
          exact IntWalk.i64_in _ (by omega)
        try simp only [Act.put]
        refine wpAnyH_ready (rs := [1, 6]) (by kernel_rfl) (by simp) ?_
        refine AllReadyH.cons rfl (fun K hK => ?_) (AllReadyH.cons rfl (fun K hK => ?_) AllReadyH.nil)
        · go_simp
          refine hK.out _ _ hHeld (fun hHeld => ?_)
          try simp only [Act.put, sJ, tJ, uJ]
          refine zC (i := 6) rfl fun K hK => ?_
          clear hHeld
          go_simp
          go_at_call 37
          refine HIH.out.mono ?_
          rintro e9 w5 ⟨_, e5, b5, rfl, hex, hmn, hz1, hz2, hcc5, ho5⟩
          obtain ⟨u9, rfl, -, hu9⟩ := id hex
          obtain ⟨A9, c9, rfl, -⟩ := id hu9
          have HS5 := zH (HSD.out.call hg hgl hcc5 ho5)
          have HK5 := zH (HKR.out.keep (W2 := w5) (S := [g]) ⟨ho5.os, ho5.tape, ho5.output, ho5.size, fun i hi hn => ho5.block i hi (fun e => hn (by simp [Option.some.inj e]))⟩ (by simp; omega))
          have HX5 := zH (aI hex (aI hmn (aI hz1 hz2)))
          clear o0 o1 o2 p0 pf pl
          have o2 := HS5.out.ob.cell 2 _ rfl
          have o1 := HS5.out.ob.lt
          clear hex hmn hz1 hz2 hcc5 ho5 hu9
          refine hK.out _ _ HS5.out.ep.weak (fun hHeld => ?_)
          try simp only [Act.put, sJ, tJ, uJ]
          refine zC (i := 7) rfl fun K hK => ?_
          clear hHeld
          go_simp
          refine hK.out _ _ (HS5.out.ep.alloc hg hgl _).weak (fun hHeld => ?_)
          try simp only [Act.put, sJ, tJ, uJ]
          clear hHeld
          refine zC (i := 8) rfl fun K hK => ?_
          obtain ⟨vs, hvs, hcs⟩ := HK5.out.row
          have HVC := zH (aI hvs hcs)
          rw [← HQ.out] at hvs
          refine step_append_lies _ (by rfl) _ _ _ (by rfl) (bO + 1) 32 i0 _ 3 48 Tryz.underlying30 HI.out.1 HI.out.2.1 HI.out.2.2.1 HI.out.2.2.2 rfl (by decide) (.slice AO q co) q vs (by rfl) (World.ownsRow.alloc hvs _) ⟨w5.heap.size, 0, none⟩ 1 1 [.int .i64 e5.kind, .string e5.name, .slice A9 e5.args.length c9] (by rfl) (by rfl) (World.news_of_block (heap_alloc_new w5 _)) (three_one _ _ _ _ _) (by decide) C1.out C2.out (by simp; omega) (w5.heap.size + 1) (by simp) ?_
          intro g6 c6 w6 ho6 hg6 hat6 hlt6
          obtain ⟨hE6, hO6, hS6, hK6⟩ := kid_more hg hgl HQ.out HS5.out HK5.out HBW.out.1 HBW.out.2 HVC.out HX5.out.1 HX5.out.2.1 ho6 hg6 (by rw [World.size_alloc]; exact hat6)
          have HE6 := zH hE6
          have HS6 := zH hS6
          have HK6 := zH hK6
          clear o1 o2
          have o2 := hO6.cell 2 _ rfl
          have of2 := hO6.thaw 2
          clear hvs hcs ho6 hg6 hat6 hlt6 hE6 hO6 hS6 hK6
          refine hK.out _ _ HE6.out.weak (fun hHeld => ?_)
          try simp only [Act.put, sJ]
          refine zT (i := 9) (v := (.pointer (some ⟨bO, 2, none⟩))) rfl (fun X hSw => ?_) hHeld ?_
          · (try dsimp only at hSw)
            go_simp
          try simp only [Act.put]
          clear hHeld
          refine zC (i := 10) rfl fun K hK => ?_
          go_simp
          refine hK.out _ _ HS6.out.ep.weak (fun hHeld => ?_)
          try simp only [Act.put, sJ, tJ, uJ]
          refine wpAnyH_done (by kernel_rfl) ?_ _
          have HZ6 := zH (show exSizes (es ++ [e5]) ≤ (q + 1) * 5 ^ d' ∧ exTots (es ++ [e5]) ≤ (q + 1) * (3000 * 5 ^ d' + 1) by
           rw [sizes_one, tots_one, Nat.add_mul, Nat.add_mul]
           have h1 := HZR.out
           have h2 := HX5.out.2.2
           omega)
          clear hHeld o2 of2 HS5 HK5 HX5 HE6 HIH HBW HSD HZR HSR
          generalize w6.setCell ⟨bO, 2, none⟩ (.slice (some ⟨g6, 0, none⟩) (q + 1) c6) = W7 at *
          go_wp2_with fail
          go_roundw
          case rel => exact ⟨q + 1, _, es ++ [e5], _, by go_num, by rw [lA, ← HQ.out]; rfl, by omega, HS6, HK6, HZ6⟩
          case measure => simp [intOf]; omega
        clear hHeld
        go_simp
        go_at_call 37
        refine HIH.out.mono ?_
        rintro e9 w5 ⟨_, e5, b5, rfl, hex, hmn, hz1, hz2, hcc5, ho5⟩
        obtain ⟨u9, rfl, -, hu9⟩ := id hex
        obtain ⟨A9, c9, rfl, -⟩ := id hu9
        have HS5 := zH (HSD.out.call hg hgl hcc5 ho5)
        have HK5 := zH (HKR.out.keep (W2 := w5) (S := [g]) ⟨ho5.os, ho5.tape, ho5.output, ho5.size, fun i hi hn => ho5.block i hi (fun e => hn (by simp [Option.some.inj e]))⟩ (by simp; omega))
        have HX5 := zH (aI hex (aI hmn (aI hz1 hz2)))
        clear o0 o1 o2 p0 pf pl
        have o2 := HS5.out.ob.cell 2 _ rfl
        have o1 := HS5.out.ob.lt
        clear hex hmn hz1 hz2 hcc5 ho5 hu9
        refine hK.out _ _ HS5.out.ep.weak (fun hHeld => ?_)
        try simp only [Act.put, sJ, tJ, uJ]
        refine wpAnyH_ready (rs := [1, 7]) (by kernel_rfl) (by simp) ?_
        refine AllReadyH.cons rfl (fun K hK => ?_) (AllReadyH.cons rfl (fun K hK => ?_) AllReadyH.nil)
        · go_simp
          refine hK.out _ _ hHeld (fun hHeld => ?_)
          try simp only [Act.put, sJ, tJ, uJ]
          refine zC (i := 7) rfl fun K hK => ?_
          clear hHeld
          go_simp
          refine hK.out _ _ (HS5.out.ep.alloc hg hgl _).weak (fun hHeld => ?_)
          try simp only [Act.put, sJ, tJ, uJ]
          clear hHeld
          refine zC (i := 8) rfl fun K hK => ?_
          obtain ⟨vs, hvs, hcs⟩ := HK5.out.row
          have HVC := zH (aI hvs hcs)
          rw [← HQ.out] at hvs
          refine step_append_lies _ (by rfl) _ _ _ (by rfl) (bO + 1) 32 i0 _ 3 48 Tryz.underlying30 HI.out.1 HI.out.2.1 HI.out.2.2.1 HI.out.2.2.2 rfl (by decide) (.slice AO q co) q vs (by rfl) (World.ownsRow.alloc hvs _) ⟨w5.heap.size, 0, none⟩ 1 1 [.int .i64 e5.kind, .string e5.name, .slice A9 e5.args.length c9] (by rfl) (by rfl) (World.news_of_block (heap_alloc_new w5 _)) (three_one _ _ _ _ _) (by decide) C1.out C2.out (by simp; omega) (w5.heap.size + 1) (by simp) ?_
          intro g6 c6 w6 ho6 hg6 hat6 hlt6
          obtain ⟨hE6, hO6, hS6, hK6⟩ := kid_more hg hgl HQ.out HS5.out HK5.out HBW.out.1 HBW.out.2 HVC.out HX5.out.1 HX5.out.2.1 ho6 hg6 (by rw [World.size_alloc]; exact hat6)
          have HE6 := zH hE6
          have HS6 := zH hS6
          have HK6 := zH hK6
          clear o1 o2
          have o2 := hO6.cell 2 _ rfl
          have of2 := hO6.thaw 2
          clear hvs hcs ho6 hg6 hat6 hlt6 hE6 hO6 hS6 hK6
          refine hK.out _ _ HE6.out.weak (fun hHeld => ?_)
          try simp only [Act.put, sJ]
          refine zT (i := 9) (v := (.pointer (some ⟨bO, 2, none⟩))) rfl (fun X hSw => ?_) hHeld ?_
          · (try dsimp only at hSw)
            go_simp
          try simp only [Act.put]
          clear hHeld
          refine zC (i := 10) rfl fun K hK => ?_
          go_simp
          refine hK.out _ _ HS6.out.ep.weak (fun hHeld => ?_)
          try simp only [Act.put, sJ, tJ, uJ]
          refine wpAnyH_done (by kernel_rfl) ?_ _
          have HZ6 := zH (show exSizes (es ++ [e5]) ≤ (q + 1) * 5 ^ d' ∧ exTots (es ++ [e5]) ≤ (q + 1) * (3000 * 5 ^ d' + 1) by
           rw [sizes_one, tots_one, Nat.add_mul, Nat.add_mul]
           have h1 := HZR.out
           have h2 := HX5.out.2.2
           omega)
          clear hHeld o2 of2 HS5 HK5 HX5 HE6 HIH HBW HSD HZR HSR
          generalize w6.setCell ⟨bO, 2, none⟩ (.slice (some ⟨g6, 0, none⟩) (q + 1) c6) = W7 at *
          go_wp2_with fail
          go_roundw
          case rel => exact ⟨q + 1, _, es ++ [e5], _, by go_num, by rw [lA, ← HQ.out]; rfl, by omega, HS6, HK6, HZ6⟩
          case measure => simp [intOf]; omega
        clear hHeld
        go_simp
        refine hK.out _ _ (HS5.out.ep.alloc hg hgl _).weak (fun hHeld => ?_)
        try simp only [Act.put, sJ, tJ, uJ]
        refine zC (i := 1) rfl fun K hK => ?_
        go_simp
        refine hK.out _ _ hHeld (fun hHeld => ?_)
        try simp only [Act.put, sJ, tJ, uJ]
        clear hHeld
        refine zC (i := 8) rfl fun K hK => ?_
        obtain ⟨vs, hvs, hcs⟩ := HK5.out.row
        have HVC := zH (aI hvs hcs)
        rw [← HQ.out] at hvs
        refine step_append_lies _ (by rfl) _ _ _ (by rfl) (bO + 1) 32 i0 _ 3 48 Tryz.underlying30 HI.out.1 HI.out.2.1 HI.out.2.2.1 HI.out.2.2.2 rfl (by decide) (.slice AO q co) q vs (by rfl) (World.ownsRow.alloc hvs _) ⟨w5.heap.size, 0, none⟩ 1 1 [.int .i64 e5.kind, .string e5.name, .slice A9 e5.args.length c9] (by rfl) (by rfl) (World.news_of_block (heap_alloc_new w5 _)) (three_one _ _ _ _ _) (by decide) C1.out C2.out (by simp; omega) (w5.heap.size + 1) (by simp) ?_
        intro g6 c6 w6 ho6 hg6 hat6 hlt6
        obtain ⟨hE6, hO6, hS6, hK6⟩ := kid_more hg hgl HQ.out HS5.out HK5.out HBW.out.1 HBW.out.2 HVC.out HX5.out.1 HX5.out.2.1 ho6 hg6 (by rw [World.size_alloc]; exact hat6)
        have HE6 := zH hE6
        have HS6 := zH hS6
        have HK6 := zH hK6
        clear o1 o2
        have o2 := hO6.cell 2 _ rfl
        have of2 := hO6.thaw 2
        clear hvs hcs ho6 hg6 hat6 hlt6 hE6 hO6 hS6 hK6
        refine hK.out _ _ HE6.out.weak (fun hHeld => ?_)
        try simp only [Act.put, sJ]
        refine zT (i := 9) (v := (.pointer (some ⟨bO, 2, none⟩))) rfl (fun X hSw => ?_) hHeld ?_
        · (try dsimp only at hSw)
          go_simp
        try simp only [Act.put]
        clear hHeld
        refine zC (i := 10) rfl fun K hK => ?_
        go_simp
        refine hK.out _ _ HS6.out.ep.weak (fun hHeld => ?_)
        try simp only [Act.put, sJ, tJ, uJ]
        refine wpAnyH_done (by kernel_rfl) ?_ _
        have HZ6 := zH (show exSizes (es ++ [e5]) ≤ (q + 1) * 5 ^ d' ∧ exTots (es ++ [e5]) ≤ (q + 1) * (3000 * 5 ^ d' + 1) by
         rw [sizes_one, tots_one, Nat.add_mul, Nat.add_mul]
         have h1 := HZR.out
         have h2 := HX5.out.2.2
         omega)
        clear hHeld o2 of2 HS5 HK5 HX5 HE6 HIH HBW HSD HZR HSR
        generalize w6.setCell ⟨bO, 2, none⟩ (.slice (some ⟨g6, 0, none⟩) (q + 1) c6) = W7 at *
        go_wp2_with fail
        go_roundw
        case rel => exact ⟨q + 1, _, es ++ [e5], _, by go_num, by rw [lA, ← HQ.out]; rfl, by omega, HS6, HK6, HZ6⟩
        case measure => simp [intOf]; omega
      obtain ⟨bs2, hsl, hmn⟩ := HKR.out.is
      have hp5 := pow5 d'
      have hps : 5 ^ (d' + 1) = 5 * 5 ^ d' := by rw [Nat.pow_succ, Nat.mul_comm]
      have hz := HZR.out
      have hq5 : q * 5 ^ d' ≤ 4 * 5 ^ d' := Nat.mul_le_mul_right _ hq4
      have hq6 : q * (3000 * 5 ^ d' + 1) ≤ 4 * (3000 * 5 ^ d' + 1) := Nat.mul_le_mul_right _ hq4
      have hSz : (r.name).size ≤ 2000 := by have h9 := rusTot_mem HMEM.out; have h8 := HM.out.tot; unfold ruTot at h9; omega
      have hxi : ExIs wr (.agg #[.int .i64 3, .string r.name, .slice AO q co]) (.mk 3 r.name es) bs2 := ⟨_, rfl, (by show (r.name).size ≤ 9223372036854775807; omega), hsl⟩
      obtain ⟨hfin, hrow⟩ := HSR.out.ep.fin (d := d' + 1) hg hgl hxi (hmn.mono (by have := HSR.out.lo; have := HSR.out.lt; omega)) (by rw [exSize]; omega) (by rw [exTot]; omega)
      have k0 := hrow.cell 0 _ rfl
      have k1 := hrow.cell 1 _ rfl
      have k2 := hrow.cell 2 _ rfl
      have HFIN := zH hfin
      obtain ⟨z0, z1, z2, hzr⟩ := HSR.out.ep.rbox
      have hzl := hzr.lt
      have b0 := hzr.cell 0 _ rfl
      have b1 := hzr.cell 1 _ rfl
      have b2 := hzr.cell 2 _ rfl
      have f0 := hzr.thaw 0
      have f1 := hzr.thaw 1
      have f2 := hzr.thaw 2
      have hoo : bO ≠ w.heap.size + 1 := by have := HSR.out.lo; have := HSR.out.lt; omega
      clear hsl hmn hfin hrow hzr hxi hz
      go_wp2_with fail
      refine bP (v := .agg #[.int .i64 3, .string r.name, .slice AO q co]) (by simp [results, Tryz.results37, go_sem, k0, k1, k2]) rfl ?_
      exact HFIN.out
   have hxe := empty_not hcon
   have HS7 := zH (HS6.out.out3 hg hgl 2 r.con (.slice none 0 0))
   have hne1 : bR ≠ bO := by have := HS6.out.lt; omega
   have hne2 : bO ≠ bR := fun e => hne1 e.symm
   go_wp2_with fail
   generalize ((w4.setCell ⟨bO, 0, none⟩ (.int .i64 2)).setCell ⟨bO, 1, none⟩ (.string r.con)).setCell ⟨bO, 2, none⟩ (.slice none 0 0) = w7 at *
   have HKN := zH (Kids.nilled (bO + 1) w7)
   go_loopw [10] (fun i wr => ∃ (q : Nat) (v' : Value) (es : List Ex) (bs : List Nat), i = .int .i64 (q : Int) ∧ q = es.length ∧ q ≤ 4 ∧ Hid (Es w B g A zs cap (.slice (some ⟨gR, oR, none⟩) n c1) l bp bR bO (.string r.name) (.string r.con) (.slice A3 r.vars.length c3) (.slice A4 r.params.length c4) (.int .i64 r.body.kind) (.string r.body.name) (.slice A5 z5 c5) 2 r.con v' wr) ∧ Hid (Kids (bO + 1) wr v' es bs) ∧ Hid (exSizes es ≤ q * 5 ^ d' ∧ exTots es ≤ q * (3000 * 5 ^ d' + 1))) (fun i _ => 4 - (intOf i).toNat)
   case atStart => exact ⟨0, _, [], [], rfl, rfl, Nat.zero_le _, HS7, HKN, zH (by simp [exSizes, exTots])⟩
   case round =>
    obtain ⟨q, v', es, bs, rfl, hq, hq4, HSR, HKR, HZR⟩ := hrel
    obtain ⟨AO, co, rfl, -, -⟩ := HKR.out.form
    rw [← hq] at HSR HKR
    have HQ := zH hq
    clear hq p0 pf pl t0 t1 t2 t3 t4 t5 t6 hbl
    obtain ⟨p0, pf, pl⟩ := HSR.out.ep.pbox.facts
    have o0 := HSR.out.ob.cell 0 _ rfl
    have o1 := HSR.out.ob.cell 1 _ rfl
    have o2 := HSR.out.ob.cell 2 _ rfl
    have hbl := HSR.out.ob.lt
    have hgO : g < bO := by have := HSR.out.lo; have := HSR.out.lt; omega
    by_cases hlt : (q : Int) < ((r.vars.length : Nat) : Int)
    · have HSD := zH (HSR.out.grow (W2 := wr.drew) hg hgl ((Fr.refl [] wr).drew) (by simp))
      have HIH := zH (ih d' rfl B g A zs cap l (.slice (some ⟨gR, oR, none⟩) n c1) bp wr.drew HSD.out.ep.ps.bytes hg HSD.out.ep.ps.cur HN.out HSD.out.ep.rs HSD.out.ep.out (fun x hx => nL (HSD.out.ep.lt x hx) HSD.out.ep.ps.only.size) HM.out)
      have HBW := zH (show bO + 1 ≤ wr.drew.heap.size ∧ ∀ x, x ∈ bs ∨ (Value.slice AO q co).ownBlock = some x → x < wr.drew.heap.size from ⟨hbl, fun x hx => by
       rcases hx with hx | hx
       · exact (HKR.out.mine.range x hx).2
       obtain ⟨vs, hvs, -⟩ := HKR.out.row
       exact (hvs.lt x hx).2⟩)
      have C1 := zH (show q + 1 ≤ maxLen by unfold maxLen; omega)
      have C2 := zH (show (q + 1) * 48 ≤ 140737488355328 by omega)
      go_wp2_with fail
      refine wp_region_held_drew (S := (fun X => X.cell? ⟨w.heap.size, 0, none⟩ = some (.slice (some ⟨gR, oR, none⟩) n c1) ∧ Hid (Ep w B g A zs cap (.slice (some ⟨gR, oR, none⟩) n c1) l bp X))) (by kernel_rfl) ?_ (fun hHeld => ?_)
      · exact HSD.out.ep.weak
      refine zT (i := 0) (v := (.pointer (some ⟨bO, 2, none⟩))) rfl (fun X hSw => ?_) hHeld ?_
      · (try dsimp only at hSw)
        go_simp
      try simp only [Act.put, sJ]
      refine zT (i := 2) (v := (.pointer (some ⟨g, 0, none⟩))) rfl (fun X hSw => ?_) hHeld ?_
      · (try dsimp only at hSw)
        go_simp
      try simp only [Act.put]
      refine zT (i := 3) (v := (.agg #[(.slice (some ⟨gR, oR, none⟩) n c1)])) rfl (fun X hSw => ?_) hHeld ?_
      · (try dsimp only at hSw)
        go_simp
      try simp only [Act.put]
      refine zT (i := 4) (v := (.int .i64 ((d' : Int) + 1))) rfl (fun X hSw => ?_) hHeld ?_
      · (try dsimp only at hSw)
        go_simp
      try simp only [Act.put]
      refine zT (i := 5) (v := (.int .i64 (d' : Int))) rfl (fun X hSw => ?_) hHeld ?_
      · (try dsimp only at hSw)
        go_simp
        exact IntWalk.i64_in _ (by omega)
      try simp only [Act.put]
      refine wpAnyH_ready (rs := [1, 6]) (by kernel_rfl) (by simp) ?_
      refine AllReadyH.cons rfl (fun K hK => ?_) (AllReadyH.cons rfl (fun K hK => ?_) AllReadyH.nil)
      · go_simp
        refine hK.out _ _ hHeld (fun hHeld => ?_)
        try simp only [Act.put, sJ, tJ, uJ]
        refine zC (i := 6) rfl fun K hK => ?_
        clear hHeld
        go_simp
        go_at_call 37
        refine HIH.out.mono ?_
        rintro e9 w5 ⟨_, e5, b5, rfl, hex, hmn, hz1, hz2, hcc5, ho5⟩
        obtain ⟨u9, rfl, -, hu9⟩ := id hex
        obtain ⟨A9, c9, rfl, -⟩ := id hu9
        have HS5 := zH (HSD.out.call hg hgl hcc5 ho5)
        have HK5 := zH (HKR.out.keep (W2 := w5) (S := [g]) ⟨ho5.os, ho5.tape, ho5.output, ho5.size, fun i hi hn => ho5.block i hi (fun e => hn (by simp [Option.some.inj e]))⟩ (by simp; omega))
        have HX5 := zH (aI hex (aI hmn (aI hz1 hz2)))
        clear o0 o1 o2 p0 pf pl
        have o2 := HS5.out.ob.cell 2 _ rfl
        have o1 := HS5.out.ob.lt
        clear hex hmn hz1 hz2 hcc5 ho5 hu9
        refine hK.out _ _ HS5.out.ep.weak (fun hHeld => ?_)
        try simp only [Act.put, sJ, tJ, uJ]
        refine zC (i := 7) rfl fun K hK => ?_
        clear hHeld
        go_simp
        refine hK.out _ _ (HS5.out.ep.alloc hg hgl _).weak (fun hHeld => ?_)
        try simp only [Act.put, sJ, tJ, uJ]
        clear hHeld
        refine zC (i := 8) rfl fun K hK => ?_
        obtain ⟨vs, hvs, hcs⟩ := HK5.out.row
        have HVC := zH (aI hvs hcs)
        rw [← HQ.out] at hvs
        refine step_append_lies _ (by rfl) _ _ _ (by rfl) (bO + 1) 32 i0 _ 3 48 Tryz.underlying30 HI.out.1 HI.out.2.1 HI.out.2.2.1 HI.out.2.2.2 rfl (by decide) (.slice AO q co) q vs (by rfl) (World.ownsRow.alloc hvs _) ⟨w5.heap.size, 0, none⟩ 1 1 [.int .i64 e5.kind, .string e5.name, .slice A9 e5.args.length c9] (by rfl) (by rfl) (World.news_of_block (heap_alloc_new w5 _)) (three_one _ _ _ _ _) (by decide) C1.out C2.out (by simp; omega) (w5.heap.size + 1) (by simp) ?_
        intro g6 c6 w6 ho6 hg6 hat6 hlt6
        obtain ⟨hE6, hO6, hS6, hK6⟩ := kid_more hg hgl HQ.out HS5.out HK5.out HBW.out.1 HBW.out.2 HVC.out HX5.out.1 HX5.out.2.1 ho6 hg6 (by rw [World.size_alloc]; exact hat6)
        have HE6 := zH hE6
        have HS6 := zH hS6
        have HK6 := zH hK6
        clear o1 o2
        have o2 := hO6.cell 2 _ rfl
        have of2 := hO6.thaw 2
        clear hvs hcs ho6 hg6 hat6 hlt6 hE6 hO6 hS6 hK6
        refine hK.out _ _ HE6.out.weak (fun hHeld => ?_)
        try simp only [Act.put, sJ]
        refine zT (i := 9) (v := (.pointer (some ⟨bO, 2, none⟩))) rfl (fun X hSw => ?_) hHeld ?_
        · (try dsimp only at hSw)
          go_simp
        try simp only [Act.put]
        clear hHeld
        refine zC (i := 10) rfl fun K hK => ?_
        go_simp
        refine hK.out _ _ HS6.out.ep.weak (fun hHeld => ?_)
        try simp only [Act.put, sJ, tJ, uJ]
        refine wpAnyH_done (by kernel_rfl) ?_ _
        have HZ6 := zH (show exSizes (es ++ [e5]) ≤ (q + 1) * 5 ^ d' ∧ exTots (es ++ [e5]) ≤ (q + 1) * (3000 * 5 ^ d' + 1) by
         rw [sizes_one, tots_one, Nat.add_mul, Nat.add_mul]
         have h1 := HZR.out
         have h2 := HX5.out.2.2
         omega)
        clear hHeld o2 of2 HS5 HK5 HX5 HE6 HIH HBW HSD HZR HSR
        generalize w6.setCell ⟨bO, 2, none⟩ (.slice (some ⟨g6, 0, none⟩) (q + 1) c6) = W7 at *
        go_wp2_with fail
        go_roundw
        case rel => exact ⟨q + 1, _, es ++ [e5], _, by go_num, by rw [lA, ← HQ.out]; rfl, by omega, HS6, HK6, HZ6⟩
        case measure => simp [intOf]; omega
      clear hHeld
      go_simp
      go_at_call 37
      refine HIH.out.mono ?_
      rintro e9 w5 ⟨_, e5, b5, rfl, hex, hmn, hz1, hz2, hcc5, ho5⟩
      obtain ⟨u9, rfl, -, hu9⟩ := id hex
      obtain ⟨A9, c9, rfl, -⟩ := id hu9
      have HS5 := zH (HSD.out.call hg hgl hcc5 ho5)
      have HK5 := zH (HKR.out.keep (W2 := w5) (S := [g]) ⟨ho5.os, ho5.tape, ho5.output, ho5.size, fun i hi hn => ho5.block i hi (fun e => hn (by simp [Option.some.inj e]))⟩ (by simp; omega))
      have HX5 := zH (aI hex (aI hmn (aI hz1 hz2)))
      clear o0 o1 o2 p0 pf pl
      have o2 := HS5.out.ob.cell 2 _ rfl
      have o1 := HS5.out.ob.lt
      clear hex hmn hz1 hz2 hcc5 ho5 hu9
      refine hK.out _ _ HS5.out.ep.weak (fun hHeld => ?_)
      try simp only [Act.put, sJ, tJ, uJ]
      refine wpAnyH_ready (rs := [1, 7]) (by kernel_rfl) (by simp) ?_
      refine AllReadyH.cons rfl (fun K hK => ?_) (AllReadyH.cons rfl (fun K hK => ?_) AllReadyH.nil)
      · go_simp
        refine hK.out _ _ hHeld (fun hHeld => ?_)
        try simp only [Act.put, sJ, tJ, uJ]
        refine zC (i := 7) rfl fun K hK => ?_
        clear hHeld
        go_simp
        refine hK.out _ _ (HS5.out.ep.alloc hg hgl _).weak (fun hHeld => ?_)
        try simp only [Act.put, sJ, tJ, uJ]
        clear hHeld
        refine zC (i := 8) rfl fun K hK => ?_
        obtain ⟨vs, hvs, hcs⟩ := HK5.out.row
        have HVC := zH (aI hvs hcs)
        rw [← HQ.out] at hvs
        refine step_append_lies _ (by rfl) _ _ _ (by rfl) (bO + 1) 32 i0 _ 3 48 Tryz.underlying30 HI.out.1 HI.out.2.1 HI.out.2.2.1 HI.out.2.2.2 rfl (by decide) (.slice AO q co) q vs (by rfl) (World.ownsRow.alloc hvs _) ⟨w5.heap.size, 0, none⟩ 1 1 [.int .i64 e5.kind, .string e5.name, .slice A9 e5.args.length c9] (by rfl) (by rfl) (World.news_of_block (heap_alloc_new w5 _)) (three_one _ _ _ _ _) (by decide) C1.out C2.out (by simp; omega) (w5.heap.size + 1) (by simp) ?_
        intro g6 c6 w6 ho6 hg6 hat6 hlt6
        obtain ⟨hE6, hO6, hS6, hK6⟩ := kid_more hg hgl HQ.out HS5.out HK5.out HBW.out.1 HBW.out.2 HVC.out HX5.out.1 HX5.out.2.1 ho6 hg6 (by rw [World.size_alloc]; exact hat6)
        have HE6 := zH hE6
        have HS6 := zH hS6
        have HK6 := zH hK6
        clear o1 o2
        have o2 := hO6.cell 2 _ rfl
        have of2 := hO6.thaw 2
        clear hvs hcs ho6 hg6 hat6 hlt6 hE6 hO6 hS6 hK6
        refine hK.out _ _ HE6.out.weak (fun hHeld => ?_)
        try simp only [Act.put, sJ]
        refine zT (i := 9) (v := (.pointer (some ⟨bO, 2, none⟩))) rfl (fun X hSw => ?_) hHeld ?_
        · (try dsimp only at hSw)
          go_simp
        try simp only [Act.put]
        clear hHeld
        refine zC (i := 10) rfl fun K hK => ?_
        go_simp
        refine hK.out _ _ HS6.out.ep.weak (fun hHeld => ?_)
        try simp only [Act.put, sJ, tJ, uJ]
        refine wpAnyH_done (by kernel_rfl) ?_ _
        have HZ6 := zH (show exSizes (es ++ [e5]) ≤ (q + 1) * 5 ^ d' ∧ exTots (es ++ [e5]) ≤ (q + 1) * (3000 * 5 ^ d' + 1) by
         rw [sizes_one, tots_one, Nat.add_mul, Nat.add_mul]
         have h1 := HZR.out
         have h2 := HX5.out.2.2
         omega)
        clear hHeld o2 of2 HS5 HK5 HX5 HE6 HIH HBW HSD HZR HSR
        generalize w6.setCell ⟨bO, 2, none⟩ (.slice (some ⟨g6, 0, none⟩) (q + 1) c6) = W7 at *
        go_wp2_with fail
        go_roundw
        case rel => exact ⟨q + 1, _, es ++ [e5], _, by go_num, by rw [lA, ← HQ.out]; rfl, by omega, HS6, HK6, HZ6⟩
        case measure => simp [intOf]; omega
      clear hHeld
      go_simp
      refine hK.out _ _ (HS5.out.ep.alloc hg hgl _).weak (fun hHeld => ?_)
      try simp only [Act.put, sJ, tJ, uJ]
      refine zC (i := 1) rfl fun K hK => ?_
      go_simp
      refine hK.out _ _ hHeld (fun hHeld => ?_)
      try simp only [Act.put, sJ, tJ, uJ]
      clear hHeld
      refine zC (i := 8) rfl fun K hK => ?_
      obtain ⟨vs, hvs, hcs⟩ := HK5.out.row
      have HVC := zH (aI hvs hcs)
      rw [← HQ.out] at hvs
      refine step_append_lies _ (by rfl) _ _ _ (by rfl) (bO + 1) 32 i0 _ 3 48 Tryz.underlying30 HI.out.1 HI.out.2.1 HI.out.2.2.1 HI.out.2.2.2 rfl (by decide) (.slice AO q co) q vs (by rfl) (World.ownsRow.alloc hvs _) ⟨w5.heap.size, 0, none⟩ 1 1 [.int .i64 e5.kind, .string e5.name, .slice A9 e5.args.length c9] (by rfl) (by rfl) (World.news_of_block (heap_alloc_new w5 _)) (three_one _ _ _ _ _) (by decide) C1.out C2.out (by simp; omega) (w5.heap.size + 1) (by simp) ?_
      intro g6 c6 w6 ho6 hg6 hat6 hlt6
      obtain ⟨hE6, hO6, hS6, hK6⟩ := kid_more hg hgl HQ.out HS5.out HK5.out HBW.out.1 HBW.out.2 HVC.out HX5.out.1 HX5.out.2.1 ho6 hg6 (by rw [World.size_alloc]; exact hat6)
      have HE6 := zH hE6
      have HS6 := zH hS6
      have HK6 := zH hK6
      clear o1 o2
      have o2 := hO6.cell 2 _ rfl
      have of2 := hO6.thaw 2
      clear hvs hcs ho6 hg6 hat6 hlt6 hE6 hO6 hS6 hK6
      refine hK.out _ _ HE6.out.weak (fun hHeld => ?_)
      try simp only [Act.put, sJ]
      refine zT (i := 9) (v := (.pointer (some ⟨bO, 2, none⟩))) rfl (fun X hSw => ?_) hHeld ?_
      · (try dsimp only at hSw)
        go_simp
      try simp only [Act.put]
      clear hHeld
      refine zC (i := 10) rfl fun K hK => ?_
      go_simp
      refine hK.out _ _ HS6.out.ep.weak (fun hHeld => ?_)
      try simp only [Act.put, sJ, tJ, uJ]
      refine wpAnyH_done (by kernel_rfl) ?_ _
      have HZ6 := zH (show exSizes (es ++ [e5]) ≤ (q + 1) * 5 ^ d' ∧ exTots (es ++ [e5]) ≤ (q + 1) * (3000 * 5 ^ d' + 1) by
       rw [sizes_one, tots_one, Nat.add_mul, Nat.add_mul]
       have h1 := HZR.out
       have h2 := HX5.out.2.2
       omega)
      clear hHeld o2 of2 HS5 HK5 HX5 HE6 HIH HBW HSD HZR HSR
      generalize w6.setCell ⟨bO, 2, none⟩ (.slice (some ⟨g6, 0, none⟩) (q + 1) c6) = W7 at *
      go_wp2_with fail
      go_roundw
      case rel => exact ⟨q + 1, _, es ++ [e5], _, by go_num, by rw [lA, ← HQ.out]; rfl, by omega, HS6, HK6, HZ6⟩
      case measure => simp [intOf]; omega
    obtain ⟨bs2, hsl, hmn⟩ := HKR.out.is
    have hp5 := pow5 d'
    have hps : 5 ^ (d' + 1) = 5 * 5 ^ d' := by rw [Nat.pow_succ, Nat.mul_comm]
    have hz := HZR.out
    have hq5 : q * 5 ^ d' ≤ 4 * 5 ^ d' := Nat.mul_le_mul_right _ hq4
    have hq6 : q * (3000 * 5 ^ d' + 1) ≤ 4 * (3000 * 5 ^ d' + 1) := Nat.mul_le_mul_right _ hq4
    have hSz : (r.con).size ≤ 2000 := by have h9 := rusTot_mem HMEM.out; have h8 := HM.out.tot; unfold ruTot at h9; omega
    have hxi : ExIs wr (.agg #[.int .i64 2, .string r.con, .slice AO q co]) (.mk 2 r.con es) bs2 := ⟨_, rfl, (by show (r.con).size ≤ 9223372036854775807; omega), hsl⟩
    obtain ⟨hfin, hrow⟩ := HSR.out.ep.fin (d := d' + 1) hg hgl hxi (hmn.mono (by have := HSR.out.lo; have := HSR.out.lt; omega)) (by rw [exSize]; omega) (by rw [exTot]; omega)
    have k0 := hrow.cell 0 _ rfl
    have k1 := hrow.cell 1 _ rfl
    have k2 := hrow.cell 2 _ rfl
    have HFIN := zH hfin
    obtain ⟨z0, z1, z2, hzr⟩ := HSR.out.ep.rbox
    have hzl := hzr.lt
    have b0 := hzr.cell 0 _ rfl
    have b1 := hzr.cell 1 _ rfl
    have b2 := hzr.cell 2 _ rfl
    have f0 := hzr.thaw 0
    have f1 := hzr.thaw 1
    have f2 := hzr.thaw 2
    have hoo : bO ≠ w.heap.size + 1 := by have := HSR.out.lo; have := HSR.out.lt; omega
    clear hsl hmn hfin hrow hzr hxi hz
    go_wp2_with fail
    refine bP (v := .agg #[.int .i64 2, .string r.con, .slice AO q co]) (by simp [results, Tryz.results37, go_sem, k0, k1, k2]) rfl ?_
    exact HFIN.out
 have hpk1 := HPK.out _ HS1.out
 have HPK1 := zH hpk1
 have HAL := zH (HS1.out.alloc hg hgl (.cells (evars.map Value.string).toArray 9))
 clear hpk1
 go_wp2_with fail
 go_at_call 39
 refine HPK1.out.mono ?_
 rintro r w3 ⟨y, hy, rfl, hc3, ho3⟩
 have HY := zH (evars_size y hy)
 have HS3 := zH (HAL.out.call hg hgl hc3 ho3)
 have HV := zH (var_any y w3)
 clear hc3 ho3 hy HPK HPK1 HAL HS1
 go_wp2_with fail
 go_at_call 60
 refine HV.out.mono ?_
 rintro r w4 ⟨rfl, hb4⟩
 have HS4 := zH (HS3.out.below hg hgl hb4)
 obtain ⟨q0, q1, q2, hq⟩ := HS4.out.rbox
 have hql := hq.lt
 have b0 := hq.cell 0 _ rfl
 have b1 := hq.cell 1 _ rfl
 have b2 := hq.cell 2 _ rfl
 have f0 := hq.thaw 0
 have f1 := hq.thaw 1
 have f2 := hq.thaw 2
 clear hb4 HS3 HV hq
 have hy1 := HY.out
 have hp5 := pow5 (d' + 1)
 obtain ⟨hfin, hrow⟩ := HS4.out.fin (d := d' + 1) (e := .mk 1 y []) hg hgl (leaf_is w4 1 y (by omega)) (Mine.nil _ _) (by simp [exSize, exSizes]; omega) (by simp [exTot, exTots]; omega)
 have k0 := hrow.cell 0 _ rfl
 have k1 := hrow.cell 1 _ rfl
 have k2 := hrow.cell 2 _ rfl
 have HFIN := zH hfin
 clear hfin hrow
 go_wp2_with fail
 refine bP (v := .agg #[.int .i64 1, .string y, .slice none 0 0]) (by simp [results, Tryz.results37, go_sem, k0, k1, k2]) rfl ?_
 exact HFIN.out
theorem expr_any : ∀ d : Nat, d ≤ 1000 → OwnE d := by
 intro d
 induction d with
 | zero => intro h; exact expr_step 0 (fun d' e => by omega) h
 | succ d ih => intro h; exact expr_step (d + 1) (fun d' e => by rw [show d' = d by omega]; exact ih (by omega)) h
end Go.Proofs.YtiaknfnhmoinpaaGreat
