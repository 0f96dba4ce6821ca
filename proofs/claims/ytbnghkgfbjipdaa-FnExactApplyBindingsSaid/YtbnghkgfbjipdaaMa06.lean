/- The contracts of the laws' copy of a rule and of a program: new memory of its own. Condition: fewer than 2^40 nodes and strings. The contracts of the laws' copies of bindings. Condition: fewer than 2^40 nodes each. The contract of the laws' comparison of two equal expressions. Condition: both lie in memory. The contracts of the laws' comparison of equal bindings. No condition. -/
import Derived.Test.YtbnghkgfbjipdaaMa05
import Derived.Test.YtbnghkgfbjipdaaMa03
import Derived.Test.YtbnghkgfbjipdaaMa01
import Derived.WalkSpells
import Derived.WalkLawsBesides
import Derived.Deep.QuietTactic
import Derived.BigQuiet
import Derived.Deep.RegionHeld3
namespace Go.Proofs.Ytbnghkgfbjipdaa
open Go Go.RowKit

def CopySs (xs : List ByteArray) (w : World) (r : Ending) (w' : World) : Prop := ∃ v bs, r = .returned v ∧ SsIs w' v xs bs ∧ Mine w' w.heap.size bs ∧ Below w.heap.size w w'
section
variable {W W2 : World} {B : Nat} {T : TypeId} {x0 x1 x2 x3 x4 x5 x6 : Value}
theorem Box7.keep {S : List Nat} (h : Box7 W B T x0 x1 x2 x3 x4 x5 x6) (hf : Fr S W W2) (hS : B ∉ S) : Box7 W2 B T x0 x1 x2 x3 x4 x5 x6 := (hf.block B h.lt hS).trans h
theorem Box7.far {p : Addr} {v : Value} (h : Box7 W B T x0 x1 x2 x3 x4 x5 x6) (hp : B ≠ p.block) : Box7 (W.setCell p v) B T x0 x1 x2 x3 x4 x5 x6 := (Below.heap_setCell W p v B hp).trans h
theorem Box7.set0 (v : Value) (h : Box7 W B T x0 x1 x2 x3 x4 x5 x6) : Box7 (W.setCell ⟨B, 0, none⟩ v) B T v x1 x2 x3 x4 x5 x6 := by
  unfold Box7 at h ⊢
  simp [World.setCell, Array.getElem?_modify, h]
theorem Box7.set1 (v : Value) (h : Box7 W B T x0 x1 x2 x3 x4 x5 x6) : Box7 (W.setCell ⟨B, 1, none⟩ v) B T x0 v x2 x3 x4 x5 x6 := by
  unfold Box7 at h ⊢
  simp [World.setCell, Array.getElem?_modify, h]
theorem Box7.set2 (v : Value) (h : Box7 W B T x0 x1 x2 x3 x4 x5 x6) : Box7 (W.setCell ⟨B, 2, none⟩ v) B T x0 x1 v x3 x4 x5 x6 := by
  unfold Box7 at h ⊢
  simp [World.setCell, Array.getElem?_modify, h]
theorem Box7.set3 (v : Value) (h : Box7 W B T x0 x1 x2 x3 x4 x5 x6) : Box7 (W.setCell ⟨B, 3, none⟩ v) B T x0 x1 x2 v x4 x5 x6 := by
  unfold Box7 at h ⊢
  simp [World.setCell, Array.getElem?_modify, h]
theorem Box7.set4 (v : Value) (h : Box7 W B T x0 x1 x2 x3 x4 x5 x6) : Box7 (W.setCell ⟨B, 4, none⟩ v) B T x0 x1 x2 x3 v x5 x6 := by
  unfold Box7 at h ⊢
  simp [World.setCell, Array.getElem?_modify, h]
theorem Box7.set5 (v : Value) (h : Box7 W B T x0 x1 x2 x3 x4 x5 x6) : Box7 (W.setCell ⟨B, 5, none⟩ v) B T x0 x1 x2 x3 x4 v x6 := by
  unfold Box7 at h ⊢
  simp [World.setCell, Array.getElem?_modify, h]
theorem Box7.set6 (v : Value) (h : Box7 W B T x0 x1 x2 x3 x4 x5 x6) : Box7 (W.setCell ⟨B, 6, none⟩ v) B T x0 x1 x2 x3 x4 x5 v := by
  unfold Box7 at h ⊢
  simp [World.setCell, Array.getElem?_modify, h]
end
/-- Seven cells are stored. -/
def sev (W : World) (B o : Nat) (x0 x1 x2 x3 x4 x5 x6 : Value) : World :=
  ((((((W.setCell ⟨B, o, none⟩ x0).setCell ⟨B, o + 1, none⟩ x1).setCell ⟨B, o + 2, none⟩ x2).setCell ⟨B, o + 3, none⟩ x3).setCell ⟨B, o + 4, none⟩ x4).setCell ⟨B, o + 5, none⟩ x5).setCell ⟨B, o + 6, none⟩ x6
theorem sev_fr (W : World) (B o : Nat) (x0 x1 x2 x3 x4 x5 x6 : Value) : Fr [B] W (sev W B o x0 x1 x2 x3 x4 x5 x6) := by
  have one : ∀ (V : World) (j : Nat) (v : Value), Fr [B] V (V.setCell ⟨B, j, none⟩ v) := fun V j v => Fr.set (S := [B]) V ⟨B, j, none⟩ v (by simp)
  have more : ∀ {V V2 : World} (j : Nat) (v : Value), Fr [B] V V2 → Fr [B] V (V2.setCell ⟨B, j, none⟩ v) := fun j v h => h.trans (one _ j v) (fun x hx => Or.inl hx)
  exact more _ _ (more _ _ (more _ _ (more _ _ (more _ _ (more _ _ (one W o x0))))))
theorem sev_box {W : World} {B : Nat} {T : TypeId} {y0 y1 y2 y3 y4 y5 y6 : Value} (h : Box7 W B T y0 y1 y2 y3 y4 y5 y6) (x0 x1 x2 x3 x4 x5 x6 : Value) : Box7 (sev W B 0 x0 x1 x2 x3 x4 x5 x6) B T x0 x1 x2 x3 x4 x5 x6 :=
  ((((((h.set0 x0).set1 x1).set2 x2).set3 x3).set4 x4).set5 x5).set6 x6
theorem fr_keeps {S bs : List Nat} {W W2 : World} (h : Fr S W W2) (hd : ∀ x ∈ bs, x ∉ S) : Keeps W W2 bs := ⟨h.size, fun x hx hlt => h.block x hlt (hd x hx)⟩

def CopyRu (r : Ru) (w : World) (e : Ending) (w' : World) : Prop := ∃ v bs, e = .returned v ∧ RuIs w' v r bs ∧ Mine w' w.heap.size bs ∧ Below w.heap.size w w'
def CopyRus (l : List Ru) (w : World) (e : Ending) (w' : World) : Prop := ∃ v bs, e = .returned v ∧ RsIs w' v l bs ∧ Mine w' w.heap.size bs ∧ Below w.heap.size w w'
def CopyPr (l : List Ru) (w : World) (e : Ending) (w' : World) : Prop := ∃ v bs, e = .returned v ∧ PrIs w' v l bs ∧ Mine w' w.heap.size bs ∧ Below w.heap.size w w'

/-- How much there is in a rule. -/
def Small (r : Ru) : Prop := r.vars.length ≤ 8796093022208 ∧ r.params.length ≤ 8796093022208 ∧ exSize r.body ≤ 1099511627776
theorem small_of {r : Ru} (h : ruTot r ≤ 1048576) : Small r := by
  have h1 := (tot_size (exSize r.body)).1 r.body (Nat.le_refl _)
  unfold ruTot ssTot at h
  exact ⟨by omega, by omega, by omega⟩

/-- What lies at the seven cells that were stored, and at the others. -/
theorem sev_cells {W : World} {g o : Nat} {y0 y1 y2 y3 y4 y5 y6 : Value} (h : Cells7 W g o y0 y1 y2 y3 y4 y5 y6) (x0 x1 x2 x3 x4 x5 x6 : Value) : Cells7 (sev W g o x0 x1 x2 x3 x4 x5 x6) g o x0 x1 x2 x3 x4 x5 x6 := by
  unfold sev
  refine ⟨?_, ?_, ?_, ?_, ?_, ?_, ?_⟩
  · rw [set_other _ _ _ _ _ (by omega), set_other _ _ _ _ _ (by omega), set_other _ _ _ _ _ (by omega), set_other _ _ _ _ _ (by omega), set_other _ _ _ _ _ (by omega), set_other _ _ _ _ _ (by omega)]
    exact World.cell?_setCell_same _ _ _ h.c0
  · rw [set_other _ _ _ _ _ (by omega), set_other _ _ _ _ _ (by omega), set_other _ _ _ _ _ (by omega), set_other _ _ _ _ _ (by omega), set_other _ _ _ _ _ (by omega)]
    exact World.cell?_setCell_same _ _ _ (u := y1) (by rw [set_other _ _ _ _ _ (by omega)]; exact h.c1)
  · rw [set_other _ _ _ _ _ (by omega), set_other _ _ _ _ _ (by omega), set_other _ _ _ _ _ (by omega), set_other _ _ _ _ _ (by omega)]
    exact World.cell?_setCell_same _ _ _ (u := y2) (by rw [set_other _ _ _ _ _ (by omega), set_other _ _ _ _ _ (by omega)]; exact h.c2)
  · rw [set_other _ _ _ _ _ (by omega), set_other _ _ _ _ _ (by omega), set_other _ _ _ _ _ (by omega)]
    exact World.cell?_setCell_same _ _ _ (u := y3) (by rw [set_other _ _ _ _ _ (by omega), set_other _ _ _ _ _ (by omega), set_other _ _ _ _ _ (by omega)]; exact h.c3)
  · rw [set_other _ _ _ _ _ (by omega), set_other _ _ _ _ _ (by omega)]
    exact World.cell?_setCell_same _ _ _ (u := y4) (by rw [set_other _ _ _ _ _ (by omega), set_other _ _ _ _ _ (by omega), set_other _ _ _ _ _ (by omega), set_other _ _ _ _ _ (by omega)]; exact h.c4)
  · rw [set_other _ _ _ _ _ (by omega)]
    exact World.cell?_setCell_same _ _ _ (u := y5) (by rw [set_other _ _ _ _ _ (by omega), set_other _ _ _ _ _ (by omega), set_other _ _ _ _ _ (by omega), set_other _ _ _ _ _ (by omega), set_other _ _ _ _ _ (by omega)]; exact h.c5)
  · exact World.cell?_setCell_same _ _ _ (u := y6) (by rw [set_other _ _ _ _ _ (by omega), set_other _ _ _ _ _ (by omega), set_other _ _ _ _ _ (by omega), set_other _ _ _ _ _ (by omega), set_other _ _ _ _ _ (by omega), set_other _ _ _ _ _ (by omega)]; exact h.c6)
theorem sev_other (W : World) (g o : Nat) (x0 x1 x2 x3 x4 x5 x6 : Value) (m : Nat) (h : m < o ∨ o + 7 ≤ m) : (sev W g o x0 x1 x2 x3 x4 x5 x6).cell? ⟨g, m, none⟩ = W.cell? ⟨g, m, none⟩ := by
  unfold sev
  rw [set_other _ _ _ _ _ (by omega), set_other _ _ _ _ _ (by omega), set_other _ _ _ _ _ (by omega), set_other _ _ _ _ _ (by omega), set_other _ _ _ _ _ (by omega), set_other _ _ _ _ _ (by omega), set_other _ _ _ _ _ (by omega)]
theorem sev_row {W : World} {base g o n size : Nat} {T : TypeId} {ys : List Value} (h : W.ownsRow base T size (.slice (some ⟨g, 0, none⟩) n n) n ys) (x0 x1 x2 x3 x4 x5 x6 : Value) : ∃ zs, (sev W g o x0 x1 x2 x3 x4 x5 x6).ownsRow base T size (.slice (some ⟨g, 0, none⟩) n n) n zs := by
  have s0 := (h.stored o x0).1
  have s1 := (s0.stored (o + 1) x1).1
  have s2 := (s1.stored (o + 2) x2).1
  have s3 := (s2.stored (o + 3) x3).1
  have s4 := (s3.stored (o + 4) x4).1
  have s5 := (s4.stored (o + 5) x5).1
  have s6 := (s5.stored (o + 6) x6).1
  exact ⟨_, s6⟩
theorem ru_val {w : World} {v : Value} {r : Ru} {bs : List Nat} (h : RuIs w v r bs) : ∃ A1 n1 c1 A2 n2 c2 A3 n3 c3, v = .agg #[.string r.name, .string r.con, .slice A1 n1 c1, .slice A2 n2 c2, .int .i64 r.body.kind, .string r.body.name, .slice A3 n3 c3] := by
  obtain ⟨v1, v2, u, b1, b2, b3, rfl, -, -, -, h1, h2, h3⟩ := h
  obtain ⟨A1, c1, rfl⟩ := h1.slice
  obtain ⟨A2, c2, rfl⟩ := h2.slice
  obtain ⟨A3, n3, c3, rfl⟩ : ∃ A n c, u = .slice A n c := by
    obtain ⟨u', e3, -, hu⟩ := h3
    obtain ⟨A3, c3, e4, -⟩ := hu
    simp only [Value.agg.injEq, Array.mk.injEq, List.cons.injEq, and_true, true_and] at e3
    rw [e3, e4]; exact ⟨_, _, _, rfl⟩
  exact ⟨_, _, _, _, _, _, _, _, _, rfl⟩

end Go.Proofs.Ytbnghkgfbjipdaa

namespace Go.Proofs.Ytbnghkgfbjipdaa
open Go Go.RowKit

theorem Box4.keep {W W2 : World} {B : Nat} {T : TypeId} {x0 x1 x2 x3 : Value} {S : List Nat} (h : Box4 W B T x0 x1 x2 x3) (hf : Fr S W W2) (hS : B ∉ S) : Box4 W2 B T x0 x1 x2 x3 := (hf.block B h.lt hS).trans h
def CopyBi (r : Bi) (w : World) (e : Ending) (w' : World) : Prop := ∃ v bs, e = .returned v ∧ BiIs w' v r bs ∧ Mine w' w.heap.size bs ∧ Below w.heap.size w w'
def CopyBis (l : List Bi) (w : World) (e : Ending) (w' : World) : Prop := ∃ v bs, e = .returned v ∧ BlIs w' v l bs ∧ Mine w' w.heap.size bs ∧ Below w.heap.size w w'
theorem keepsB {S bs : List Nat} {W W2 : World} (h : Fr S W W2) (hd : ∀ x ∈ bs, x ∉ S) : Keeps W W2 bs := ⟨h.size, fun x hx hlt => h.block x hlt (hd x hx)⟩

/-- The four cells stored. -/
def fou (W : World) (B o : Nat) (x0 x1 x2 x3 : Value) : World := (((W.setCell ⟨B, o, none⟩ x0).setCell ⟨B, o + 1, none⟩ x1).setCell ⟨B, o + 2, none⟩ x2).setCell ⟨B, o + 3, none⟩ x3
theorem fou_fr (W : World) (B o : Nat) (x0 x1 x2 x3 : Value) : Fr [B] W (fou W B o x0 x1 x2 x3) := by
  unfold fou
  exact (((Fr.set _ _ _ (by simp)).trans (Fr.set (S := [B]) _ _ _ (by simp)) (fun x h => Or.inl h)).trans (Fr.set (S := [B]) _ _ _ (by simp)) (fun x h => Or.inl h)).trans (Fr.set (S := [B]) _ _ _ (by simp)) (fun x h => Or.inl h)
theorem fou_box {W : World} {B : Nat} {T : TypeId} {y0 y1 y2 y3 : Value} (h : Box4 W B T y0 y1 y2 y3) (x0 x1 x2 x3 : Value) : Box4 (fou W B 0 x0 x1 x2 x3) B T x0 x1 x2 x3 := by
  unfold Box4 at h ⊢
  simp [fou, World.setCell, Array.getElem?_modify, h]
theorem fou_cells {W : World} {g o : Nat} {y0 y1 y2 y3 : Value} (h : Cells4 W g o y0 y1 y2 y3) (x0 x1 x2 x3 : Value) : Cells4 (fou W g o x0 x1 x2 x3) g o x0 x1 x2 x3 := by
  unfold fou
  refine ⟨?_, ?_, ?_, ?_⟩
  · rw [set_other _ _ _ _ _ (by omega), set_other _ _ _ _ _ (by omega), set_other _ _ _ _ _ (by omega)]
    exact World.cell?_setCell_same _ _ _ h.c0
  · rw [set_other _ _ _ _ _ (by omega), set_other _ _ _ _ _ (by omega)]
    exact World.cell?_setCell_same _ _ _ (u := y1) (by rw [set_other _ _ _ _ _ (by omega)]; exact h.c1)
  · rw [set_other _ _ _ _ _ (by omega)]
    exact World.cell?_setCell_same _ _ _ (u := y2) (by rw [set_other _ _ _ _ _ (by omega), set_other _ _ _ _ _ (by omega)]; exact h.c2)
  · exact World.cell?_setCell_same _ _ _ (u := y3) (by rw [set_other _ _ _ _ _ (by omega), set_other _ _ _ _ _ (by omega), set_other _ _ _ _ _ (by omega)]; exact h.c3)
theorem fou_other (W : World) (g o : Nat) (x0 x1 x2 x3 : Value) (m : Nat) (h : m < o ∨ o + 4 ≤ m) : (fou W g o x0 x1 x2 x3).cell? ⟨g, m, none⟩ = W.cell? ⟨g, m, none⟩ := by
  unfold fou
  rw [set_other _ _ _ _ _ (by omega), set_other _ _ _ _ _ (by omega), set_other _ _ _ _ _ (by omega), set_other _ _ _ _ _ (by omega)]
theorem fou_row {W : World} {base g o n size : Nat} {T : TypeId} {ys : List Value} (h : W.ownsRow base T size (.slice (some ⟨g, 0, none⟩) n n) n ys) (x0 x1 x2 x3 : Value) : ∃ zs, (fou W g o x0 x1 x2 x3).ownsRow base T size (.slice (some ⟨g, 0, none⟩) n n) n zs := by
  have s0 := (h.stored o x0).1
  have s1 := (s0.stored (o + 1) x1).1
  have s2 := (s1.stored (o + 2) x2).1
  have s3 := (s2.stored (o + 3) x3).1
  exact ⟨_, s3⟩

set_option maxRecDepth 100000 in
set_option maxHeartbeats 4000000 in
theorem copy_bind (r : Bi) (v : Value) (bs : List Nat) (w : World) (hv : BiIs w v r bs) (hb : exSize r.val ≤ 1099511627776) :
    Calls Try.prog 84 #[v] w (CopyBi r w) := by
  obtain ⟨u, rfl, hn, h3⟩ := hv
  have H3 := Lib.hid (fun (W : World) (hb2 : Below w.heap.size w W) => copy_expr r.val _ bs W (h3.below hb2) hb)
  have HNC := Lib.hid hn
  obtain ⟨u', e3, -, hu⟩ := h3
  obtain ⟨A3, c3, e4, -⟩ := hu
  simp only [Value.agg.injEq, Array.mk.injEq, List.cons.injEq, and_true, true_and] at e3
  subst e3; subst e4
  clear hb hn
  obtain ⟨N, hN⟩ : ∃ N, N = r.name := ⟨_, rfl⟩
  obtain ⟨K, hK⟩ : ∃ K, K = r.val.kind := ⟨_, rfl⟩
  obtain ⟨S, hS⟩ : ∃ S, S = r.val.name := ⟨_, rfl⟩
  rw [← hK, ← hS] at H3
  rw [← hN, ← hK, ← hS]
  have HEQ := Lib.hid hN
  clear hN hK hS
  obtain ⟨n3, hn3⟩ : ∃ n3, n3 = r.val.args.length := ⟨_, rfl⟩
  rw [← hn3] at H3
  rw [← hn3]
  clear hn3
  go_enter Try.func84, Try.ntmps84
  go_wp2_with fail
  go_at_call 39
  obtain ⟨X0, hX0⟩ : ∃ X0, X0 = ((w.alloc (.cells #[.string N, .int .i64 K, .string S, .slice A3 n3 c3] 112)).alloc (.cells #[.string ⟨#[]⟩, .int .i64 0, .string ⟨#[]⟩, .slice none 0 0] 74)).alloc (.cells #[.string N, .int .i64 0, .string ⟨#[]⟩, .slice none 0 0] 74) := ⟨_, rfl⟩
  rw [← hX0]
  have hR : Box4 X0 (w.heap.size + 1) 74 (.string ⟨#[]⟩) (.int .i64 0) (.string ⟨#[]⟩) (.slice none 0 0) := by
    rw [hX0]
    have h := box4_new (w := w.alloc (.cells #[.string N, .int .i64 K, .string S, .slice A3 n3 c3] 112)) (T := 74) (x0 := .string ⟨#[]⟩) (x1 := .int .i64 0) (x2 := .string ⟨#[]⟩) (x3 := .slice none 0 0) (Below.refl _ _)
    simp only [World.size_alloc] at h
    exact h.keep (Fr.alloc (S := []) _ _) (by simp)
  have hO : Box4 X0 (w.heap.size + 1 + 1) 74 (.string N) (.int .i64 0) (.string ⟨#[]⟩) (.slice none 0 0) := by
    rw [hX0]
    have h := box4_new (w := (w.alloc (.cells #[.string N, .int .i64 K, .string S, .slice A3 n3 c3] 112)).alloc (.cells #[.string ⟨#[]⟩, .int .i64 0, .string ⟨#[]⟩, .slice none 0 0] 74)) (T := 74) (x0 := .string N) (x1 := .int .i64 0) (x2 := .string ⟨#[]⟩) (x3 := .slice none 0 0) (Below.refl _ _)
    simp only [World.size_alloc] at h
    exact h
  have hL0 : Below w.heap.size w X0 := by
    rw [hX0]; exact (((Below.refl w.heap.size w).alloc (Nat.le_refl _) _).alloc (by simp) _).alloc (by simp; omega) _
  have hZ0 : X0.heap.size = w.heap.size + 3 := by rw [hX0]; simp
  refine (H3.out _ hL0).mono ?_
  rintro e x3 ⟨y3, d3, rfl, hs3, hm3, hb3⟩
  obtain ⟨u3, rfl, hsz3, hu3⟩ := id hs3
  obtain ⟨B3, k3, rfl, -⟩ := id hu3
  have HS3 := Lib.hid (And.intro hs3 hm3)
  have HL := Lib.hid (hL0.trans (hb3.mono hL0.size))
  have HZ := Lib.hid (show w.heap.size + 3 ≤ x3.heap.size by have := hb3.size; omega)
  have HZX := Lib.hid hZ0
  have hR3 := hR.keep (Fr.of_below (S := []) hb3) (by simp)
  have hO3 := hO.keep (Fr.of_below (S := []) hb3) (by simp)
  have HR3 := Lib.hid hR3
  obtain ⟨o0, o1, o2, o3⟩ := hO3.cells
  have f0 := hO3.thaw 0
  have f1 := hO3.thaw 1
  have f2 := hO3.thaw 2
  have f3 := hO3.thaw 3
  obtain ⟨r0, r1, r2, r3⟩ := hR3.cells
  have g0 := hR3.thaw 0
  have g1 := hR3.thaw 1
  have g2 := hR3.thaw 2
  have g3 := hR3.thaw 3
  clear hs3 hm3 hb3 hR hO hL0 hZ0 hX0 hR3 hO3 hu3 hsz3
  go_wp2_with fail
  obtain ⟨Y, hY⟩ : ∃ Y, Y = ((x3.setCell ⟨w.heap.size + 1 + 1, 1, none⟩ (.int .i64 r.val.kind)).setCell ⟨w.heap.size + 1 + 1, 2, none⟩ (.string r.val.name)).setCell ⟨w.heap.size + 1 + 1, 3, none⟩ (.slice B3 r.val.args.length k3) := ⟨_, rfl⟩
  have hfY : Fr [w.heap.size + 1 + 1] x3 Y := by
    rw [hY]
    exact ((Fr.set (S := [w.heap.size + 1 + 1]) x3 ⟨w.heap.size + 1 + 1, 1, none⟩ _ (by simp)).trans (Fr.set (S := [w.heap.size + 1 + 1]) _ ⟨w.heap.size + 1 + 1, 2, none⟩ _ (by simp)) (fun x hx => Or.inl hx)).trans (Fr.set (S := [w.heap.size + 1 + 1]) _ ⟨w.heap.size + 1 + 1, 3, none⟩ _ (by simp)) (fun x hx => Or.inl hx)
  have hbY := fou_box (HR3.out.keep hfY (by simp)) (.string N) (.int .i64 r.val.kind) (.string r.val.name) (.slice B3 r.val.args.length k3)
  have hfS := fou_fr Y (w.heap.size + 1) 0 (.string N) (.int .i64 r.val.kind) (.string r.val.name) (.slice B3 r.val.args.length k3)
  have hF4 : Fr [w.heap.size + 1 + 1, w.heap.size + 1] x3 (fou Y (w.heap.size + 1) 0 (.string N) (.int .i64 r.val.kind) (.string r.val.name) (.slice B3 r.val.args.length k3)) :=
    (hfY.mono (T := [w.heap.size + 1 + 1, w.heap.size + 1]) (fun x hx => Or.inl (by simp at hx; simp [hx]))).trans hfS (fun x hx => Or.inl (by simp at hx; simp [hx]))
  rw [← hY]
  obtain ⟨j0, j1, j2, j3⟩ := hbY.cells
  have hlow : Below w.heap.size w (fou Y (w.heap.size + 1) 0 (.string N) (.int .i64 r.val.kind) (.string r.val.name) (.slice B3 r.val.args.length k3)) :=
    HL.out.trans (hF4.below (by simp; omega) (by have := HZ.out; omega))
  generalize hW : fou Y (w.heap.size + 1) 0 (.string N) (.int .i64 r.val.kind) (.string r.val.name) (.slice B3 r.val.args.length k3) = Wf at *
  unfold fou at hW
  simp only [Nat.zero_add] at hW
  rw [hW]
  refine bodyPost_ret (v := .agg #[.string N, .int .i64 r.val.kind, .string r.val.name, .slice B3 r.val.args.length k3]) (by simp [results, Try.results84, go_sem, j0, j1, j2, j3]) rfl ?_
  have hR3 : ∀ x ∈ d3, w.heap.size + 3 ≤ x := fun x hx => by have := (HS3.out.2.range x hx).1; have := HZX.out; omega
  have q3 : Keeps x3 Wf d3 := keepsB hF4 (fun x hx => by have := hR3 x hx; simp; omega)
  exact ⟨_, d3, rfl, ⟨_, by rw [HEQ.out], HNC.out, HS3.out.1.keeps q3⟩, (HS3.out.2.keeps q3).mono (by have := HZX.out; omega), hlow⟩


theorem Try.infoBi : (Try.prog.info? 74).map (fun i => (i.zero, i.size, i.bytes)) = some (some (.agg #[.string ⟨#[]⟩, .int .i64 0, .string ⟨#[]⟩, .slice none 0 0]), 4, 64) := by kernel_rfl

/-- The copies of bindings made so far. -/
structure PartB (w wr : World) (n : Nat) (l : List Bi) (ys : List Value) (bs : List Nat) : Prop where
  row : wr.ownsRow w.heap.size 74 4 (.slice (some ⟨w.heap.size, 0, none⟩) n n) n ys
  pre : BisAt wr w.heap.size 0 0 l bs
  mine : Mine wr (w.heap.size + 1) bs
  low : Below w.heap.size w wr
theorem PartB.lt {w wr : World} {n : Nat} {l : List Bi} {ys : List Value} {bs : List Nat} (h : PartB w wr n l ys bs) : w.heap.size < wr.heap.size := (h.row.lt w.heap.size rfl).2
theorem PartB.below {w wr w2 : World} {n : Nat} {l : List Bi} {ys : List Value} {bs : List Nat} (h : PartB w wr n l ys bs) (hb : Below wr.heap.size wr w2) : PartB w w2 n l ys bs :=
  ⟨h.row.kept (row := none) ⟨hb.os, hb.tape, hb.output, hb.size, fun k hk _ => hb.block k hk⟩ (Or.inr (by simp [Value.ownBlock])), h.pre.keeps h.lt (keeps_below hb _), h.mine.keeps (keeps_below hb _), h.low.trans (hb.mono h.low.size)⟩
theorem PartB.cells {w wr : World} {n : Nat} {l : List Bi} {ys : List Value} {bs : List Nat} (h : PartB w wr n l ys bs) (k : Nat) (hk : k < n) :
    ∃ y0 y1 y2 y3, Cells4 wr w.heap.size (k * 4) y0 y1 y2 y3 := by
  have hl := h.row.1
  have a : ∀ j, j < n * 4 → ∃ y, wr.cell? ⟨w.heap.size, j, none⟩ = some y := fun j hj => ⟨_, (h.row.cellAt j hj).trans (List.getElem?_eq_getElem (by omega))⟩
  obtain ⟨y0, h0⟩ := a (k * 4) (by omega)
  obtain ⟨y1, h1⟩ := a (k * 4 + 1) (by omega)
  obtain ⟨y2, h2⟩ := a (k * 4 + 2) (by omega)
  obtain ⟨y3, h3⟩ := a (k * 4 + 3) (by omega)
  exact ⟨y0, y1, y2, y3, h0, h1, h2, h3⟩
theorem PartB.step {wo w w2 : World} {n : Nat} {l : List Bi} {r : Bi} {ys : List Value} {bs b1 : List Nat} {u : Value} (h : PartB wo w n l ys bs) (hk : l.length < n) (hb : Below w.heap.size w w2)
    (hv : BiIs w2 (.agg #[.string r.name, .int .i64 r.val.kind, .string r.val.name, u]) r b1) (hm : Mine w2 w.heap.size b1) :
    ∃ ys', PartB wo (fou w2 wo.heap.size (l.length * 4) (.string r.name) (.int .i64 r.val.kind) (.string r.val.name) u) n (l ++ [r]) ys' (bs ++ b1) := by
  have hp := h.below hb
  obtain ⟨y0, y1, y2, y3, hc⟩ := hp.cells l.length hk
  have hlt := h.lt
  obtain ⟨zs, hz⟩ := fou_row (o := l.length * 4) hp.row (.string r.name) (.int .i64 r.val.kind) (.string r.val.name) u
  have hf := fou_fr w2 wo.heap.size (l.length * 4) (.string r.name) (.int .i64 r.val.kind) (.string r.val.name) u
  have k1 : Keeps w2 (fou w2 wo.heap.size (l.length * 4) (.string r.name) (.int .i64 r.val.kind) (.string r.val.name) u) bs := fr_keeps hf (fun x hx => by have := (h.mine.range x hx).1; simp; omega)
  have k2 : Keeps w2 (fou w2 wo.heap.size (l.length * 4) (.string r.name) (.int .i64 r.val.kind) (.string r.val.name) u) b1 := fr_keeps hf (fun x hx => by have := (hm.range x hx).1; simp; omega)
  refine ⟨zs, hz, ?_, ?_, ?_⟩
  · refine BisAt.snoc l 0 bs (BisAt.same l 0 bs hp.pre (fun m hm => fou_other _ _ _ _ _ _ _ _ (by omega)) k1) ?_
    rw [show 0 + (0 + l.length) * 4 = l.length * 4 by omega]
    exact ⟨u, fou_cells hc _ _ _ _, hv.keeps k2⟩
  · exact Mine.join (C := w.heap.size) h.mine (Nat.le_refl _) (keeps_on (keeps_below hb bs) k1) (hm.keeps k2) (by omega)
  · exact hp.low.trans (hf.below (by simp) hp.low.size)
theorem partB_start {w w1 : World} {n : Nat} {ys : List Value} (ho : w1.ownsRow w.heap.size 74 4 (.slice (some ⟨w.heap.size, 0, none⟩) n n) n ys) (hb : Below w.heap.size w w1) : PartB w w1 n [] ys [] :=
  ⟨ho, rfl, Mine.nil _ _, hb⟩
theorem PartB.done {w wr : World} {n : Nat} {l : List Bi} {ys : List Value} {bs : List Nat} (h : PartB w wr n l ys bs) (hn : l.length = n) (hm : n ≤ 9223372036854775807) : ∃ bs', BlIs wr (.slice (some ⟨w.heap.size, 0, none⟩) n n) l bs' ∧ Mine wr w.heap.size bs' := by
  refine ⟨w.heap.size :: bs, ⟨_, n, by rw [hn], by omega, hm, Or.inr ⟨w.heap.size, 0, bs, rfl, h.lt, rfl, h.pre⟩⟩, ?_, ?_, ?_⟩
  · rw [List.nodup_cons]
    exact ⟨fun hx => by have := (h.mine.range _ hx).1; omega, h.mine.nodup⟩
  · intro x hx
    rcases List.mem_cons.1 hx with rfl | hx
    · exact ⟨Nat.le_refl _, h.lt⟩
    · have := h.mine.range x hx; omega
  · intro x hx o
    rcases List.mem_cons.1 hx with rfl | hx
    · exact h.row.frozenAt o
    · exact h.mine.free x hx o
theorem bi_val {w : World} {v : Value} {r : Bi} {bs : List Nat} (h : BiIs w v r bs) : ∃ A3 n3 c3, v = .agg #[.string r.name, .int .i64 r.val.kind, .string r.val.name, .slice A3 n3 c3] := by
  obtain ⟨u, rfl, -, h3⟩ := h
  obtain ⟨u', e3, -, hu⟩ := h3
  obtain ⟨A3, c3, e4, -⟩ := hu
  simp only [Value.agg.injEq, Array.mk.injEq, List.cons.injEq, and_true, true_and] at e3
  rw [e3, e4]; exact ⟨_, _, _, rfl⟩

set_option maxRecDepth 100000 in
set_option maxHeartbeats 4000000 in
theorem copy_binds (l : List Bi) (v : Value) (bs : List Nat) (w : World) (hv : BlIs w v l bs) (hb : ∀ r ∈ l, exSize r.val ≤ 1099511627776) (hl : l.length ≤ 1099511627776) :
    Calls Try.prog 40 #[v] w (CopyBis l w) := by
  obtain ⟨i0, hi, hz0, hz1, hz2⟩ := info_parts Try.infoBi
  obtain ⟨A, c, rfl, hc1, hc2, -⟩ := id hv
  have HU := Lib.hid hv
  obtain ⟨m, hm⟩ : ∃ m, m = l.length := ⟨_, rfl⟩
  rw [← hm] at hc1 HU hl ⊢
  have HM := Lib.hid hm
  have HBD := Lib.hid hb
  have HI := Lib.hid (And.intro hi (And.intro hz0 (And.intro hz1 hz2)))
  have C2 := Lib.hid (show i0.bytes * m ≤ 281474976710656 by rw [hz2]; omega)
  have C3 := Lib.hid (show m ≤ maxLen by unfold maxLen; omega)
  clear hm hv hb hi hz0 hz1 hz2
  go_enter Try.func40, Try.ntmps40
  go_wp2_with (at_make; go_loud (refine wpList_make_full _ rfl _ _ 29 rfl w.heap.size 74 i0 (.agg #[.string ⟨#[]⟩, .int .i64 0, .string ⟨#[]⟩, .slice none 0 0]) 4 Try.underlying29 HI.out.1 HI.out.2.1 HI.out.2.2.1 .i64 .i64 _ _ m rfl rfl rfl rfl C2.out C3.out (Nat.le_refl _) ?_); go_loud (intro w1 hown1 hg1))
  have HP := Lib.hid (partB_start hown1 ⟨hg1.os, hg1.tape, hg1.output, hg1.size, fun k hk => hg1.block k hk (by simp)⟩)
  clear hown1 hg1
  go_loopw [4] (fun i wr => ∃ (k : Nat) (ys : List Value) (cs : List Nat), k ≤ m ∧ i = .int .i64 (k : Int) ∧ Hid (PartB w wr m (l.take k) ys cs)) (fun i _ => m - (intOf i).toNat)
  case atStart => exact ⟨0, _, [], Nat.zero_le _, rfl, HP⟩
  case round =>
    obtain ⟨k, ys, cs, hk, rfl, HP⟩ := hrel
    by_cases hlt : k < m
    · obtain ⟨g, o, r, u, b, hA⟩ := (HU.out.below HP.out.low).get k (by rw [← HM.out]; exact hlt)
      obtain rfl := hA.eq
      obtain ⟨c0, c1, c2, c3⟩ := hA.cells
      have HTK := Lib.hid (take_bi l k r hA.get)
      have HLK := Lib.hid (show (l.take k).length = k by rw [List.length_take, ← HM.out]; omega)
      have HCALL := Lib.hid (copy_bind r _ b wr hA.is (HBD.out r hA.mem))
      clear hA
      go_wp2_with (go_at_call 84; refine HCALL.out.mono ?_; rintro e w2 ⟨vv, b2, rfl, hs2, hm2, hb2⟩; obtain ⟨X3, n3, k3, rfl⟩ := bi_val hs2; have hp2 := HP.out.below hb2; obtain ⟨y0, y1, y2, y3, d0, d1, d2, d3⟩ := hp2.cells k hlt; have f0 := hp2.row.frozenAt (k * 4); have f1 := hp2.row.frozenAt (k * 4 + 1); have f2 := hp2.row.frozenAt (k * 4 + 2); have f3 := hp2.row.frozenAt (k * 4 + 3); have HST := Lib.hid (HP.out.step (by rw [HLK.out]; exact hlt) hb2 hs2 hm2); clear hs2 hm2 hb2 hp2)
      obtain ⟨ys', hst⟩ := HST.out
      rw [HLK.out, ← HTK.out] at hst
      unfold fou at hst
      go_roundw
      case rel => exact ⟨k + 1, ys', _, by omega, by go_num, Lib.hid hst⟩
      case measure => simp [intOf]; omega
    · have HE := Lib.hid (show l.take k = l from List.take_of_length_le (by rw [← HM.out]; omega))
      have hp := HP.out
      rw [HE.out] at hp
      have HP2 := Lib.hid hp
      clear hp
      go_wp2_with fail
      go_ret
      obtain ⟨bs', h1, h2⟩ := HP2.out.done HM.out.symm (by omega)
      exact ⟨_, bs', rfl, h1, h2, HP2.out.low⟩

end Go.Proofs.Ytbnghkgfbjipdaa

namespace Go.Proofs.Ytbnghkgfbjipdaa
open Go Go.RowKit

def EqEnd (w : World) (e : Ending) (w' : World) : Prop := e = .returned (.bool true) ∧ Below w.heap.size w w'

set_option maxHeartbeats 1000000 in
theorem eq_ex (n : Nat) (ih : ∀ (l : List Ex) (v v' : Value) (bs bs' : List Nat) (w : World), exSizes l ≤ n → SlIs w v l bs → SlIs w v' l bs' → Calls Try.prog 50 #[v, v'] w (EqEnd w))
    (e : Ex) (v v' : Value) (bs bs' : List Nat) (w : World) (hle : exSize e ≤ n + 1) (hv : ExIs w v e bs) (hv' : ExIs w v' e bs') :
    Calls Try.prog 41 #[v, v'] w (EqEnd w) := by
  obtain ⟨u, rfl, -, hu⟩ := hv
  obtain ⟨u', rfl, -, hu'⟩ := hv'
  have HC := Lib.hid (fun (W : World) (hb : Below w.heap.size w W) => ih e.args u u' bs bs' W (by cases e; rw [exSize] at hle; exact Nat.le_of_succ_le_succ hle) (hu.below hb) (hu'.below hb))
  clear ih hle hu hu'
  generalize e.kind = K at *
  generalize e.name = S at *
  go_enter Try.func41, Try.ntmps41
  go_wp2_with (go_at_call 50; refine (HC.out _ (((Below.refl w.heap.size w).alloc (Nat.le_refl _) _).alloc (by simp) _)).mono ?_; rintro r w1 ⟨rfl, hb1⟩; have HB1 := Lib.hid ((((Below.refl w.heap.size w).alloc (Nat.le_refl _) _).alloc (by simp) _).trans (hb1.mono (by simp; omega))); clear hb1)
  go_ret
  exact ⟨rfl, HB1.out⟩

theorem six_start {wr : World} {g o h p k : Nat} {K : Int} {S : ByteArray} {u u' : Value} (c1 : wr.cell? ⟨g, o + k * 3, none⟩ = some (.int .i64 K)) (c2 : wr.cell? ⟨g, o + k * 3 + 1, none⟩ = some (.string S)) (c3 : wr.cell? ⟨g, o + k * 3 + 2, none⟩ = some u)
    (c4 : wr.cell? ⟨h, p + k * 3, none⟩ = some (.int .i64 K)) (c5 : wr.cell? ⟨h, p + k * 3 + 1, none⟩ = some (.string S)) (c6 : wr.cell? ⟨h, p + k * 3 + 2, none⟩ = some u') :
    wr.drew.cell? ⟨g, o + k * 3, none⟩ = some (.int .i64 K) ∧ wr.drew.cell? ⟨g, o + k * 3 + 1, none⟩ = some (.string S) ∧ wr.drew.cell? ⟨g, o + k * 3 + 2, none⟩ = some u ∧
    wr.drew.cell? ⟨h, p + k * 3, none⟩ = some (.int .i64 K) ∧ wr.drew.cell? ⟨h, p + k * 3 + 1, none⟩ = some (.string S) ∧ wr.drew.cell? ⟨h, p + k * 3 + 2, none⟩ = some u' ∧ Hid (Below wr.heap.size wr wr.drew) :=
  ⟨c1, c2, c3, c4, c5, c6, Lib.hid (Below.refl _ _).drew⟩
theorem six_step {wr X w2 : World} {g o h p k : Nat} {K : Int} {S : ByteArray} {u u' : Value} (hg : g < wr.heap.size) (hh : h < wr.heap.size) (hb : Below X.heap.size X w2)
    (hX : X.cell? ⟨g, o + k * 3, none⟩ = some (.int .i64 K) ∧ X.cell? ⟨g, o + k * 3 + 1, none⟩ = some (.string S) ∧ X.cell? ⟨g, o + k * 3 + 2, none⟩ = some u ∧
      X.cell? ⟨h, p + k * 3, none⟩ = some (.int .i64 K) ∧ X.cell? ⟨h, p + k * 3 + 1, none⟩ = some (.string S) ∧ X.cell? ⟨h, p + k * 3 + 2, none⟩ = some u' ∧ Hid (Below wr.heap.size wr X)) :
    w2.cell? ⟨g, o + k * 3, none⟩ = some (.int .i64 K) ∧ w2.cell? ⟨g, o + k * 3 + 1, none⟩ = some (.string S) ∧ w2.cell? ⟨g, o + k * 3 + 2, none⟩ = some u ∧
    w2.cell? ⟨h, p + k * 3, none⟩ = some (.int .i64 K) ∧ w2.cell? ⟨h, p + k * 3 + 1, none⟩ = some (.string S) ∧ w2.cell? ⟨h, p + k * 3 + 2, none⟩ = some u' ∧ Hid (Below wr.heap.size wr w2) := by
  obtain ⟨c1, c2, c3, c4, c5, c6, HB⟩ := hX
  have hs := HB.out.size
  have a : ∀ m, w2.cell? ⟨g, m, none⟩ = X.cell? ⟨g, m, none⟩ := fun m => hb.cell (p := ⟨g, m, none⟩) (Nat.lt_of_lt_of_le hg hs)
  have b : ∀ m, w2.cell? ⟨h, m, none⟩ = X.cell? ⟨h, m, none⟩ := fun m => hb.cell (p := ⟨h, m, none⟩) (Nat.lt_of_lt_of_le hh hs)
  exact ⟨(a _).trans c1, (a _).trans c2, (a _).trans c3, (b _).trans c4, (b _).trans c5, (b _).trans c6, Lib.hid (HB.out.trans (hb.mono hs))⟩

set_option maxHeartbeats 2000000 in
theorem eq_exs (n : Nat) (ih : ∀ (e : Ex) (v v' : Value) (bs bs' : List Nat) (w : World), exSize e ≤ n → ExIs w v e bs → ExIs w v' e bs' → Calls Try.prog 41 #[v, v'] w (EqEnd w))
    (l : List Ex) (v v' : Value) (bs bs' : List Nat) (w : World) (hle : exSizes l ≤ n) (hv : SlIs w v l bs) (hv' : SlIs w v' l bs') :
    Calls Try.prog 50 #[v, v'] w (EqEnd w) := by
  obtain ⟨A, c, rfl, hc1, hc2, -⟩ := id hv
  obtain ⟨A', c', rfl, hc1', hc2', -⟩ := id hv'
  have HU := Lib.hid hv
  have HV := Lib.hid hv'
  obtain ⟨m, hm⟩ : ∃ m, m = l.length := ⟨_, rfl⟩
  rw [← hm] at hc1 hc1' HU HV ⊢
  have HM := Lib.hid hm
  have HIH := Lib.hid ih
  have HN := Lib.hid hle
  clear hm hv hv' ih hle
  go_enter Try.func50, Try.ntmps50
  go_wp2_with fail
  go_loopw [5] (fun i wr => ∃ (k : Nat), k ≤ m ∧ i = .int .i64 (k : Int) ∧ Hid (Below w.heap.size w wr)) (fun i _ => m - (intOf i).toNat)
  case atStart => exact ⟨0, Nat.zero_le _, rfl, Lib.hid (Below.refl _ _)⟩
  case round =>
    obtain ⟨k, hk, rfl, HB⟩ := hrel
    by_cases hlt : k < m
    · obtain ⟨g, o, e1, u, b1, rfl, hbl, hget, hmem, c1, c2, c3, his, -⟩ := (HU.out.below HB.out).get k (by rw [← HM.out]; exact hlt)
      obtain ⟨h, p, e2, u', b2, rfl, hbl', hget', -, c4, c5, c6, his', -⟩ := (HV.out.below HB.out).get k (by rw [← HM.out]; exact hlt)
      obtain rfl : e1 = e2 := Option.some.inj (hget.symm.trans hget')
      have HCALL := Lib.hid (fun (W : World) (hb : Hid (Below wr.heap.size wr W)) => HIH.out e1 _ _ b1 b2 W (by have := exSizes_mem hmem; have := HN.out; omega) (his.below hb.out) (his'.below hb.out))
      clear his his' hget hget' hmem
      have hk0 : 0 ≤ (k : Int) := by omega
      have hkm : (k : Int) < (m : Int) := by omega
      generalize e1.kind = K at *
      generalize e1.name = S at *
      have HDR := Lib.hid (Below.drew (Below.refl wr.heap.size wr))
      go_wp2_with fail
      go_region_held3 (fun w' => w'.cell? ⟨g, o + k * 3, none⟩ = some (.int .i64 K) ∧ w'.cell? ⟨g, o + k * 3 + 1, none⟩ = some (.string S) ∧ w'.cell? ⟨g, o + k * 3 + 2, none⟩ = some u ∧
          w'.cell? ⟨h, p + k * 3, none⟩ = some (.int .i64 K) ∧ w'.cell? ⟨h, p + k * 3 + 1, none⟩ = some (.string S) ∧ w'.cell? ⟨h, p + k * 3 + 2, none⟩ = some u' ∧ Hid (Below wr.heap.size wr w'))
        (first | exact six_start c1 c2 c3 c4 c5 c6 | exact six_step hbl hbl' hb2 (by assumption))
        (first | (go_at_call 41; refine (HCALL.out _ (by assumption)).mono ?_; rintro e w2 ⟨rfl, hb2⟩))
      all_goals
        have hx := ‹_ ∧ _ ∧ _ ∧ _ ∧ _ ∧ _ ∧ Hid (Below wr.heap.size wr w2)›
        have HX := Lib.hid (HB.out.trans (hx.2.2.2.2.2.2.out.mono HB.out.size))
        clear hx
        go_wp2_with fail
        go_roundw
        case rel => exact ⟨k + 1, by omega, by go_num, HX⟩
        case measure => simp [intOf]; omega
    · go_wp2_with fail
      go_ret
      exact ⟨rfl, HB.out⟩

theorem eq_both (n : Nat) : (∀ (e : Ex) (v v' : Value) (bs bs' : List Nat) (w : World), exSize e ≤ n → ExIs w v e bs → ExIs w v' e bs' → Calls Try.prog 41 #[v, v'] w (EqEnd w)) ∧
    (∀ (l : List Ex) (v v' : Value) (bs bs' : List Nat) (w : World), exSizes l ≤ n → SlIs w v l bs → SlIs w v' l bs' → Calls Try.prog 50 #[v, v'] w (EqEnd w)) := by
  induction n with
  | zero =>
    have hE : ∀ (e : Ex) (v v' : Value) (bs bs' : List Nat) (w : World), exSize e ≤ 0 → ExIs w v e bs → ExIs w v' e bs' → Calls Try.prog 41 #[v, v'] w (EqEnd w) := fun e v v' bs bs' w h => by have := exSize_pos e; omega
    exact ⟨hE, fun l v v' bs bs' w h1 h2 h3 => eq_exs 0 hE l v v' bs bs' w h1 h2 h3⟩
  | succ n ih =>
    have hE : ∀ (e : Ex) (v v' : Value) (bs bs' : List Nat) (w : World), exSize e ≤ n + 1 → ExIs w v e bs → ExIs w v' e bs' → Calls Try.prog 41 #[v, v'] w (EqEnd w) := fun e v v' bs bs' w h1 h2 h3 => eq_ex n ih.2 e v v' bs bs' w h1 h2 h3
    exact ⟨hE, fun l v v' bs bs' w h1 h2 h3 => eq_exs (n + 1) hE l v v' bs bs' w h1 h2 h3⟩
/-- The laws' comparison of two equal expressions. -/
theorem eq_expr (e : Ex) (v v' : Value) (bs bs' : List Nat) (w : World) (h : ExIs w v e bs) (h' : ExIs w v' e bs') : Calls Try.prog 41 #[v, v'] w (EqEnd w) :=
  (eq_both (exSize e)).1 e v v' bs bs' w (Nat.le_refl _) h h'
end Go.Proofs.Ytbnghkgfbjipdaa

namespace Go.Proofs.Ytbnghkgfbjipdaa
open Go Go.RowKit

set_option maxRecDepth 100000 in
set_option maxHeartbeats 4000000 in
theorem eq_bind (r : Bi) (v v' : Value) (bs bs' : List Nat) (w : World) (hv : BiIs w v r bs) (hv' : BiIs w v' r bs') :
    Calls Try.prog 85 #[v, v'] w (EqEnd w) := by
  obtain ⟨u, rfl, -, h3⟩ := hv
  obtain ⟨y, rfl, -, g3⟩ := hv'
  have H3 := Lib.hid (fun (W : World) (hb : Below w.heap.size w W) => eq_expr r.val _ _ bs bs' W (h3.below hb) (g3.below hb))
  clear h3 g3
  generalize r.name = N at *
  generalize r.val.kind = K at *
  generalize r.val.name = S at *
  have HB0 := Lib.hid (((Below.refl w.heap.size w).alloc (Nat.le_refl _) (.cells #[.string N, .int .i64 K, .string S, u] 74)).alloc (by simp) (.cells #[.string N, .int .i64 K, .string S, y] 74))
  go_enter Try.func85, Try.ntmps85
  go_wp2_with fail
  go_at_call 41
  refine (H3.out _ HB0.out).mono ?_
  rintro e x3 ⟨rfl, hb3⟩
  have HL3 := Lib.hid (HB0.out.trans (hb3.mono HB0.out.size))
  clear hb3
  go_wp2_with fail
  go_ret
  exact ⟨rfl, HL3.out⟩

theorem two4_start {wr : World} {g o h p k : Nat} {x0 x1 x2 x3 y0 y1 y2 y3 : Value} (c : Cells4 wr g (o + k * 4) x0 x1 x2 x3) (d : Cells4 wr h (p + k * 4) y0 y1 y2 y3) : wr.drew.cell? ⟨g, o + k * 4, none⟩ = some (x0) ∧ wr.drew.cell? ⟨g, o + k * 4 + 1, none⟩ = some (x1) ∧ wr.drew.cell? ⟨g, o + k * 4 + 2, none⟩ = some (x2) ∧ wr.drew.cell? ⟨g, o + k * 4 + 3, none⟩ = some (x3) ∧ wr.drew.cell? ⟨h, p + k * 4, none⟩ = some (y0) ∧ wr.drew.cell? ⟨h, p + k * 4 + 1, none⟩ = some (y1) ∧ wr.drew.cell? ⟨h, p + k * 4 + 2, none⟩ = some (y2) ∧ wr.drew.cell? ⟨h, p + k * 4 + 3, none⟩ = some (y3) ∧ Hid (Below wr.heap.size wr wr.drew) :=
  ⟨c.c0, c.c1, c.c2, c.c3, d.c0, d.c1, d.c2, d.c3, Lib.hid (Below.refl _ _).drew⟩
theorem two4_step {wr X w2 : World} {g o h p k : Nat} {x0 x1 x2 x3 y0 y1 y2 y3 : Value} (hg : g < wr.heap.size) (hh : h < wr.heap.size) (hb : Below X.heap.size X w2) (hX : X.cell? ⟨g, o + k * 4, none⟩ = some (x0) ∧ X.cell? ⟨g, o + k * 4 + 1, none⟩ = some (x1) ∧ X.cell? ⟨g, o + k * 4 + 2, none⟩ = some (x2) ∧ X.cell? ⟨g, o + k * 4 + 3, none⟩ = some (x3) ∧ X.cell? ⟨h, p + k * 4, none⟩ = some (y0) ∧ X.cell? ⟨h, p + k * 4 + 1, none⟩ = some (y1) ∧ X.cell? ⟨h, p + k * 4 + 2, none⟩ = some (y2) ∧ X.cell? ⟨h, p + k * 4 + 3, none⟩ = some (y3) ∧ Hid (Below wr.heap.size wr X)) : w2.cell? ⟨g, o + k * 4, none⟩ = some (x0) ∧ w2.cell? ⟨g, o + k * 4 + 1, none⟩ = some (x1) ∧ w2.cell? ⟨g, o + k * 4 + 2, none⟩ = some (x2) ∧ w2.cell? ⟨g, o + k * 4 + 3, none⟩ = some (x3) ∧ w2.cell? ⟨h, p + k * 4, none⟩ = some (y0) ∧ w2.cell? ⟨h, p + k * 4 + 1, none⟩ = some (y1) ∧ w2.cell? ⟨h, p + k * 4 + 2, none⟩ = some (y2) ∧ w2.cell? ⟨h, p + k * 4 + 3, none⟩ = some (y3) ∧ Hid (Below wr.heap.size wr w2) := by
  obtain ⟨c0, c1, c2, c3, d0, d1, d2, d3, HB⟩ := hX
  have hs := HB.out.size
  have a : ∀ m, w2.cell? ⟨g, m, none⟩ = X.cell? ⟨g, m, none⟩ := fun m => hb.cell (p := ⟨g, m, none⟩) (Nat.lt_of_lt_of_le hg hs)
  have b : ∀ m, w2.cell? ⟨h, m, none⟩ = X.cell? ⟨h, m, none⟩ := fun m => hb.cell (p := ⟨h, m, none⟩) (Nat.lt_of_lt_of_le hh hs)
  exact ⟨(a _).trans c0, (a _).trans c1, (a _).trans c2, (a _).trans c3, (b _).trans d0, (b _).trans d1, (b _).trans d2, (b _).trans d3, Lib.hid (HB.out.trans (hb.mono hs))⟩

set_option maxRecDepth 100000 in
set_option maxHeartbeats 8000000 in
theorem eq_binds (l : List Bi) (v v' : Value) (bs bs' : List Nat) (w : World) (hv : BlIs w v l bs) (hv' : BlIs w v' l bs') :
    Calls Try.prog 42 #[v, v'] w (EqEnd w) := by
  obtain ⟨A, c, rfl, hc1, hc2, -⟩ := id hv
  obtain ⟨A', c', rfl, hc1', hc2', -⟩ := id hv'
  have HU := Lib.hid hv
  have HV := Lib.hid hv'
  obtain ⟨m, hm⟩ : ∃ m, m = l.length := ⟨_, rfl⟩
  rw [← hm] at hc1 hc1' HU HV ⊢
  have HM := Lib.hid hm
  clear hm hv hv'
  go_enter Try.func42, Try.ntmps42
  go_wp2_with fail
  go_loopw [5] (fun i wr => ∃ (k : Nat), k ≤ m ∧ i = .int .i64 (k : Int) ∧ Hid (Below w.heap.size w wr)) (fun i _ => m - (intOf i).toNat)
  case atStart => exact ⟨0, Nat.zero_le _, rfl, Lib.hid (Below.refl _ _)⟩
  case round =>
    obtain ⟨k, hk, rfl, HB⟩ := hrel
    by_cases hlt : k < m
    · obtain ⟨g, o, r, u, b1, hA⟩ := (HU.out.below HB.out).get k (by rw [← HM.out]; exact hlt)
      obtain ⟨h, p, r2, y, b2, hA2⟩ := (HV.out.below HB.out).get k (by rw [← HM.out]; exact hlt)
      obtain rfl := hA.eq
      obtain rfl := hA2.eq
      obtain rfl : r = r2 := Option.some.inj (hA.get.symm.trans hA2.get)
      have HCALL := Lib.hid (fun (W : World) (hb : Hid (Below wr.heap.size wr W)) => eq_bind r _ _ b1 b2 W (hA.is.below hb.out) (hA2.is.below hb.out))
      have HC1 := Lib.hid hA.cells
      have HC2 := Lib.hid hA2.cells
      have hbl := hA.lt
      have hbl' := hA2.lt
      clear hA hA2
      have hk0 : 0 ≤ (k : Int) := by omega
      have hkm : (k : Int) < (m : Int) := by omega
      generalize r.name = N at *
      generalize r.val.kind = K at *
      generalize r.val.name = S at *
      have HDR := Lib.hid (Below.drew (Below.refl wr.heap.size wr))
      go_wp2_with fail
      go_region_held3 (fun W => W.cell? ⟨g, o + k * 4, none⟩ = some (.string N) ∧ W.cell? ⟨g, o + k * 4 + 1, none⟩ = some (.int .i64 K) ∧ W.cell? ⟨g, o + k * 4 + 2, none⟩ = some (.string S) ∧ W.cell? ⟨g, o + k * 4 + 3, none⟩ = some (u) ∧ W.cell? ⟨h, p + k * 4, none⟩ = some (.string N) ∧ W.cell? ⟨h, p + k * 4 + 1, none⟩ = some (.int .i64 K) ∧ W.cell? ⟨h, p + k * 4 + 2, none⟩ = some (.string S) ∧ W.cell? ⟨h, p + k * 4 + 3, none⟩ = some (y) ∧ Hid (Below wr.heap.size wr W))
        (first | exact two4_start HC1.out HC2.out | exact two4_step hbl hbl' hb2 (by assumption))
        (first | (go_at_call 85; refine (HCALL.out _ (‹_ ∧ _ ∧ _ ∧ _ ∧ _ ∧ _ ∧ _ ∧ _ ∧ Hid (Below wr.heap.size wr _)›).2.2.2.2.2.2.2.2).mono ?_; rintro e w2 ⟨rfl, hb2⟩))
      all_goals
        have hx := ‹_ ∧ _ ∧ _ ∧ _ ∧ _ ∧ _ ∧ _ ∧ _ ∧ Hid (Below wr.heap.size wr w2)›
        have HX := Lib.hid (HB.out.trans (hx.2.2.2.2.2.2.2.2.out.mono HB.out.size))
        clear hx
        go_wp2_with fail
        go_roundw
        case rel => exact ⟨k + 1, by omega, by go_num, HX⟩
        case measure => simp [intOf]; omega
    · go_wp2_with fail
      go_ret
      exact ⟨rfl, HB.out⟩

end Go.Proofs.Ytbnghkgfbjipdaa
