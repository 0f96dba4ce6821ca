/- The contracts of the laws' copy of a rule and of a program: new memory of its own. Condition: fewer than 2^40 nodes and strings. -/
import Derived.Test.YtegigjnlecpplaaRuSz
import Derived.Test.YtegigjnlecpplaaCopyStr
import Derived.Test.YtegigjnlecpplaaFrame
namespace Go.Proofs.Ytegigjnlecpplaa
open Go Go.RowKit

def CopySs (xs : List ByteArray) (w : World) (r : Ending) (w' : World) : Prop := ∃ v bs, r = .returned v ∧ SsIs w' v xs bs ∧ Mine w' w.heap.size bs ∧ Below w.heap.size w w'
section
variable {W W2 : World} {B : Nat} {T : TypeId} {x0 x1 x2 x3 x4 x5 x6 : Value}
theorem Box7.keep {S : List Nat} (h : Box7 W B T x0 x1 x2 x3 x4 x5 x6) (hf : Fr S W W2) (hS : B ∉ S) : Box7 W2 B T x0 x1 x2 x3 x4 x5 x6 := (hf.block B h.lt hS).trans h
theorem Box7.far {p : Addr} {v : Value} (h : Box7 W B T x0 x1 x2 x3 x4 x5 x6) (hp : B ≠ p.block) : Box7 (W.setCell p v) B T x0 x1 x2 x3 x4 x5 x6 := (Below.heap_setCell W p v B hp).trans h
theorem Box7.set0 (v : Value) (h : Box7 W B T x0 x1 x2 x3 x4 x5 x6) : Box7 (W.setCell ⟨B, 0, none⟩ v) B T v x1 x2 x3 x4 x5 x6 := by
  unfold Box7 at h ⊢
  simp [World.setCell, Array.getElem?_modify, h]
theorem Box7.set1 (v : Value) (h : Box7 W B T x0 x1 x2 x3 x4 x5 x6) : Box7 (W.setCell ⟨B, 1, none⟩ v) B T x0 v x2 x3 x4 x5 x6 := by
  unfold Box7 at h ⊢
  simp [World.setCell, Array.getElem?_modify, h]
theorem Box7.set2 (v : Value) (h : Box7 W B T x0 x1 x2 x3 x4 x5 x6) : Box7 (W.setCell ⟨B, 2, none⟩ v) B T x0 x1 v x3 x4 x5 x6 := by
  unfold Box7 at h ⊢
  simp [World.setCell, Array.getElem?_modify, h]
theorem Box7.set3 (v : Value) (h : Box7 W B T x0 x1 x2 x3 x4 x5 x6) : Box7 (W.setCell ⟨B, 3, none⟩ v) B T x0 x1 x2 v x4 x5 x6 := by
  unfold Box7 at h ⊢
  simp [World.setCell, Array.getElem?_modify, h]
theorem Box7.set4 (v : Value) (h : Box7 W B T x0 x1 x2 x3 x4 x5 x6) : Box7 (W.setCell ⟨B, 4, none⟩ v) B T x0 x1 x2 x3 v x5 x6 := by
  unfold Box7 at h ⊢
  simp [World.setCell, Array.getElem?_modify, h]
theorem Box7.set5 (v : Value) (h : Box7 W B T x0 x1 x2 x3 x4 x5 x6) : Box7 (W.setCell ⟨B, 5, none⟩ v) B T x0 x1 x2 x3 x4 v x6 := by
  unfold Box7 at h ⊢
  simp [World.setCell, Array.getElem?_modify, h]
theorem Box7.set6 (v : Value) (h : Box7 W B T x0 x1 x2 x3 x4 x5 x6) : Box7 (W.setCell ⟨B, 6, none⟩ v) B T x0 x1 x2 x3 x4 x5 v := by
  unfold Box7 at h ⊢
  simp [World.setCell, Array.getElem?_modify, h]
end
/-- Seven cells are stored. -/
def sev (W : World) (B o : Nat) (x0 x1 x2 x3 x4 x5 x6 : Value) : World :=
  ((((((W.setCell ⟨B, o, none⟩ x0).setCell ⟨B, o + 1, none⟩ x1).setCell ⟨B, o + 2, none⟩ x2).setCell ⟨B, o + 3, none⟩ x3).setCell ⟨B, o + 4, none⟩ x4).setCell ⟨B, o + 5, none⟩ x5).setCell ⟨B, o + 6, none⟩ x6
theorem sev_fr (W : World) (B o : Nat) (x0 x1 x2 x3 x4 x5 x6 : Value) : Fr [B] W (sev W B o x0 x1 x2 x3 x4 x5 x6) := by
  have one : ∀ (V : World) (j : Nat) (v : Value), Fr [B] V (V.setCell ⟨B, j, none⟩ v) := fun V j v => Fr.set (S := [B]) V ⟨B, j, none⟩ v (by simp)
  have more : ∀ {V V2 : World} (j : Nat) (v : Value), Fr [B] V V2 → Fr [B] V (V2.setCell ⟨B, j, none⟩ v) := fun j v h => h.trans (one _ j v) (fun x hx => Or.inl hx)
  exact more _ _ (more _ _ (more _ _ (more _ _ (more _ _ (more _ _ (one W o x0))))))
theorem sev_box {W : World} {B : Nat} {T : TypeId} {y0 y1 y2 y3 y4 y5 y6 : Value} (h : Box7 W B T y0 y1 y2 y3 y4 y5 y6) (x0 x1 x2 x3 x4 x5 x6 : Value) : Box7 (sev W B 0 x0 x1 x2 x3 x4 x5 x6) B T x0 x1 x2 x3 x4 x5 x6 :=
  ((((((h.set0 x0).set1 x1).set2 x2).set3 x3).set4 x4).set5 x5).set6 x6
theorem fr_keeps {S bs : List Nat} {W W2 : World} (h : Fr S W W2) (hd : ∀ x ∈ bs, x ∉ S) : Keeps W W2 bs := ⟨h.size, fun x hx hlt => h.block x hlt (hd x hx)⟩

def CopyRu (r : Ru) (w : World) (e : Ending) (w' : World) : Prop := ∃ v bs, e = .returned v ∧ RuIs w' v r bs ∧ Mine w' w.heap.size bs ∧ Below w.heap.size w w'
def CopyRus (l : List Ru) (w : World) (e : Ending) (w' : World) : Prop := ∃ v bs, e = .returned v ∧ RsIs w' v l bs ∧ Mine w' w.heap.size bs ∧ Below w.heap.size w w'
def CopyPr (l : List Ru) (w : World) (e : Ending) (w' : World) : Prop := ∃ v bs, e = .returned v ∧ PrIs w' v l bs ∧ Mine w' w.heap.size bs ∧ Below w.heap.size w w'

/-- How much there is in a rule. -/
def Small (r : Ru) : Prop := r.vars.length ≤ 8796093022208 ∧ r.params.length ≤ 8796093022208 ∧ exSize r.body ≤ 1099511627776
theorem small_of {r : Ru} (h : ruTot r ≤ 1048576) : Small r := by
  have h1 := (tot_size (exSize r.body)).1 r.body (Nat.le_refl _)
  unfold ruTot ssTot at h
  exact ⟨by omega, by omega, by omega⟩

/-- What lies at the seven cells that were stored, and at the others. -/
theorem sev_cells {W : World} {g o : Nat} {y0 y1 y2 y3 y4 y5 y6 : Value} (h : Cells7 W g o y0 y1 y2 y3 y4 y5 y6) (x0 x1 x2 x3 x4 x5 x6 : Value) : Cells7 (sev W g o x0 x1 x2 x3 x4 x5 x6) g o x0 x1 x2 x3 x4 x5 x6 := by
  unfold sev
  refine ⟨?_, ?_, ?_, ?_, ?_, ?_, ?_⟩
  · rw [set_other _ _ _ _ _ (by omega), set_other _ _ _ _ _ (by omega), set_other _ _ _ _ _ (by omega), set_other _ _ _ _ _ (by omega), set_other _ _ _ _ _ (by omega), set_other _ _ _ _ _ (by omega)]
    exact World.cell?_setCell_same _ _ _ h.c0
  · rw [set_other _ _ _ _ _ (by omega), set_other _ _ _ _ _ (by omega), set_other _ _ _ _ _ (by omega), set_other _ _ _ _ _ (by omega), set_other _ _ _ _ _ (by omega)]
    exact World.cell?_setCell_same _ _ _ (u := y1) (by rw [set_other _ _ _ _ _ (by omega)]; exact h.c1)
  · rw [set_other _ _ _ _ _ (by omega), set_other _ _ _ _ _ (by omega), set_other _ _ _ _ _ (by omega), set_other _ _ _ _ _ (by omega)]
    exact World.cell?_setCell_same _ _ _ (u := y2) (by rw [set_other _ _ _ _ _ (by omega), set_other _ _ _ _ _ (by omega)]; exact h.c2)
  · rw [set_other _ _ _ _ _ (by omega), set_other _ _ _ _ _ (by omega), set_other _ _ _ _ _ (by omega)]
    exact World.cell?_setCell_same _ _ _ (u := y3) (by rw [set_other _ _ _ _ _ (by omega), set_other _ _ _ _ _ (by omega), set_other _ _ _ _ _ (by omega)]; exact h.c3)
  · rw [set_other _ _ _ _ _ (by omega), set_other _ _ _ _ _ (by omega)]
    exact World.cell?_setCell_same _ _ _ (u := y4) (by rw [set_other _ _ _ _ _ (by omega), set_other _ _ _ _ _ (by omega), set_other _ _ _ _ _ (by omega), set_other _ _ _ _ _ (by omega)]; exact h.c4)
  · rw [set_other _ _ _ _ _ (by omega)]
    exact World.cell?_setCell_same _ _ _ (u := y5) (by rw [set_other _ _ _ _ _ (by omega), set_other _ _ _ _ _ (by omega), set_other _ _ _ _ _ (by omega), set_other _ _ _ _ _ (by omega), set_other _ _ _ _ _ (by omega)]; exact h.c5)
  · exact World.cell?_setCell_same _ _ _ (u := y6) (by rw [set_other _ _ _ _ _ (by omega), set_other _ _ _ _ _ (by omega), set_other _ _ _ _ _ (by omega), set_other _ _ _ _ _ (by omega), set_other _ _ _ _ _ (by omega), set_other _ _ _ _ _ (by omega)]; exact h.c6)
theorem sev_other (W : World) (g o : Nat) (x0 x1 x2 x3 x4 x5 x6 : Value) (m : Nat) (h : m < o ∨ o + 7 ≤ m) : (sev W g o x0 x1 x2 x3 x4 x5 x6).cell? ⟨g, m, none⟩ = W.cell? ⟨g, m, none⟩ := by
  unfold sev
  rw [set_other _ _ _ _ _ (by omega), set_other _ _ _ _ _ (by omega), set_other _ _ _ _ _ (by omega), set_other _ _ _ _ _ (by omega), set_other _ _ _ _ _ (by omega), set_other _ _ _ _ _ (by omega), set_other _ _ _ _ _ (by omega)]
theorem sev_row {W : World} {base g o n size : Nat} {T : TypeId} {ys : List Value} (h : W.ownsRow base T size (.slice (some ⟨g, 0, none⟩) n n) n ys) (x0 x1 x2 x3 x4 x5 x6 : Value) : ∃ zs, (sev W g o x0 x1 x2 x3 x4 x5 x6).ownsRow base T size (.slice (some ⟨g, 0, none⟩) n n) n zs := by
  have s0 := (h.stored o x0).1
  have s1 := (s0.stored (o + 1) x1).1
  have s2 := (s1.stored (o + 2) x2).1
  have s3 := (s2.stored (o + 3) x3).1
  have s4 := (s3.stored (o + 4) x4).1
  have s5 := (s4.stored (o + 5) x5).1
  have s6 := (s5.stored (o + 6) x6).1
  exact ⟨_, s6⟩
theorem ru_val {w : World} {v : Value} {r : Ru} {bs : List Nat} (h : RuIs w v r bs) : ∃ A1 n1 c1 A2 n2 c2 A3 n3 c3, v = .agg #[.string r.name, .string r.con, .slice A1 n1 c1, .slice A2 n2 c2, .int .i64 r.body.kind, .string r.body.name, .slice A3 n3 c3] := by
  obtain ⟨v1, v2, u, b1, b2, b3, rfl, -, -, -, h1, h2, h3⟩ := h
  obtain ⟨A1, c1, rfl⟩ := h1.slice
  obtain ⟨A2, c2, rfl⟩ := h2.slice
  obtain ⟨A3, n3, c3, rfl⟩ : ∃ A n c, u = .slice A n c := by
    obtain ⟨u', e3, -, hu⟩ := h3
    obtain ⟨A3, c3, e4, -⟩ := hu
    simp only [Value.agg.injEq, Array.mk.injEq, List.cons.injEq, and_true, true_and] at e3
    rw [e3, e4]; exact ⟨_, _, _, rfl⟩
  exact ⟨_, _, _, _, _, _, _, _, _, rfl⟩

end Go.Proofs.Ytegigjnlecpplaa
