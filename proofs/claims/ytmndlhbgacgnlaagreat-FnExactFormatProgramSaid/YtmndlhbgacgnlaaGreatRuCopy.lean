/- The contracts of the laws' copy of a rule and of a program: new memory of its own. Condition: fewer than 2^40 nodes and strings. -/
import Derived.Test.YtmndlhbgacgnlaaGreatRuSz
import Derived.Test.YtmndlhbgacgnlaaGreatCopyStr
import Derived.Test.YtmndlhbgacgnlaaGreatFrame
namespace Go.Proofs.YtmndlhbgacgnlaaGreat
open Go Go.RowKit

def CopySs (xs : List ByteArray) (w : World) (r : Ending) (w' : World) : Prop := ∃ v bs, r = .returned v ∧ SsIs w' v xs bs ∧ Mine w' w.heap.size bs ∧ Below w.heap.size w w'
theorem copy_strs (xs : List ByteArray) (v : Value) (bs : List Nat) (w : World) (hv : SsIs w v xs bs) (hn : xs.length ≤ 8796093022208) : Calls Tryz.prog 110 #[v] w (CopySs xs w) := by
  obtain ⟨A, c, rfl⟩ := hv.slice
  obtain ⟨-, hc1, hc2, hs, hx⟩ := hv.strs
  refine (copy_any A xs c w hs hn).mono ?_
  rintro e w' ⟨g, rfl, ho, hb⟩
  have hl := ho.lt g rfl
  refine ⟨_, [g], rfl, ⟨_, _, rfl, Nat.le_refl _, by omega, hx, Or.inr ⟨g, 0, rfl, hl.2, rfl, fun i x hx => ?_⟩⟩, ⟨by simp, fun x hx => ?_, fun x hx o => ?_⟩, hb⟩
  · have := ho.cells (g := g) rfl i (.string x) (by rw [List.getElem?_map, hx]; rfl)
    rw [add_litRu] at this
    exact this
  · rw [List.mem_singleton] at hx; subst hx; exact hl
  · rw [List.mem_singleton] at hx; subst hx; exact ho.frozenAt o

section
variable {W W2 : World} {B : Nat} {T : TypeId} {x0 x1 x2 x3 x4 x5 x6 : Value}
theorem Box7.keep {S : List Nat} (h : Box7 W B T x0 x1 x2 x3 x4 x5 x6) (hf : Fr S W W2) (hS : B ∉ S) : Box7 W2 B T x0 x1 x2 x3 x4 x5 x6 := (hf.block B h.lt hS).trans h
theorem Box7.far {p : Addr} {v : Value} (h : Box7 W B T x0 x1 x2 x3 x4 x5 x6) (hp : B ≠ p.block) : Box7 (W.setCell p v) B T x0 x1 x2 x3 x4 x5 x6 := (Below.heap_setCell W p v B hp).trans h
theorem Box7.set0 (v : Value) (h : Box7 W B T x0 x1 x2 x3 x4 x5 x6) : Box7 (W.setCell ⟨B, 0, none⟩ v) B T v x1 x2 x3 x4 x5 x6 := by
  unfold Box7 at h ⊢
  simp [World.setCell, Array.getElem?_modify, h]
theorem Box7.set1 (v : Value) (h : Box7 W B T x0 x1 x2 x3 x4 x5 x6) : Box7 (W.setCell ⟨B, 1, none⟩ v) B T x0 v x2 x3 x4 x5 x6 := by
  unfold Box7 at h ⊢
  simp [World.setCell, Array.getElem?_modify, h]
theorem Box7.set2 (v : Value) (h : Box7 W B T x0 x1 x2 x3 x4 x5 x6) : Box7 (W.setCell ⟨B, 2, none⟩ v) B T x0 x1 v x3 x4 x5 x6 := by
  unfold Box7 at h ⊢
  simp [World.setCell, Array.getElem?_modify, h]
theorem Box7.set3 (v : Value) (h : Box7 W B T x0 x1 x2 x3 x4 x5 x6) : Box7 (W.setCell ⟨B, 3, none⟩ v) B T x0 x1 x2 v x4 x5 x6 := by
  unfold Box7 at h ⊢
  simp [World.setCell, Array.getElem?_modify, h]
theorem Box7.set4 (v : Value) (h : Box7 W B T x0 x1 x2 x3 x4 x5 x6) : Box7 (W.setCell ⟨B, 4, none⟩ v) B T x0 x1 x2 x3 v x5 x6 := by
  unfold Box7 at h ⊢
  simp [World.setCell, Array.getElem?_modify, h]
theorem Box7.set5 (v : Value) (h : Box7 W B T x0 x1 x2 x3 x4 x5 x6) : Box7 (W.setCell ⟨B, 5, none⟩ v) B T x0 x1 x2 x3 x4 v x6 := by
  unfold Box7 at h ⊢
  simp [World.setCell, Array.getElem?_modify, h]
theorem Box7.set6 (v : Value) (h : Box7 W B T x0 x1 x2 x3 x4 x5 x6) : Box7 (W.setCell ⟨B, 6, none⟩ v) B T x0 x1 x2 x3 x4 x5 v := by
  unfold Box7 at h ⊢
  simp [World.setCell, Array.getElem?_modify, h]
end
/-- Seven cells are stored. -/
def sev (W : World) (B o : Nat) (x0 x1 x2 x3 x4 x5 x6 : Value) : World :=
  ((((((W.setCell ⟨B, o, none⟩ x0).setCell ⟨B, o + 1, none⟩ x1).setCell ⟨B, o + 2, none⟩ x2).setCell ⟨B, o + 3, none⟩ x3).setCell ⟨B, o + 4, none⟩ x4).setCell ⟨B, o + 5, none⟩ x5).setCell ⟨B, o + 6, none⟩ x6
theorem sev_fr (W : World) (B o : Nat) (x0 x1 x2 x3 x4 x5 x6 : Value) : Fr [B] W (sev W B o x0 x1 x2 x3 x4 x5 x6) := by
  have one : ∀ (V : World) (j : Nat) (v : Value), Fr [B] V (V.setCell ⟨B, j, none⟩ v) := fun V j v => Fr.set (S := [B]) V ⟨B, j, none⟩ v (by simp)
  have more : ∀ {V V2 : World} (j : Nat) (v : Value), Fr [B] V V2 → Fr [B] V (V2.setCell ⟨B, j, none⟩ v) := fun j v h => h.trans (one _ j v) (fun x hx => Or.inl hx)
  exact more _ _ (more _ _ (more _ _ (more _ _ (more _ _ (more _ _ (one W o x0))))))
theorem sev_box {W : World} {B : Nat} {T : TypeId} {y0 y1 y2 y3 y4 y5 y6 : Value} (h : Box7 W B T y0 y1 y2 y3 y4 y5 y6) (x0 x1 x2 x3 x4 x5 x6 : Value) : Box7 (sev W B 0 x0 x1 x2 x3 x4 x5 x6) B T x0 x1 x2 x3 x4 x5 x6 :=
  ((((((h.set0 x0).set1 x1).set2 x2).set3 x3).set4 x4).set5 x5).set6 x6
theorem fr_keeps {S bs : List Nat} {W W2 : World} (h : Fr S W W2) (hd : ∀ x ∈ bs, x ∉ S) : Keeps W W2 bs := ⟨h.size, fun x hx hlt => h.block x hlt (hd x hx)⟩

def CopyRu (r : Ru) (w : World) (e : Ending) (w' : World) : Prop := ∃ v bs, e = .returned v ∧ RuIs w' v r bs ∧ Mine w' w.heap.size bs ∧ Below w.heap.size w w'
def CopyRus (l : List Ru) (w : World) (e : Ending) (w' : World) : Prop := ∃ v bs, e = .returned v ∧ RsIs w' v l bs ∧ Mine w' w.heap.size bs ∧ Below w.heap.size w w'
def CopyPr (l : List Ru) (w : World) (e : Ending) (w' : World) : Prop := ∃ v bs, e = .returned v ∧ PrIs w' v l bs ∧ Mine w' w.heap.size bs ∧ Below w.heap.size w w'

/-- How much there is in a rule. -/
def Small (r : Ru) : Prop := r.vars.length ≤ 8796093022208 ∧ r.params.length ≤ 8796093022208 ∧ exSize r.body ≤ 1099511627776
theorem small_of {r : Ru} (h : ruTot r ≤ 1048576) : Small r := by
  have h1 := (tot_size (exSize r.body)).1 r.body (Nat.le_refl _)
  unfold ruTot ssTot at h
  exact ⟨by omega, by omega, by omega⟩

set_option maxRecDepth 100000 in
set_option maxHeartbeats 4000000 in
theorem copy_rule (r : Ru) (v : Value) (bs : List Nat) (w : World) (hv : RuIs w v r bs) (hb : Small r) :
    Calls Tryz.prog 80 #[v] w (CopyRu r w) := by
  obtain ⟨v1, v2, u, b1, b2, b3, rfl, hn, hc, -, h1, h2, h3⟩ := hv
  have H1 := Lib.hid (fun (W : World) (hb2 : Below w.heap.size w W) => copy_strs r.vars v1 b1 W (h1.below hb2) hb.1)
  have H2 := Lib.hid (fun (W : World) (hb2 : Below w.heap.size w W) => copy_strs r.params v2 b2 W (h2.below hb2) hb.2.1)
  have H3 := Lib.hid (fun (W : World) (hb2 : Below w.heap.size w W) => copy_expr r.body _ b3 W (h3.below hb2) hb.2.2)
  have HNC := Lib.hid (And.intro hn hc)
  obtain ⟨A1, c1, rfl⟩ := h1.slice
  obtain ⟨A2, c2, rfl⟩ := h2.slice
  obtain ⟨u', e3, -, hu⟩ := h3
  obtain ⟨A3, c3, e4, -⟩ := hu
  simp only [Value.agg.injEq, Array.mk.injEq, List.cons.injEq, and_true, true_and] at e3
  subst e3; subst e4
  clear h1 h2 hb hn hc
  obtain ⟨N, hN⟩ : ∃ N, N = r.name := ⟨_, rfl⟩
  obtain ⟨C, hC⟩ : ∃ C, C = r.con := ⟨_, rfl⟩
  obtain ⟨K, hK⟩ : ∃ K, K = r.body.kind := ⟨_, rfl⟩
  obtain ⟨S, hS⟩ : ∃ S, S = r.body.name := ⟨_, rfl⟩
  rw [← hK, ← hS] at H3
  rw [← hN, ← hC, ← hK, ← hS]
  have HEQ := Lib.hid (And.intro hN (And.intro hC (And.intro hK hS)))
  clear hN hC hK hS
  obtain ⟨n1, hn1⟩ : ∃ n1, n1 = r.vars.length := ⟨_, rfl⟩
  obtain ⟨n2, hn2⟩ : ∃ n2, n2 = r.params.length := ⟨_, rfl⟩
  obtain ⟨n3, hn3⟩ : ∃ n3, n3 = r.body.args.length := ⟨_, rfl⟩
  rw [← hn3] at H3
  rw [← hn2] at H2
  rw [← hn1] at H1
  rw [← hn1, ← hn2, ← hn3]
  have HLN := Lib.hid (And.intro hn1 (And.intro hn2 hn3))
  clear hn1 hn2 hn3
  -- the world at the start
  obtain ⟨X0, hX0⟩ : ∃ X0, X0 = ((w.alloc (.cells #[.string N, .string C, .slice A1 n1 c1, .slice A2 n2 c2, .int .i64 K, .string S, .slice A3 n3 c3] 120)).alloc (.cells #[.string ⟨#[]⟩, .string ⟨#[]⟩, .slice none 0 0, .slice none 0 0, .int .i64 0, .string ⟨#[]⟩, .slice none 0 0] 34)).alloc (.cells #[.string N, .string C, .slice none 0 0, .slice none 0 0, .int .i64 0, .string ⟨#[]⟩, .slice none 0 0] 34) := ⟨_, rfl⟩
  have hA : Box7 X0 w.heap.size 120 (.string N) (.string C) (.slice A1 n1 c1) (.slice A2 n2 c2) (.int .i64 K) (.string S) (.slice A3 n3 c3) := by
    rw [hX0]; exact ((box7_new (w := w) (Below.refl _ _)).keep (Fr.alloc (S := []) _ _) (by simp)).keep (Fr.alloc (S := []) _ _) (by simp)
  have hR : Box7 X0 (w.heap.size + 1) 34 (.string ⟨#[]⟩) (.string ⟨#[]⟩) (.slice none 0 0) (.slice none 0 0) (.int .i64 0) (.string ⟨#[]⟩) (.slice none 0 0) := by
    rw [hX0]
    have h := box7_new (w := w.alloc (.cells #[.string N, .string C, .slice A1 n1 c1, .slice A2 n2 c2, .int .i64 K, .string S, .slice A3 n3 c3] 120)) (T := 34) (x0 := .string ⟨#[]⟩) (x1 := .string ⟨#[]⟩) (x2 := .slice none 0 0) (x3 := .slice none 0 0) (x4 := .int .i64 0) (x5 := .string ⟨#[]⟩) (x6 := .slice none 0 0) (Below.refl _ _)
    simp only [World.size_alloc] at h
    exact h.keep (Fr.alloc (S := []) _ _) (by simp)
  have hO : Box7 X0 (w.heap.size + 1 + 1) 34 (.string N) (.string C) (.slice none 0 0) (.slice none 0 0) (.int .i64 0) (.string ⟨#[]⟩) (.slice none 0 0) := by
    rw [hX0]
    have h := box7_new (w := (w.alloc (.cells #[.string N, .string C, .slice A1 n1 c1, .slice A2 n2 c2, .int .i64 K, .string S, .slice A3 n3 c3] 120)).alloc (.cells #[.string ⟨#[]⟩, .string ⟨#[]⟩, .slice none 0 0, .slice none 0 0, .int .i64 0, .string ⟨#[]⟩, .slice none 0 0] 34)) (T := 34) (x0 := .string N) (x1 := .string C) (x2 := .slice none 0 0) (x3 := .slice none 0 0) (x4 := .int .i64 0) (x5 := .string ⟨#[]⟩) (x6 := .slice none 0 0) (Below.refl _ _)
    simp only [World.size_alloc] at h
    exact h
  have hL0 : Below w.heap.size w X0 := by
    rw [hX0]; exact (((Below.refl w.heap.size w).alloc (Nat.le_refl _) _).alloc (by simp) _).alloc (by simp; omega) _
  have hZ0 : X0.heap.size = w.heap.size + 3 := by rw [hX0]; simp
  have HX0 := Lib.hid hX0
  have HA := Lib.hid hA
  have HR := Lib.hid hR
  have HO := Lib.hid hO
  have HL0 := Lib.hid hL0
  have HZ0 := Lib.hid hZ0
  clear hX0 hA hR hO hL0 hZ0
  go_enter Tryz.func80, Tryz.ntmps80
  go_wp2_with fail
  go_at_call 110
  rw [← HX0.out]
  refine (H1.out _ HL0.out).mono ?_
  rintro e x1 ⟨y1, d1, rfl, hs1, hm1, hb1⟩
  obtain ⟨B1, k1, rfl⟩ := hs1.slice
  have HS1 := Lib.hid (And.intro hs1 hm1)
  have HB1 := Lib.hid hb1
  have HZ1 := Lib.hid (show w.heap.size + 3 ≤ x1.heap.size by have := hb1.size; have := HZ0.out; omega)
  have hA1 := HA.out.keep (Fr.of_below (S := []) hb1) (by simp)
  have hR1 := HR.out.keep (Fr.of_below (S := []) hb1) (by simp)
  have hO1 := HO.out.keep (Fr.of_below (S := []) hb1) (by simp)
  have HY1 := Lib.hid (And.intro hA1 (And.intro hR1 hO1))
  have HLX := Lib.hid (HL0.out.trans (hb1.mono HL0.out.size))
  obtain ⟨-, -, -, a3, a4, a5, a6⟩ := hA1.cells
  obtain ⟨-, -, o2, -, -, -, -⟩ := hO1.cells
  have f2 := hO1.thaw 2
  clear hs1 hm1 hb1 hA1 hR1 hO1 HA HR HO HX0
  go_wp2_with fail
  go_at_call 110
  have HL1 := Lib.hid (HLX.out.setCell (p := ⟨w.heap.size + 1 + 1, 2, none⟩) (by simp; omega) (.slice B1 r.vars.length k1))
  have HF1 := Lib.hid (Fr.set (S := [w.heap.size + 1 + 1]) x1 ⟨w.heap.size + 1 + 1, 2, none⟩ (.slice B1 r.vars.length k1) (by simp))
  refine (H2.out _ HL1.out).mono ?_
  rintro e x2 ⟨y2, d2, rfl, hs2, hm2, hb2⟩
  obtain ⟨B2, k2, rfl⟩ := hs2.slice
  have HS2 := Lib.hid (And.intro hs2 hm2)
  have HF2 := Lib.hid (HF1.out.trans (Fr.of_below (S := [w.heap.size + 1 + 1]) hb2) (fun x hx => Or.inl hx))
  have hz2 : x1.heap.size ≤ x2.heap.size := HF2.out.size
  have hA2 := (HY1.out.1.far (p := ⟨w.heap.size + 1 + 1, 2, none⟩) (v := .slice B1 r.vars.length k1) (by simp; omega)).keep (Fr.of_below (S := []) hb2) (by simp)
  have hR2 := (HY1.out.2.1.far (p := ⟨w.heap.size + 1 + 1, 2, none⟩) (v := .slice B1 r.vars.length k1) (by simp)).keep (Fr.of_below (S := []) hb2) (by simp)
  have hO2 := (HY1.out.2.2.set2 (.slice B1 r.vars.length k1)).keep (Fr.of_below (S := []) hb2) (by simp)
  have HY2 := Lib.hid (And.intro hA2 (And.intro hR2 hO2))
  have HLX2 := Lib.hid (HL1.out.trans (hb2.mono HL1.out.size))
  obtain ⟨-, -, -, -, a4', a5', a6'⟩ := hA2.cells
  obtain ⟨-, -, -, o3, -, -, -⟩ := hO2.cells
  have f3 := hO2.thaw 3
  clear hs2 hm2 hb2 hA2 hR2 hO2 HY1 a3 a4 a5 a6 o2 f2 HF1 HL1 HLX
  go_wp2_with fail
  go_at_call 111
  have HL2 := Lib.hid (HLX2.out.setCell (p := ⟨w.heap.size + 1 + 1, 3, none⟩) (by simp; omega) (.slice B2 r.params.length k2))
  have HF2' := Lib.hid (Fr.set (S := [w.heap.size + 1 + 1]) x2 ⟨w.heap.size + 1 + 1, 3, none⟩ (.slice B2 r.params.length k2) (by simp))
  refine (H3.out _ HL2.out).mono ?_
  rintro e x3 ⟨y3, d3, rfl, hs3, hm3, hb3⟩
  obtain ⟨u3, rfl, hsz3, hu3⟩ := id hs3
  obtain ⟨B3, k3, rfl, -⟩ := id hu3
  have HS3 := Lib.hid (And.intro hs3 hm3)
  have HF3 := Lib.hid (HF2'.out.trans (Fr.of_below (S := [w.heap.size + 1 + 1]) hb3) (fun x hx => Or.inl hx))
  have hz3 : x2.heap.size ≤ x3.heap.size := HF3.out.size
  have hR3 := (HY2.out.2.1.far (p := ⟨w.heap.size + 1 + 1, 3, none⟩) (v := .slice B2 r.params.length k2) (by simp)).keep (Fr.of_below (S := []) hb3) (by simp)
  have hO3 := (HY2.out.2.2.set3 (.slice B2 r.params.length k2)).keep (Fr.of_below (S := []) hb3) (by simp)
  have HY3 := Lib.hid (And.intro hR3 hO3)
  have HLX3 := Lib.hid (HL2.out.trans (hb3.mono HL2.out.size))
  clear hs3 hm3 hb3 HY2 a4' a5' a6' o3 f3 HF2' HL2 HLX2 hu3
  obtain ⟨o0, o1, o2, o3, o4, o5, o6⟩ := hO3.cells
  have f4 := hO3.thaw 4
  have f5 := hO3.thaw 5
  have f6 := hO3.thaw 6
  obtain ⟨r0, r1, r2, r3, r4, r5, r6⟩ := hR3.cells
  have g0 := hR3.thaw 0
  have g1 := hR3.thaw 1
  have g2 := hR3.thaw 2
  have g3 := hR3.thaw 3
  have g4 := hR3.thaw 4
  have g5 := hR3.thaw 5
  have g6 := hR3.thaw 6
  clear hR3 hO3
  go_wp2_with fail
  obtain ⟨Y, hY⟩ : ∃ Y, Y = ((x3.setCell ⟨w.heap.size + 1 + 1, 4, none⟩ (.int .i64 r.body.kind)).setCell ⟨w.heap.size + 1 + 1, 5, none⟩ (.string r.body.name)).setCell ⟨w.heap.size + 1 + 1, 6, none⟩ (.slice B3 r.body.args.length k3) := ⟨_, rfl⟩
  have hfY : Fr [w.heap.size + 1 + 1] x3 Y := by
    rw [hY]
    exact ((Fr.set (S := [w.heap.size + 1 + 1]) x3 ⟨w.heap.size + 1 + 1, 4, none⟩ _ (by simp)).trans (Fr.set (S := [w.heap.size + 1 + 1]) _ ⟨w.heap.size + 1 + 1, 5, none⟩ _ (by simp)) (fun x hx => Or.inl hx)).trans (Fr.set (S := [w.heap.size + 1 + 1]) _ ⟨w.heap.size + 1 + 1, 6, none⟩ _ (by simp)) (fun x hx => Or.inl hx)
  have hbY := sev_box (HY3.out.1.keep hfY (by simp)) (.string N) (.string C) (.slice B1 r.vars.length k1) (.slice B2 r.params.length k2) (.int .i64 r.body.kind) (.string r.body.name) (.slice B3 r.body.args.length k3)
  have hfS := sev_fr Y (w.heap.size + 1) 0 (.string N) (.string C) (.slice B1 r.vars.length k1) (.slice B2 r.params.length k2) (.int .i64 r.body.kind) (.string r.body.name) (.slice B3 r.body.args.length k3)
  have hF4 : Fr [w.heap.size + 1 + 1, w.heap.size + 1] x3 (sev Y (w.heap.size + 1) 0 (.string N) (.string C) (.slice B1 r.vars.length k1) (.slice B2 r.params.length k2) (.int .i64 r.body.kind) (.string r.body.name) (.slice B3 r.body.args.length k3)) :=
    (hfY.mono (T := [w.heap.size + 1 + 1, w.heap.size + 1]) (fun x hx => Or.inl (by simp at hx; simp [hx]))).trans hfS (fun x hx => Or.inl (by simp at hx; simp [hx]))
  rw [← hY]
  obtain ⟨j0, j1, j2, j3, j4, j5, j6⟩ := hbY.cells
  have hlow : Below w.heap.size w (sev Y (w.heap.size + 1) 0 (.string N) (.string C) (.slice B1 r.vars.length k1) (.slice B2 r.params.length k2) (.int .i64 r.body.kind) (.string r.body.name) (.slice B3 r.body.args.length k3)) :=
    HLX3.out.trans (hF4.below (by simp; omega) (by have := HZ1.out; omega))
  generalize hW : sev Y (w.heap.size + 1) 0 (.string N) (.string C) (.slice B1 r.vars.length k1) (.slice B2 r.params.length k2) (.int .i64 r.body.kind) (.string r.body.name) (.slice B3 r.body.args.length k3) = Wf at *
  unfold sev at hW
  simp only [Nat.zero_add] at hW
  rw [hW]
  refine bodyPost_ret (v := .agg #[.string N, .string C, .slice B1 r.vars.length k1, .slice B2 r.params.length k2, .int .i64 r.body.kind, .string r.body.name, .slice B3 r.body.args.length k3]) (by simp [results, Tryz.results80, go_sem, j0, j1, j2, j3, j4, j5, j6]) rfl ?_
  have hR1 : ∀ x ∈ d1, w.heap.size + 3 ≤ x := fun x hx => by have := (HS1.out.2.range x hx).1; have := HZ0.out; omega
  have hR2 : ∀ x ∈ d2, x1.heap.size ≤ x := fun x hx => by have := (HS2.out.2.range x hx).1; simpa [World.setCell] using this
  have hR3 : ∀ x ∈ d3, x2.heap.size ≤ x := fun x hx => by have := (HS3.out.2.range x hx).1; simpa [World.setCell] using this
  have hz1 := HZ1.out
  have q3 : Keeps x3 Wf d3 := fr_keeps hF4 (fun x hx => by have := hR3 x hx; simp; omega)
  have q2 : Keeps x2 Wf d2 := keeps_on (fr_keeps HF3.out (fun x hx => by have := hR2 x hx; simp; omega)) (fr_keeps hF4 (fun x hx => by have := hR2 x hx; simp; omega))
  have q1 : Keeps x1 Wf d1 := keeps_on (keeps_on (fr_keeps HF2.out (fun x hx => by have := hR1 x hx; simp; omega)) (fr_keeps HF3.out (fun x hx => by have := hR1 x hx; simp; omega))) (fr_keeps hF4 (fun x hx => by have := hR1 x hx; simp; omega))
  have hm2 : Mine x2 x1.heap.size d2 := by have := HS2.out.2; simpa [World.setCell] using this
  have hm3 : Mine x3 x2.heap.size d3 := by have := HS3.out.2; simpa [World.setCell] using this
  have M23 : Mine Wf x1.heap.size (d2 ++ d3) := Mine.join (C := x2.heap.size) hm2 (Nat.le_refl _) q2 (hm3.keeps q3) hz2
  have M1 : Mine Wf w.heap.size (d1 ++ (d2 ++ d3)) := Mine.join (w := x1) (C := x1.heap.size) (HS1.out.2.mono (by have := HZ0.out; omega)) (Nat.le_refl _) q1 M23 (by omega)
  exact ⟨_, d1 ++ (d2 ++ d3), rfl, ⟨_, _, _, d1, d2, d3, by rw [HEQ.out.1, HEQ.out.2.1], HNC.out.1, HNC.out.2, rfl, HS1.out.1.keeps q1, HS2.out.1.keeps q2, HS3.out.1.keeps q3⟩, M1, hlow⟩

theorem Tryz.infoRu : (Tryz.prog.info? 34).map (fun i => (i.zero, i.size, i.bytes)) = some (some (.agg #[.string ⟨#[]⟩, .string ⟨#[]⟩, .slice none 0 0, .slice none 0 0, .int .i64 0, .string ⟨#[]⟩, .slice none 0 0]), 7, 128) := by kernel_rfl

/-- The copies made so far. -/
structure Part7 (w wr : World) (n : Nat) (l : List Ru) (ys : List Value) (bs : List Nat) : Prop where
  row : wr.ownsRow w.heap.size 34 7 (.slice (some ⟨w.heap.size, 0, none⟩) n n) n ys
  pre : RusAt wr w.heap.size 0 0 l bs
  mine : Mine wr (w.heap.size + 1) bs
  low : Below w.heap.size w wr
theorem Part7.lt {w wr : World} {n : Nat} {l : List Ru} {ys : List Value} {bs : List Nat} (h : Part7 w wr n l ys bs) : w.heap.size < wr.heap.size := (h.row.lt w.heap.size rfl).2
theorem Part7.below {w wr w2 : World} {n : Nat} {l : List Ru} {ys : List Value} {bs : List Nat} (h : Part7 w wr n l ys bs) (hb : Below wr.heap.size wr w2) : Part7 w w2 n l ys bs :=
  ⟨h.row.kept (row := none) ⟨hb.os, hb.tape, hb.output, hb.size, fun k hk _ => hb.block k hk⟩ (Or.inr (by simp [Value.ownBlock])), h.pre.keeps h.lt (keeps_below hb _), h.mine.keeps (keeps_below hb _), h.low.trans (hb.mono h.low.size)⟩
theorem Part7.cells {w wr : World} {n : Nat} {l : List Ru} {ys : List Value} {bs : List Nat} (h : Part7 w wr n l ys bs) (k : Nat) (hk : k < n) :
    ∃ y0 y1 y2 y3 y4 y5 y6, Cells7 wr w.heap.size (k * 7) y0 y1 y2 y3 y4 y5 y6 := by
  have hl := h.row.1
  have a : ∀ j, j < n * 7 → ∃ y, wr.cell? ⟨w.heap.size, j, none⟩ = some y := fun j hj => ⟨_, (h.row.cellAt j hj).trans (List.getElem?_eq_getElem (by omega))⟩
  obtain ⟨y0, h0⟩ := a (k * 7) (by omega)
  obtain ⟨y1, h1⟩ := a (k * 7 + 1) (by omega)
  obtain ⟨y2, h2⟩ := a (k * 7 + 2) (by omega)
  obtain ⟨y3, h3⟩ := a (k * 7 + 3) (by omega)
  obtain ⟨y4, h4⟩ := a (k * 7 + 4) (by omega)
  obtain ⟨y5, h5⟩ := a (k * 7 + 5) (by omega)
  obtain ⟨y6, h6⟩ := a (k * 7 + 6) (by omega)
  exact ⟨y0, y1, y2, y3, y4, y5, y6, h0, h1, h2, h3, h4, h5, h6⟩
/-- What lies at the seven cells that were stored, and at the others. -/
theorem sev_cells {W : World} {g o : Nat} {y0 y1 y2 y3 y4 y5 y6 : Value} (h : Cells7 W g o y0 y1 y2 y3 y4 y5 y6) (x0 x1 x2 x3 x4 x5 x6 : Value) : Cells7 (sev W g o x0 x1 x2 x3 x4 x5 x6) g o x0 x1 x2 x3 x4 x5 x6 := by
  unfold sev
  refine ⟨?_, ?_, ?_, ?_, ?_, ?_, ?_⟩
  · rw [set_other _ _ _ _ _ (by omega), set_other _ _ _ _ _ (by omega), set_other _ _ _ _ _ (by omega), set_other _ _ _ _ _ (by omega), set_other _ _ _ _ _ (by omega), set_other _ _ _ _ _ (by omega)]
    exact World.cell?_setCell_same _ _ _ h.c0
  · rw [set_other _ _ _ _ _ (by omega), set_other _ _ _ _ _ (by omega), set_other _ _ _ _ _ (by omega), set_other _ _ _ _ _ (by omega), set_other _ _ _ _ _ (by omega)]
    exact World.cell?_setCell_same _ _ _ (u := y1) (by rw [set_other _ _ _ _ _ (by omega)]; exact h.c1)
  · rw [set_other _ _ _ _ _ (by omega), set_other _ _ _ _ _ (by omega), set_other _ _ _ _ _ (by omega), set_other _ _ _ _ _ (by omega)]
    exact World.cell?_setCell_same _ _ _ (u := y2) (by rw [set_other _ _ _ _ _ (by omega), set_other _ _ _ _ _ (by omega)]; exact h.c2)
  · rw [set_other _ _ _ _ _ (by omega), set_other _ _ _ _ _ (by omega), set_other _ _ _ _ _ (by omega)]
    exact World.cell?_setCell_same _ _ _ (u := y3) (by rw [set_other _ _ _ _ _ (by omega), set_other _ _ _ _ _ (by omega), set_other _ _ _ _ _ (by omega)]; exact h.c3)
  · rw [set_other _ _ _ _ _ (by omega), set_other _ _ _ _ _ (by omega)]
    exact World.cell?_setCell_same _ _ _ (u := y4) (by rw [set_other _ _ _ _ _ (by omega), set_other _ _ _ _ _ (by omega), set_other _ _ _ _ _ (by omega), set_other _ _ _ _ _ (by omega)]; exact h.c4)
  · rw [set_other _ _ _ _ _ (by omega)]
    exact World.cell?_setCell_same _ _ _ (u := y5) (by rw [set_other _ _ _ _ _ (by omega), set_other _ _ _ _ _ (by omega), set_other _ _ _ _ _ (by omega), set_other _ _ _ _ _ (by omega), set_other _ _ _ _ _ (by omega)]; exact h.c5)
  · exact World.cell?_setCell_same _ _ _ (u := y6) (by rw [set_other _ _ _ _ _ (by omega), set_other _ _ _ _ _ (by omega), set_other _ _ _ _ _ (by omega), set_other _ _ _ _ _ (by omega), set_other _ _ _ _ _ (by omega), set_other _ _ _ _ _ (by omega)]; exact h.c6)
theorem sev_other (W : World) (g o : Nat) (x0 x1 x2 x3 x4 x5 x6 : Value) (m : Nat) (h : m < o ∨ o + 7 ≤ m) : (sev W g o x0 x1 x2 x3 x4 x5 x6).cell? ⟨g, m, none⟩ = W.cell? ⟨g, m, none⟩ := by
  unfold sev
  rw [set_other _ _ _ _ _ (by omega), set_other _ _ _ _ _ (by omega), set_other _ _ _ _ _ (by omega), set_other _ _ _ _ _ (by omega), set_other _ _ _ _ _ (by omega), set_other _ _ _ _ _ (by omega), set_other _ _ _ _ _ (by omega)]
theorem sev_row {W : World} {base g o n size : Nat} {T : TypeId} {ys : List Value} (h : W.ownsRow base T size (.slice (some ⟨g, 0, none⟩) n n) n ys) (x0 x1 x2 x3 x4 x5 x6 : Value) : ∃ zs, (sev W g o x0 x1 x2 x3 x4 x5 x6).ownsRow base T size (.slice (some ⟨g, 0, none⟩) n n) n zs := by
  have s0 := (h.stored o x0).1
  have s1 := (s0.stored (o + 1) x1).1
  have s2 := (s1.stored (o + 2) x2).1
  have s3 := (s2.stored (o + 3) x3).1
  have s4 := (s3.stored (o + 4) x4).1
  have s5 := (s4.stored (o + 5) x5).1
  have s6 := (s5.stored (o + 6) x6).1
  exact ⟨_, s6⟩
theorem Part7.step {wo w w2 : World} {n : Nat} {l : List Ru} {r : Ru} {ys : List Value} {bs b1 : List Nat} {v1 v2 u : Value} (h : Part7 wo w n l ys bs) (hk : l.length < n) (hb : Below w.heap.size w w2)
    (hv : RuIs w2 (.agg #[.string r.name, .string r.con, v1, v2, .int .i64 r.body.kind, .string r.body.name, u]) r b1) (hm : Mine w2 w.heap.size b1) :
    ∃ ys', Part7 wo (sev w2 wo.heap.size (l.length * 7) (.string r.name) (.string r.con) v1 v2 (.int .i64 r.body.kind) (.string r.body.name) u) n (l ++ [r]) ys' (bs ++ b1) := by
  have hp := h.below hb
  obtain ⟨y0, y1, y2, y3, y4, y5, y6, hc⟩ := hp.cells l.length hk
  have hlt := h.lt
  obtain ⟨zs, hz⟩ := sev_row (o := l.length * 7) hp.row (.string r.name) (.string r.con) v1 v2 (.int .i64 r.body.kind) (.string r.body.name) u
  have hf := sev_fr w2 wo.heap.size (l.length * 7) (.string r.name) (.string r.con) v1 v2 (.int .i64 r.body.kind) (.string r.body.name) u
  have k1 : Keeps w2 (sev w2 wo.heap.size (l.length * 7) (.string r.name) (.string r.con) v1 v2 (.int .i64 r.body.kind) (.string r.body.name) u) bs := fr_keeps hf (fun x hx => by have := (h.mine.range x hx).1; simp; omega)
  have k2 : Keeps w2 (sev w2 wo.heap.size (l.length * 7) (.string r.name) (.string r.con) v1 v2 (.int .i64 r.body.kind) (.string r.body.name) u) b1 := fr_keeps hf (fun x hx => by have := (hm.range x hx).1; simp; omega)
  refine ⟨zs, hz, ?_, ?_, ?_⟩
  · refine RusAt.snoc l 0 bs (RusAt.same l 0 bs hp.pre (fun m hm => sev_other _ _ _ _ _ _ _ _ _ _ _ (by omega)) k1) ?_
    rw [show 0 + (0 + l.length) * 7 = l.length * 7 by omega]
    exact ⟨v1, v2, u, sev_cells hc _ _ _ _ _ _ _, hv.keeps k2⟩
  · exact Mine.join (C := w.heap.size) h.mine (Nat.le_refl _) (keeps_on (keeps_below hb bs) k1) (hm.keeps k2) (by omega)
  · exact hp.low.trans (hf.below (by simp) hp.low.size)
theorem part7_start {w w1 : World} {n : Nat} {ys : List Value} (ho : w1.ownsRow w.heap.size 34 7 (.slice (some ⟨w.heap.size, 0, none⟩) n n) n ys) (hb : Below w.heap.size w w1) : Part7 w w1 n [] ys [] :=
  ⟨ho, rfl, Mine.nil _ _, hb⟩
theorem Part7.done {w wr : World} {n : Nat} {l : List Ru} {ys : List Value} {bs : List Nat} (h : Part7 w wr n l ys bs) (hn : l.length = n) (hm : n ≤ 9223372036854775807) : ∃ bs', RsIs wr (.slice (some ⟨w.heap.size, 0, none⟩) n n) l bs' ∧ Mine wr w.heap.size bs' := by
  refine ⟨w.heap.size :: bs, ⟨_, n, by rw [hn], by omega, hm, Or.inr ⟨w.heap.size, 0, bs, rfl, h.lt, rfl, h.pre⟩⟩, ?_, ?_, ?_⟩
  · rw [List.nodup_cons]
    exact ⟨fun hx => by have := (h.mine.range _ hx).1; omega, h.mine.nodup⟩
  · intro x hx
    rcases List.mem_cons.1 hx with rfl | hx
    · exact ⟨Nat.le_refl _, h.lt⟩
    · have := h.mine.range x hx; omega
  · intro x hx o
    rcases List.mem_cons.1 hx with rfl | hx
    · exact h.row.frozenAt o
    · exact h.mine.free x hx o
theorem ru_val {w : World} {v : Value} {r : Ru} {bs : List Nat} (h : RuIs w v r bs) : ∃ A1 n1 c1 A2 n2 c2 A3 n3 c3, v = .agg #[.string r.name, .string r.con, .slice A1 n1 c1, .slice A2 n2 c2, .int .i64 r.body.kind, .string r.body.name, .slice A3 n3 c3] := by
  obtain ⟨v1, v2, u, b1, b2, b3, rfl, -, -, -, h1, h2, h3⟩ := h
  obtain ⟨A1, c1, rfl⟩ := h1.slice
  obtain ⟨A2, c2, rfl⟩ := h2.slice
  obtain ⟨A3, n3, c3, rfl⟩ : ∃ A n c, u = .slice A n c := by
    obtain ⟨u', e3, -, hu⟩ := h3
    obtain ⟨A3, c3, e4, -⟩ := hu
    simp only [Value.agg.injEq, Array.mk.injEq, List.cons.injEq, and_true, true_and] at e3
    rw [e3, e4]; exact ⟨_, _, _, rfl⟩
  exact ⟨_, _, _, _, _, _, _, _, _, rfl⟩

set_option maxRecDepth 100000 in
set_option maxHeartbeats 4000000 in
theorem copy_rules (l : List Ru) (v : Value) (bs : List Nat) (w : World) (hv : RsIs w v l bs) (hb : ∀ r ∈ l, Small r) (hl : l.length ≤ 1099511627776) :
    Calls Tryz.prog 54 #[v] w (CopyRus l w) := by
  obtain ⟨i0, hi, hz0, hz1, hz2⟩ := info_parts Tryz.infoRu
  obtain ⟨A, c, rfl, hc1, hc2, -⟩ := id hv
  have HU := Lib.hid hv
  obtain ⟨m, hm⟩ : ∃ m, m = l.length := ⟨_, rfl⟩
  rw [← hm] at hc1 HU hl ⊢
  have HM := Lib.hid hm
  have HBD := Lib.hid hb
  have HI := Lib.hid (And.intro hi (And.intro hz0 (And.intro hz1 hz2)))
  have C2 := Lib.hid (show i0.bytes * m ≤ 281474976710656 by rw [hz2]; omega)
  have C3 := Lib.hid (show m ≤ maxLen by unfold maxLen; omega)
  clear hm hv hb hi hz0 hz1 hz2
  go_enter Tryz.func54, Tryz.ntmps54
  go_wp2_with (at_make; go_loud (refine wpList_make_full _ rfl _ _ 24 rfl w.heap.size 34 i0 (.agg #[.string ⟨#[]⟩, .string ⟨#[]⟩, .slice none 0 0, .slice none 0 0, .int .i64 0, .string ⟨#[]⟩, .slice none 0 0]) 7 Tryz.underlying24 HI.out.1 HI.out.2.1 HI.out.2.2.1 .i64 .i64 _ _ m rfl rfl rfl rfl C2.out C3.out (Nat.le_refl _) ?_); go_loud (intro w1 hown1 hg1))
  have HP := Lib.hid (part7_start hown1 ⟨hg1.os, hg1.tape, hg1.output, hg1.size, fun k hk => hg1.block k hk (by simp)⟩)
  clear hown1 hg1
  go_loopw [4] (fun i wr => ∃ (k : Nat) (ys : List Value) (cs : List Nat), k ≤ m ∧ i = .int .i64 (k : Int) ∧ Hid (Part7 w wr m (l.take k) ys cs)) (fun i _ => m - (intOf i).toNat)
  case atStart => exact ⟨0, _, [], Nat.zero_le _, rfl, HP⟩
  case round =>
    obtain ⟨k, ys, cs, hk, rfl, HP⟩ := hrel
    by_cases hlt : k < m
    · obtain ⟨g, o, r, v1, v2, u, b, hA⟩ := (HU.out.below HP.out.low).get k (by rw [← HM.out]; exact hlt)
      obtain rfl := hA.eq
      obtain ⟨c0, c1, c2, c3, c4, c5, c6⟩ := hA.cells
      have HTK := Lib.hid (take_ru l k r hA.get)
      have HLK := Lib.hid (show (l.take k).length = k by rw [List.length_take, ← HM.out]; omega)
      have HCALL := Lib.hid (copy_rule r _ b wr hA.is (HBD.out r hA.mem))
      clear hA
      go_wp2_with (go_at_call 80; refine HCALL.out.mono ?_; rintro e w2 ⟨vv, b2, rfl, hs2, hm2, hb2⟩; obtain ⟨X1, n1, k1, X2, n2, k2, X3, n3, k3, rfl⟩ := ru_val hs2; have hp2 := HP.out.below hb2; obtain ⟨y0, y1, y2, y3, y4, y5, y6, d0, d1, d2, d3, d4, d5, d6⟩ := hp2.cells k hlt; have f0 := hp2.row.frozenAt (k * 7); have f1 := hp2.row.frozenAt (k * 7 + 1); have f2 := hp2.row.frozenAt (k * 7 + 2); have f3 := hp2.row.frozenAt (k * 7 + 3); have f4 := hp2.row.frozenAt (k * 7 + 4); have f5 := hp2.row.frozenAt (k * 7 + 5); have f6 := hp2.row.frozenAt (k * 7 + 6); have HST := Lib.hid (HP.out.step (by rw [HLK.out]; exact hlt) hb2 hs2 hm2); clear hs2 hm2 hb2 hp2)
      obtain ⟨ys', hst⟩ := HST.out
      rw [HLK.out, ← HTK.out] at hst
      unfold sev at hst
      go_roundw
      case rel => exact ⟨k + 1, ys', _, by omega, by go_num, Lib.hid hst⟩
      case measure => simp [intOf]; omega
    · have HE := Lib.hid (show l.take k = l from List.take_of_length_le (by rw [← HM.out]; omega))
      have hp := HP.out
      rw [HE.out] at hp
      have HP2 := Lib.hid hp
      clear hp
      go_wp2_with fail
      go_ret
      obtain ⟨bs', h1, h2⟩ := HP2.out.done HM.out.symm (by omega)
      exact ⟨_, bs', rfl, h1, h2, HP2.out.low⟩

set_option maxHeartbeats 2000000 in
theorem copy_prog (l : List Ru) (v : Value) (bs : List Nat) (w : World) (hv : PrIs w v l bs) (hb : rusTot l ≤ 1048576) :
    Calls Tryz.prog 24 #[v] w (CopyPr l w) := by
  obtain ⟨u, rfl, hu⟩ := hv
  have hlen := rusTot_ge l
  have HC := Lib.hid (fun (W : World) (hb2 : Below w.heap.size w W) => copy_rules l u bs W (hu.below hb2) (fun r hr => small_of (by have := rusTot_mem hr; omega)) (by omega))
  obtain ⟨A, c, rfl, -⟩ := id hu
  clear hu hlen
  have HB0 := Lib.hid ((((Below.refl w.heap.size w).alloc (Nat.le_refl _) (.cells #[.slice A l.length c] 46)).alloc (by simp) (.cells #[.slice none 0 0] 26)).alloc (by simp; omega) (.cells #[.slice none 0 0] 26))
  go_enter Tryz.func24, Tryz.ntmps24
  go_wp2_with fail
  go_at_call 54
  refine (HC.out _ HB0.out).mono ?_
  rintro r w1 ⟨u1, b1, rfl, hs1, hm1, hb1⟩
  obtain ⟨A1, c1, rfl, -⟩ := id hs1
  have HS1 := Lib.hid hs1
  have HM1 := Lib.hid hm1
  obtain ⟨hc, hf⟩ := bcellE hb1
  have hz : w.heap.size + 3 ≤ w1.heap.size := by have := hb1.size; simp at this; omega
  have HB1 := Lib.hid (HB0.out.trans (hb1.mono HB0.out.size))
  clear hs1 hm1 hb1
  go_wp2_with fail
  refine bodyPost_ret (v := .agg #[.slice A1 l.length c1]) (by simp [results, Tryz.results24, go_sem, hc]) rfl ?_
  have hge : ∀ x ∈ b1, w.heap.size + 3 ≤ x := fun x hx => by have := (HM1.out.range x hx).1; simp at this; omega
  have hk : Keeps w1 ((w1.setCell ⟨w.heap.size + 1 + 1, 0, none⟩ (.slice A1 l.length c1)).setCell ⟨w.heap.size + 1, 0, none⟩ (.slice A1 l.length c1)) b1 :=
    keeps_on (keeps_set (fun x hx => by have := hge x hx; simp; omega)) (keeps_set (fun x hx => by have := hge x hx; simp; omega))
  refine ⟨_, b1, rfl, ⟨_, rfl, HS1.out.keeps hk⟩, (HM1.out.keeps hk).mono (by simp; omega), ?_⟩
  exact (HB1.out.setCell (by simp; omega) _).setCell (by simp) _
end Go.Proofs.YtmndlhbgacgnlaaGreat
