/- The contracts of the laws' copies of bindings. Condition: fewer than 2^40 nodes each. -/
import Derived.Test.YtegigjnlecpplaaBiSz
import Derived.Test.YtegigjnlecpplaaRuCopy
namespace Go.Proofs.Ytegigjnlecpplaa
open Go Go.RowKit

theorem Box4.keep {W W2 : World} {B : Nat} {T : TypeId} {x0 x1 x2 x3 : Value} {S : List Nat} (h : Box4 W B T x0 x1 x2 x3) (hf : Fr S W W2) (hS : B ∉ S) : Box4 W2 B T x0 x1 x2 x3 := (hf.block B h.lt hS).trans h
def CopyBi (r : Bi) (w : World) (e : Ending) (w' : World) : Prop := ∃ v bs, e = .returned v ∧ BiIs w' v r bs ∧ Mine w' w.heap.size bs ∧ Below w.heap.size w w'
def CopyBis (l : List Bi) (w : World) (e : Ending) (w' : World) : Prop := ∃ v bs, e = .returned v ∧ BlIs w' v l bs ∧ Mine w' w.heap.size bs ∧ Below w.heap.size w w'
theorem keepsB {S bs : List Nat} {W W2 : World} (h : Fr S W W2) (hd : ∀ x ∈ bs, x ∉ S) : Keeps W W2 bs := ⟨h.size, fun x hx hlt => h.block x hlt (hd x hx)⟩

/-- The four cells stored. -/
def fou (W : World) (B o : Nat) (x0 x1 x2 x3 : Value) : World := (((W.setCell ⟨B, o, none⟩ x0).setCell ⟨B, o + 1, none⟩ x1).setCell ⟨B, o + 2, none⟩ x2).setCell ⟨B, o + 3, none⟩ x3
theorem fou_fr (W : World) (B o : Nat) (x0 x1 x2 x3 : Value) : Fr [B] W (fou W B o x0 x1 x2 x3) := by
  unfold fou
  exact (((Fr.set _ _ _ (by simp)).trans (Fr.set (S := [B]) _ _ _ (by simp)) (fun x h => Or.inl h)).trans (Fr.set (S := [B]) _ _ _ (by simp)) (fun x h => Or.inl h)).trans (Fr.set (S := [B]) _ _ _ (by simp)) (fun x h => Or.inl h)
theorem fou_box {W : World} {B : Nat} {T : TypeId} {y0 y1 y2 y3 : Value} (h : Box4 W B T y0 y1 y2 y3) (x0 x1 x2 x3 : Value) : Box4 (fou W B 0 x0 x1 x2 x3) B T x0 x1 x2 x3 := by
  unfold Box4 at h ⊢
  simp [fou, World.setCell, Array.getElem?_modify, h]
theorem fou_cells {W : World} {g o : Nat} {y0 y1 y2 y3 : Value} (h : Cells4 W g o y0 y1 y2 y3) (x0 x1 x2 x3 : Value) : Cells4 (fou W g o x0 x1 x2 x3) g o x0 x1 x2 x3 := by
  unfold fou
  refine ⟨?_, ?_, ?_, ?_⟩
  · rw [set_other _ _ _ _ _ (by omega), set_other _ _ _ _ _ (by omega), set_other _ _ _ _ _ (by omega)]
    exact World.cell?_setCell_same _ _ _ h.c0
  · rw [set_other _ _ _ _ _ (by omega), set_other _ _ _ _ _ (by omega)]
    exact World.cell?_setCell_same _ _ _ (u := y1) (by rw [set_other _ _ _ _ _ (by omega)]; exact h.c1)
  · rw [set_other _ _ _ _ _ (by omega)]
    exact World.cell?_setCell_same _ _ _ (u := y2) (by rw [set_other _ _ _ _ _ (by omega), set_other _ _ _ _ _ (by omega)]; exact h.c2)
  · exact World.cell?_setCell_same _ _ _ (u := y3) (by rw [set_other _ _ _ _ _ (by omega), set_other _ _ _ _ _ (by omega), set_other _ _ _ _ _ (by omega)]; exact h.c3)
theorem fou_other (W : World) (g o : Nat) (x0 x1 x2 x3 : Value) (m : Nat) (h : m < o ∨ o + 4 ≤ m) : (fou W g o x0 x1 x2 x3).cell? ⟨g, m, none⟩ = W.cell? ⟨g, m, none⟩ := by
  unfold fou
  rw [set_other _ _ _ _ _ (by omega), set_other _ _ _ _ _ (by omega), set_other _ _ _ _ _ (by omega), set_other _ _ _ _ _ (by omega)]
theorem fou_row {W : World} {base g o n size : Nat} {T : TypeId} {ys : List Value} (h : W.ownsRow base T size (.slice (some ⟨g, 0, none⟩) n n) n ys) (x0 x1 x2 x3 : Value) : ∃ zs, (fou W g o x0 x1 x2 x3).ownsRow base T size (.slice (some ⟨g, 0, none⟩) n n) n zs := by
  have s0 := (h.stored o x0).1
  have s1 := (s0.stored (o + 1) x1).1
  have s2 := (s1.stored (o + 2) x2).1
  have s3 := (s2.stored (o + 3) x3).1
  exact ⟨_, s3⟩

set_option maxRecDepth 100000 in
set_option maxHeartbeats 4000000 in
theorem copy_bind (r : Bi) (v : Value) (bs : List Nat) (w : World) (hv : BiIs w v r bs) (hb : exSize r.val ≤ 1099511627776) :
    Calls Try.prog 63 #[v] w (CopyBi r w) := by
  obtain ⟨u, rfl, hn, h3⟩ := hv
  have H3 := Lib.hid (fun (W : World) (hb2 : Below w.heap.size w W) => copy_expr r.val _ bs W (h3.below hb2) hb)
  have HNC := Lib.hid hn
  obtain ⟨u', e3, -, hu⟩ := h3
  obtain ⟨A3, c3, e4, -⟩ := hu
  simp only [Value.agg.injEq, Array.mk.injEq, List.cons.injEq, and_true, true_and] at e3
  subst e3; subst e4
  clear hb hn
  obtain ⟨N, hN⟩ : ∃ N, N = r.name := ⟨_, rfl⟩
  obtain ⟨K, hK⟩ : ∃ K, K = r.val.kind := ⟨_, rfl⟩
  obtain ⟨S, hS⟩ : ∃ S, S = r.val.name := ⟨_, rfl⟩
  rw [← hK, ← hS] at H3
  rw [← hN, ← hK, ← hS]
  have HEQ := Lib.hid hN
  clear hN hK hS
  obtain ⟨n3, hn3⟩ : ∃ n3, n3 = r.val.args.length := ⟨_, rfl⟩
  rw [← hn3] at H3
  rw [← hn3]
  clear hn3
  go_enter Try.func63, Try.ntmps63
  go_wp2_with fail
  go_at_call 34
  obtain ⟨X0, hX0⟩ : ∃ X0, X0 = ((w.alloc (.cells #[.string N, .int .i64 K, .string S, .slice A3 n3 c3] 87)).alloc (.cells #[.string ⟨#[]⟩, .int .i64 0, .string ⟨#[]⟩, .slice none 0 0] 69)).alloc (.cells #[.string N, .int .i64 0, .string ⟨#[]⟩, .slice none 0 0] 69) := ⟨_, rfl⟩
  rw [← hX0]
  have hR : Box4 X0 (w.heap.size + 1) 69 (.string ⟨#[]⟩) (.int .i64 0) (.string ⟨#[]⟩) (.slice none 0 0) := by
    rw [hX0]
    have h := box4_new (w := w.alloc (.cells #[.string N, .int .i64 K, .string S, .slice A3 n3 c3] 87)) (T := 69) (x0 := .string ⟨#[]⟩) (x1 := .int .i64 0) (x2 := .string ⟨#[]⟩) (x3 := .slice none 0 0) (Below.refl _ _)
    simp only [World.size_alloc] at h
    exact h.keep (Fr.alloc (S := []) _ _) (by simp)
  have hO : Box4 X0 (w.heap.size + 1 + 1) 69 (.string N) (.int .i64 0) (.string ⟨#[]⟩) (.slice none 0 0) := by
    rw [hX0]
    have h := box4_new (w := (w.alloc (.cells #[.string N, .int .i64 K, .string S, .slice A3 n3 c3] 87)).alloc (.cells #[.string ⟨#[]⟩, .int .i64 0, .string ⟨#[]⟩, .slice none 0 0] 69)) (T := 69) (x0 := .string N) (x1 := .int .i64 0) (x2 := .string ⟨#[]⟩) (x3 := .slice none 0 0) (Below.refl _ _)
    simp only [World.size_alloc] at h
    exact h
  have hL0 : Below w.heap.size w X0 := by
    rw [hX0]; exact (((Below.refl w.heap.size w).alloc (Nat.le_refl _) _).alloc (by simp) _).alloc (by simp; omega) _
  have hZ0 : X0.heap.size = w.heap.size + 3 := by rw [hX0]; simp
  refine (H3.out _ hL0).mono ?_
  rintro e x3 ⟨y3, d3, rfl, hs3, hm3, hb3⟩
  obtain ⟨u3, rfl, hsz3, hu3⟩ := id hs3
  obtain ⟨B3, k3, rfl, -⟩ := id hu3
  have HS3 := Lib.hid (And.intro hs3 hm3)
  have HL := Lib.hid (hL0.trans (hb3.mono hL0.size))
  have HZ := Lib.hid (show w.heap.size + 3 ≤ x3.heap.size by have := hb3.size; omega)
  have HZX := Lib.hid hZ0
  have hR3 := hR.keep (Fr.of_below (S := []) hb3) (by simp)
  have hO3 := hO.keep (Fr.of_below (S := []) hb3) (by simp)
  have HR3 := Lib.hid hR3
  obtain ⟨o0, o1, o2, o3⟩ := hO3.cells
  have f0 := hO3.thaw 0
  have f1 := hO3.thaw 1
  have f2 := hO3.thaw 2
  have f3 := hO3.thaw 3
  obtain ⟨r0, r1, r2, r3⟩ := hR3.cells
  have g0 := hR3.thaw 0
  have g1 := hR3.thaw 1
  have g2 := hR3.thaw 2
  have g3 := hR3.thaw 3
  clear hs3 hm3 hb3 hR hO hL0 hZ0 hX0 hR3 hO3 hu3 hsz3
  go_wp2_with fail
  obtain ⟨Y, hY⟩ : ∃ Y, Y = ((x3.setCell ⟨w.heap.size + 1 + 1, 1, none⟩ (.int .i64 r.val.kind)).setCell ⟨w.heap.size + 1 + 1, 2, none⟩ (.string r.val.name)).setCell ⟨w.heap.size + 1 + 1, 3, none⟩ (.slice B3 r.val.args.length k3) := ⟨_, rfl⟩
  have hfY : Fr [w.heap.size + 1 + 1] x3 Y := by
    rw [hY]
    exact ((Fr.set (S := [w.heap.size + 1 + 1]) x3 ⟨w.heap.size + 1 + 1, 1, none⟩ _ (by simp)).trans (Fr.set (S := [w.heap.size + 1 + 1]) _ ⟨w.heap.size + 1 + 1, 2, none⟩ _ (by simp)) (fun x hx => Or.inl hx)).trans (Fr.set (S := [w.heap.size + 1 + 1]) _ ⟨w.heap.size + 1 + 1, 3, none⟩ _ (by simp)) (fun x hx => Or.inl hx)
  have hbY := fou_box (HR3.out.keep hfY (by simp)) (.string N) (.int .i64 r.val.kind) (.string r.val.name) (.slice B3 r.val.args.length k3)
  have hfS := fou_fr Y (w.heap.size + 1) 0 (.string N) (.int .i64 r.val.kind) (.string r.val.name) (.slice B3 r.val.args.length k3)
  have hF4 : Fr [w.heap.size + 1 + 1, w.heap.size + 1] x3 (fou Y (w.heap.size + 1) 0 (.string N) (.int .i64 r.val.kind) (.string r.val.name) (.slice B3 r.val.args.length k3)) :=
    (hfY.mono (T := [w.heap.size + 1 + 1, w.heap.size + 1]) (fun x hx => Or.inl (by simp at hx; simp [hx]))).trans hfS (fun x hx => Or.inl (by simp at hx; simp [hx]))
  rw [← hY]
  obtain ⟨j0, j1, j2, j3⟩ := hbY.cells
  have hlow : Below w.heap.size w (fou Y (w.heap.size + 1) 0 (.string N) (.int .i64 r.val.kind) (.string r.val.name) (.slice B3 r.val.args.length k3)) :=
    HL.out.trans (hF4.below (by simp; omega) (by have := HZ.out; omega))
  generalize hW : fou Y (w.heap.size + 1) 0 (.string N) (.int .i64 r.val.kind) (.string r.val.name) (.slice B3 r.val.args.length k3) = Wf at *
  unfold fou at hW
  simp only [Nat.zero_add] at hW
  rw [hW]
  refine bodyPost_ret (v := .agg #[.string N, .int .i64 r.val.kind, .string r.val.name, .slice B3 r.val.args.length k3]) (by simp [results, Try.results63, go_sem, j0, j1, j2, j3]) rfl ?_
  have hR3 : ∀ x ∈ d3, w.heap.size + 3 ≤ x := fun x hx => by have := (HS3.out.2.range x hx).1; have := HZX.out; omega
  have q3 : Keeps x3 Wf d3 := keepsB hF4 (fun x hx => by have := hR3 x hx; simp; omega)
  exact ⟨_, d3, rfl, ⟨_, by rw [HEQ.out], HNC.out, HS3.out.1.keeps q3⟩, (HS3.out.2.keeps q3).mono (by have := HZX.out; omega), hlow⟩


theorem Try.infoBi : (Try.prog.info? 69).map (fun i => (i.zero, i.size, i.bytes)) = some (some (.agg #[.string ⟨#[]⟩, .int .i64 0, .string ⟨#[]⟩, .slice none 0 0]), 4, 64) := by kernel_rfl

/-- The copies of bindings made so far. -/
structure PartB (w wr : World) (n : Nat) (l : List Bi) (ys : List Value) (bs : List Nat) : Prop where
  row : wr.ownsRow w.heap.size 69 4 (.slice (some ⟨w.heap.size, 0, none⟩) n n) n ys
  pre : BisAt wr w.heap.size 0 0 l bs
  mine : Mine wr (w.heap.size + 1) bs
  low : Below w.heap.size w wr
theorem PartB.lt {w wr : World} {n : Nat} {l : List Bi} {ys : List Value} {bs : List Nat} (h : PartB w wr n l ys bs) : w.heap.size < wr.heap.size := (h.row.lt w.heap.size rfl).2
theorem PartB.below {w wr w2 : World} {n : Nat} {l : List Bi} {ys : List Value} {bs : List Nat} (h : PartB w wr n l ys bs) (hb : Below wr.heap.size wr w2) : PartB w w2 n l ys bs :=
  ⟨h.row.kept (row := none) ⟨hb.os, hb.tape, hb.output, hb.size, fun k hk _ => hb.block k hk⟩ (Or.inr (by simp [Value.ownBlock])), h.pre.keeps h.lt (keeps_below hb _), h.mine.keeps (keeps_below hb _), h.low.trans (hb.mono h.low.size)⟩
theorem PartB.cells {w wr : World} {n : Nat} {l : List Bi} {ys : List Value} {bs : List Nat} (h : PartB w wr n l ys bs) (k : Nat) (hk : k < n) :
    ∃ y0 y1 y2 y3, Cells4 wr w.heap.size (k * 4) y0 y1 y2 y3 := by
  have hl := h.row.1
  have a : ∀ j, j < n * 4 → ∃ y, wr.cell? ⟨w.heap.size, j, none⟩ = some y := fun j hj => ⟨_, (h.row.cellAt j hj).trans (List.getElem?_eq_getElem (by omega))⟩
  obtain ⟨y0, h0⟩ := a (k * 4) (by omega)
  obtain ⟨y1, h1⟩ := a (k * 4 + 1) (by omega)
  obtain ⟨y2, h2⟩ := a (k * 4 + 2) (by omega)
  obtain ⟨y3, h3⟩ := a (k * 4 + 3) (by omega)
  exact ⟨y0, y1, y2, y3, h0, h1, h2, h3⟩
theorem PartB.step {wo w w2 : World} {n : Nat} {l : List Bi} {r : Bi} {ys : List Value} {bs b1 : List Nat} {u : Value} (h : PartB wo w n l ys bs) (hk : l.length < n) (hb : Below w.heap.size w w2)
    (hv : BiIs w2 (.agg #[.string r.name, .int .i64 r.val.kind, .string r.val.name, u]) r b1) (hm : Mine w2 w.heap.size b1) :
    ∃ ys', PartB wo (fou w2 wo.heap.size (l.length * 4) (.string r.name) (.int .i64 r.val.kind) (.string r.val.name) u) n (l ++ [r]) ys' (bs ++ b1) := by
  have hp := h.below hb
  obtain ⟨y0, y1, y2, y3, hc⟩ := hp.cells l.length hk
  have hlt := h.lt
  obtain ⟨zs, hz⟩ := fou_row (o := l.length * 4) hp.row (.string r.name) (.int .i64 r.val.kind) (.string r.val.name) u
  have hf := fou_fr w2 wo.heap.size (l.length * 4) (.string r.name) (.int .i64 r.val.kind) (.string r.val.name) u
  have k1 : Keeps w2 (fou w2 wo.heap.size (l.length * 4) (.string r.name) (.int .i64 r.val.kind) (.string r.val.name) u) bs := fr_keeps hf (fun x hx => by have := (h.mine.range x hx).1; simp; omega)
  have k2 : Keeps w2 (fou w2 wo.heap.size (l.length * 4) (.string r.name) (.int .i64 r.val.kind) (.string r.val.name) u) b1 := fr_keeps hf (fun x hx => by have := (hm.range x hx).1; simp; omega)
  refine ⟨zs, hz, ?_, ?_, ?_⟩
  · refine BisAt.snoc l 0 bs (BisAt.same l 0 bs hp.pre (fun m hm => fou_other _ _ _ _ _ _ _ _ (by omega)) k1) ?_
    rw [show 0 + (0 + l.length) * 4 = l.length * 4 by omega]
    exact ⟨u, fou_cells hc _ _ _ _, hv.keeps k2⟩
  · exact Mine.join (C := w.heap.size) h.mine (Nat.le_refl _) (keeps_on (keeps_below hb bs) k1) (hm.keeps k2) (by omega)
  · exact hp.low.trans (hf.below (by simp) hp.low.size)
theorem partB_start {w w1 : World} {n : Nat} {ys : List Value} (ho : w1.ownsRow w.heap.size 69 4 (.slice (some ⟨w.heap.size, 0, none⟩) n n) n ys) (hb : Below w.heap.size w w1) : PartB w w1 n [] ys [] :=
  ⟨ho, rfl, Mine.nil _ _, hb⟩
theorem PartB.done {w wr : World} {n : Nat} {l : List Bi} {ys : List Value} {bs : List Nat} (h : PartB w wr n l ys bs) (hn : l.length = n) (hm : n ≤ 9223372036854775807) : ∃ bs', BlIs wr (.slice (some ⟨w.heap.size, 0, none⟩) n n) l bs' ∧ Mine wr w.heap.size bs' := by
  refine ⟨w.heap.size :: bs, ⟨_, n, by rw [hn], by omega, hm, Or.inr ⟨w.heap.size, 0, bs, rfl, h.lt, rfl, h.pre⟩⟩, ?_, ?_, ?_⟩
  · rw [List.nodup_cons]
    exact ⟨fun hx => by have := (h.mine.range _ hx).1; omega, h.mine.nodup⟩
  · intro x hx
    rcases List.mem_cons.1 hx with rfl | hx
    · exact ⟨Nat.le_refl _, h.lt⟩
    · have := h.mine.range x hx; omega
  · intro x hx o
    rcases List.mem_cons.1 hx with rfl | hx
    · exact h.row.frozenAt o
    · exact h.mine.free x hx o
theorem bi_val {w : World} {v : Value} {r : Bi} {bs : List Nat} (h : BiIs w v r bs) : ∃ A3 n3 c3, v = .agg #[.string r.name, .int .i64 r.val.kind, .string r.val.name, .slice A3 n3 c3] := by
  obtain ⟨u, rfl, -, h3⟩ := h
  obtain ⟨u', e3, -, hu⟩ := h3
  obtain ⟨A3, c3, e4, -⟩ := hu
  simp only [Value.agg.injEq, Array.mk.injEq, List.cons.injEq, and_true, true_and] at e3
  rw [e3, e4]; exact ⟨_, _, _, rfl⟩

set_option maxRecDepth 100000 in
set_option maxHeartbeats 4000000 in
theorem copy_binds (l : List Bi) (v : Value) (bs : List Nat) (w : World) (hv : BlIs w v l bs) (hb : ∀ r ∈ l, exSize r.val ≤ 1099511627776) (hl : l.length ≤ 1099511627776) :
    Calls Try.prog 27 #[v] w (CopyBis l w) := by
  obtain ⟨i0, hi, hz0, hz1, hz2⟩ := info_parts Try.infoBi
  obtain ⟨A, c, rfl, hc1, hc2, -⟩ := id hv
  have HU := Lib.hid hv
  obtain ⟨m, hm⟩ : ∃ m, m = l.length := ⟨_, rfl⟩
  rw [← hm] at hc1 HU hl ⊢
  have HM := Lib.hid hm
  have HBD := Lib.hid hb
  have HI := Lib.hid (And.intro hi (And.intro hz0 (And.intro hz1 hz2)))
  have C2 := Lib.hid (show i0.bytes * m ≤ 281474976710656 by rw [hz2]; omega)
  have C3 := Lib.hid (show m ≤ maxLen by unfold maxLen; omega)
  clear hm hv hb hi hz0 hz1 hz2
  go_enter Try.func27, Try.ntmps27
  go_wp2_with (at_make; go_loud (refine wpList_make_full _ rfl _ _ 29 rfl w.heap.size 69 i0 (.agg #[.string ⟨#[]⟩, .int .i64 0, .string ⟨#[]⟩, .slice none 0 0]) 4 Try.underlying29 HI.out.1 HI.out.2.1 HI.out.2.2.1 .i64 .i64 _ _ m rfl rfl rfl rfl C2.out C3.out (Nat.le_refl _) ?_); go_loud (intro w1 hown1 hg1))
  have HP := Lib.hid (partB_start hown1 ⟨hg1.os, hg1.tape, hg1.output, hg1.size, fun k hk => hg1.block k hk (by simp)⟩)
  clear hown1 hg1
  go_loopw [4] (fun i wr => ∃ (k : Nat) (ys : List Value) (cs : List Nat), k ≤ m ∧ i = .int .i64 (k : Int) ∧ Hid (PartB w wr m (l.take k) ys cs)) (fun i _ => m - (intOf i).toNat)
  case atStart => exact ⟨0, _, [], Nat.zero_le _, rfl, HP⟩
  case round =>
    obtain ⟨k, ys, cs, hk, rfl, HP⟩ := hrel
    by_cases hlt : k < m
    · obtain ⟨g, o, r, u, b, hA⟩ := (HU.out.below HP.out.low).get k (by rw [← HM.out]; exact hlt)
      obtain rfl := hA.eq
      obtain ⟨c0, c1, c2, c3⟩ := hA.cells
      have HTK := Lib.hid (take_bi l k r hA.get)
      have HLK := Lib.hid (show (l.take k).length = k by rw [List.length_take, ← HM.out]; omega)
      have HCALL := Lib.hid (copy_bind r _ b wr hA.is (HBD.out r hA.mem))
      clear hA
      go_wp2_with (go_at_call 63; refine HCALL.out.mono ?_; rintro e w2 ⟨vv, b2, rfl, hs2, hm2, hb2⟩; obtain ⟨X3, n3, k3, rfl⟩ := bi_val hs2; have hp2 := HP.out.below hb2; obtain ⟨y0, y1, y2, y3, d0, d1, d2, d3⟩ := hp2.cells k hlt; have f0 := hp2.row.frozenAt (k * 4); have f1 := hp2.row.frozenAt (k * 4 + 1); have f2 := hp2.row.frozenAt (k * 4 + 2); have f3 := hp2.row.frozenAt (k * 4 + 3); have HST := Lib.hid (HP.out.step (by rw [HLK.out]; exact hlt) hb2 hs2 hm2); clear hs2 hm2 hb2 hp2)
      obtain ⟨ys', hst⟩ := HST.out
      rw [HLK.out, ← HTK.out] at hst
      unfold fou at hst
      go_roundw
      case rel => exact ⟨k + 1, ys', _, by omega, by go_num, Lib.hid hst⟩
      case measure => simp [intOf]; omega
    · have HE := Lib.hid (show l.take k = l from List.take_of_length_le (by rw [← HM.out]; omega))
      have hp := HP.out
      rw [HE.out] at hp
      have HP2 := Lib.hid hp
      clear hp
      go_wp2_with fail
      go_ret
      obtain ⟨bs', h1, h2⟩ := HP2.out.done HM.out.symm (by omega)
      exact ⟨_, bs', rfl, h1, h2, HP2.out.low⟩

end Go.Proofs.Ytegigjnlecpplaa
