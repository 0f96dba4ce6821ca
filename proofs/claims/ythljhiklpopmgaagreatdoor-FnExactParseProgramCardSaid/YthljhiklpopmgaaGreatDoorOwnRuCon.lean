/- A part of the proof of the seat's statement: OwnRuCon. Condition: as each says. -/
import Derived.Test.YthljhiklpopmgaaGreatDoorRuNames
import Derived.Test.YthljhiklpopmgaaGreatDoorCopyStr
import Derived.Test.YthljhiklpopmgaaGreatDoorSpecRead
import Derived.Test.YthljhiklpopmgaaGreatDoorExSz
import Derived.WalkSpells
import Derived.WalkLawsBesides
import Derived.Deep.QuietTactic
import Derived.BigQuiet
import Derived.Deep.RegionHeld3
import Derived.Test.YthljhiklpopmgaaGreatDoorKids
import Derived.Test.YthljhiklpopmgaaGreatDoorOwnsL
import Derived.Test.YthljhiklpopmgaaGreatDoorRuFits
set_option maxHeartbeats 8000000
namespace Go.Proofs.YthljhiklpopmgaaGreatDoor
open Go Go.RowKit
section
variable {W W2 : World} {B : Nat} {T : TypeId} {x0 x1 x2 x3 x4 x5 x6 : Value}
theorem Box7.keep {S : List Nat} (h : Box7 W B T x0 x1 x2 x3 x4 x5 x6) (hf : Fr S W W2) (hS : B ∉ S) : Box7 W2 B T x0 x1 x2 x3 x4 x5 x6 := (hf.block B h.lt hS).trans h
theorem Box7.set0 (v : Value) (h : Box7 W B T x0 x1 x2 x3 x4 x5 x6) : Box7 (W.setCell ⟨B, 0, none⟩ v) B T v x1 x2 x3 x4 x5 x6 := by
 unfold Box7 at h ⊢
 simp [World.setCell, Array.getElem?_modify, h]
theorem Box7.set1 (v : Value) (h : Box7 W B T x0 x1 x2 x3 x4 x5 x6) : Box7 (W.setCell ⟨B, 1, none⟩ v) B T x0 v x2 x3 x4 x5 x6 := by
 unfold Box7 at h ⊢
 simp [World.setCell, Array.getElem?_modify, h]
theorem Box7.set2 (v : Value) (h : Box7 W B T x0 x1 x2 x3 x4 x5 x6) : Box7 (W.setCell ⟨B, 2, none⟩ v) B T x0 x1 v x3 x4 x5 x6 := by
 unfold Box7 at h ⊢
 simp [World.setCell, Array.getElem?_modify, h]
theorem Box7.set3 (v : Value) (h : Box7 W B T x0 x1 x2 x3 x4 x5 x6) : Box7 (W.setCell ⟨B, 3, none⟩ v) B T x0 x1 x2 v x4 x5 x6 := by
 unfold Box7 at h ⊢
 simp [World.setCell, Array.getElem?_modify, h]
theorem Box7.set4 (v : Value) (h : Box7 W B T x0 x1 x2 x3 x4 x5 x6) : Box7 (W.setCell ⟨B, 4, none⟩ v) B T x0 x1 x2 x3 v x5 x6 := by
 unfold Box7 at h ⊢
 simp [World.setCell, Array.getElem?_modify, h]
theorem Box7.set5 (v : Value) (h : Box7 W B T x0 x1 x2 x3 x4 x5 x6) : Box7 (W.setCell ⟨B, 5, none⟩ v) B T x0 x1 x2 x3 x4 v x6 := by
 unfold Box7 at h ⊢
 simp [World.setCell, Array.getElem?_modify, h]
theorem Box7.set6 (v : Value) (h : Box7 W B T x0 x1 x2 x3 x4 x5 x6) : Box7 (W.setCell ⟨B, 6, none⟩ v) B T x0 x1 x2 x3 x4 x5 v := by
 unfold Box7 at h ⊢
 simp [World.setCell, Array.getElem?_modify, h]
end
def sev (W : World) (B o : Nat) (x0 x1 x2 x3 x4 x5 x6 : Value) : World :=
 ((((((W.setCell ⟨B, o, none⟩ x0).setCell ⟨B, o + 1, none⟩ x1).setCell ⟨B, o + 2, none⟩ x2).setCell ⟨B, o + 3, none⟩ x3).setCell ⟨B, o + 4, none⟩ x4).setCell ⟨B, o + 5, none⟩ x5).setCell ⟨B, o + 6, none⟩ x6
theorem sev_fr (W : World) (B o : Nat) (x0 x1 x2 x3 x4 x5 x6 : Value) : Fr [B] W (sev W B o x0 x1 x2 x3 x4 x5 x6) := by
 have one : ∀ (V : World) (j : Nat) (v : Value), Fr [B] V (V.setCell ⟨B, j, none⟩ v) := fun V j v => Fr.set (S := [B]) V ⟨B, j, none⟩ v (by simp)
 have more : ∀ {V V2 : World} (j : Nat) (v : Value), Fr [B] V V2 → Fr [B] V (V2.setCell ⟨B, j, none⟩ v) := fun j v h => h.trans (one _ j v) (fun x hx => Or.inl hx)
 exact more _ _ (more _ _ (more _ _ (more _ _ (more _ _ (more _ _ (one W o x0))))))
theorem sev_box {W : World} {B : Nat} {T : TypeId} {y0 y1 y2 y3 y4 y5 y6 : Value} (h : Box7 W B T y0 y1 y2 y3 y4 y5 y6) (x0 x1 x2 x3 x4 x5 x6 : Value) : Box7 (sev W B 0 x0 x1 x2 x3 x4 x5 x6) B T x0 x1 x2 x3 x4 x5 x6 :=
 ((((((h.set0 x0).set1 x1).set2 x2).set3 x3).set4 x4).set5 x5).set6 x6
theorem fr_keeps {S bs : List Nat} {W W2 : World} (h : Fr S W W2) (hd : ∀ x ∈ bs, x ∉ S) : Keeps W W2 bs := ⟨h.size, fun x hx hlt => h.block x hlt (hd x hx)⟩
theorem Tryz.infoRu : (Tryz.prog.info? 36).map (fun i => (i.zero, i.size, i.bytes)) = some (some (.agg #[.string ⟨#[]⟩, .string ⟨#[]⟩, .slice none 0 0, .slice none 0 0, .int .i64 0, .string ⟨#[]⟩, .slice none 0 0]), 7, 128) := by kernel_rfl
def EqEnd (w : World) (e : Ending) (w' : World) : Prop := e = .returned (.bool true) ∧ Below w.heap.size w w'
theorem eq_ex (n : Nat) (ih : ∀ (l : List Ex) (v v' : Value) (bs bs' : List Nat) (w : World), exSizes l ≤ n → SlIs w v l bs → SlIs w v' l bs' → Calls Tryz.prog 91 #[v, v'] w (EqEnd w))
 (e : Ex) (v v' : Value) (bs bs' : List Nat) (w : World) (hle : exSize e ≤ n + 1) (hv : ExIs w v e bs) (hv' : ExIs w v' e bs') :
 Calls Tryz.prog 57 #[v, v'] w (EqEnd w) := by
 obtain ⟨u, rfl, -, hu⟩ := hv
 obtain ⟨u', rfl, -, hu'⟩ := hv'
 have HC := zH (fun (W : World) (hb : Below w.heap.size w W) => ih e.args u u' bs bs' W (by cases e; rw [exSize] at hle; exact Nat.le_of_succ_le_succ hle) (hu.below hb) (hu'.below hb))
 clear ih hle hu hu'
 generalize e.kind = K at *
 generalize e.name = S at *
 go_enter Tryz.func57, Tryz.ntmps57
 go_wp2_with (go_at_call 91; refine (HC.out _ (((Below.refl w.heap.size w).alloc (Nat.le_refl _) _).alloc (by simp) _)).mono ?_; rintro r w1 ⟨rfl, hb1⟩; have HB1 := zH ((((Below.refl w.heap.size w).alloc (Nat.le_refl _) _).alloc (by simp) _).trans (hb1.mono (by simp; omega))); clear hb1)
 go_ret
 exact ⟨rfl, HB1.out⟩
theorem six_start {wr : World} {g o h p k : Nat} {K : Int} {S : ByteArray} {u u' : Value} (c1 : wr.cell? ⟨g, o + k * 3, none⟩ = some (.int .i64 K)) (c2 : wr.cell? ⟨g, o + k * 3 + 1, none⟩ = some (.string S)) (c3 : wr.cell? ⟨g, o + k * 3 + 2, none⟩ = some u)
 (c4 : wr.cell? ⟨h, p + k * 3, none⟩ = some (.int .i64 K)) (c5 : wr.cell? ⟨h, p + k * 3 + 1, none⟩ = some (.string S)) (c6 : wr.cell? ⟨h, p + k * 3 + 2, none⟩ = some u') :
 wr.drew.cell? ⟨g, o + k * 3, none⟩ = some (.int .i64 K) ∧ wr.drew.cell? ⟨g, o + k * 3 + 1, none⟩ = some (.string S) ∧ wr.drew.cell? ⟨g, o + k * 3 + 2, none⟩ = some u ∧
 wr.drew.cell? ⟨h, p + k * 3, none⟩ = some (.int .i64 K) ∧ wr.drew.cell? ⟨h, p + k * 3 + 1, none⟩ = some (.string S) ∧ wr.drew.cell? ⟨h, p + k * 3 + 2, none⟩ = some u' ∧ Hid (Below wr.heap.size wr wr.drew) :=
 ⟨c1, c2, c3, c4, c5, c6, zH (Below.refl _ _).drew⟩
theorem six_step {wr X w2 : World} {g o h p k : Nat} {K : Int} {S : ByteArray} {u u' : Value} (hg : g < wr.heap.size) (hh : h < wr.heap.size) (hb : Below X.heap.size X w2)
 (hX : X.cell? ⟨g, o + k * 3, none⟩ = some (.int .i64 K) ∧ X.cell? ⟨g, o + k * 3 + 1, none⟩ = some (.string S) ∧ X.cell? ⟨g, o + k * 3 + 2, none⟩ = some u ∧
  X.cell? ⟨h, p + k * 3, none⟩ = some (.int .i64 K) ∧ X.cell? ⟨h, p + k * 3 + 1, none⟩ = some (.string S) ∧ X.cell? ⟨h, p + k * 3 + 2, none⟩ = some u' ∧ Hid (Below wr.heap.size wr X)) :
 w2.cell? ⟨g, o + k * 3, none⟩ = some (.int .i64 K) ∧ w2.cell? ⟨g, o + k * 3 + 1, none⟩ = some (.string S) ∧ w2.cell? ⟨g, o + k * 3 + 2, none⟩ = some u ∧
 w2.cell? ⟨h, p + k * 3, none⟩ = some (.int .i64 K) ∧ w2.cell? ⟨h, p + k * 3 + 1, none⟩ = some (.string S) ∧ w2.cell? ⟨h, p + k * 3 + 2, none⟩ = some u' ∧ Hid (Below wr.heap.size wr w2) := by
 obtain ⟨c1, c2, c3, c4, c5, c6, HB⟩ := hX
 have hs := HB.out.size
 have a : ∀ m, w2.cell? ⟨g, m, none⟩ = X.cell? ⟨g, m, none⟩ := fun m => hb.cell (p := ⟨g, m, none⟩) (Nat.lt_of_lt_of_le hg hs)
 have b : ∀ m, w2.cell? ⟨h, m, none⟩ = X.cell? ⟨h, m, none⟩ := fun m => hb.cell (p := ⟨h, m, none⟩) (Nat.lt_of_lt_of_le hh hs)
 exact ⟨(a _).trans c1, (a _).trans c2, (a _).trans c3, (b _).trans c4, (b _).trans c5, (b _).trans c6, zH (HB.out.trans (hb.mono hs))⟩
theorem eq_exs (n : Nat) (ih : ∀ (e : Ex) (v v' : Value) (bs bs' : List Nat) (w : World), exSize e ≤ n → ExIs w v e bs → ExIs w v' e bs' → Calls Tryz.prog 57 #[v, v'] w (EqEnd w))
 (l : List Ex) (v v' : Value) (bs bs' : List Nat) (w : World) (hle : exSizes l ≤ n) (hv : SlIs w v l bs) (hv' : SlIs w v' l bs') :
 Calls Tryz.prog 91 #[v, v'] w (EqEnd w) := by
 obtain ⟨A, c, rfl, hc1, hc2, -⟩ := id hv
 obtain ⟨A', c', rfl, hc1', hc2', -⟩ := id hv'
 have HU := zH hv
 have HV := zH hv'
 obtain ⟨m, hm⟩ : ∃ m, m = l.length := ⟨_, rfl⟩
 rw [← hm] at hc1 hc1' HU HV ⊢
 have HM := zH hm
 have HIH := zH ih
 have HN := zH hle
 clear hm hv hv' ih hle
 go_enter Tryz.func91, Tryz.ntmps91
 go_wp2_with fail
 go_loopw [5] (fun i wr => ∃ (k : Nat), k ≤ m ∧ i = .int .i64 (k : Int) ∧ Hid (Below w.heap.size w wr)) (fun i _ => m - (intOf i).toNat)
 case atStart => exact ⟨0, Nat.zero_le _, rfl, zH (Below.refl _ _)⟩
 case round =>
  obtain ⟨k, hk, rfl, HB⟩ := hrel
  by_cases hlt : k < m
  · obtain ⟨g, o, e1, u, b1, rfl, hbl, hget, hmem, c1, c2, c3, his, -⟩ := (HU.out.below HB.out).get k (by rw [← HM.out]; exact hlt)
    obtain ⟨h, p, e2, u', b2, rfl, hbl', hget', -, c4, c5, c6, his', -⟩ := (HV.out.below HB.out).get k (by rw [← HM.out]; exact hlt)
    obtain rfl : e1 = e2 := Option.some.inj (hget.symm.trans hget')
    have HCALL := zH (fun (W : World) (hb : Hid (Below wr.heap.size wr W)) => HIH.out e1 _ _ b1 b2 W (by have := exSizes_mem hmem; have := HN.out; omega) (his.below hb.out) (his'.below hb.out))
    clear his his' hget hget' hmem
    have hk0 : 0 ≤ (k : Int) := by omega
    have hkm : (k : Int) < (m : Int) := by omega
    generalize e1.kind = K at *
    generalize e1.name = S at *
    have HDR := zH (Below.drew (Below.refl wr.heap.size wr))
    go_wp2_with fail
    go_region_held3 (fun w' => w'.cell? ⟨g, o + k * 3, none⟩ = some (.int .i64 K) ∧ w'.cell? ⟨g, o + k * 3 + 1, none⟩ = some (.string S) ∧ w'.cell? ⟨g, o + k * 3 + 2, none⟩ = some u ∧
     w'.cell? ⟨h, p + k * 3, none⟩ = some (.int .i64 K) ∧ w'.cell? ⟨h, p + k * 3 + 1, none⟩ = some (.string S) ∧ w'.cell? ⟨h, p + k * 3 + 2, none⟩ = some u' ∧ Hid (Below wr.heap.size wr w'))
     (first | exact six_start c1 c2 c3 c4 c5 c6 | exact six_step hbl hbl' hb2 (by assumption))
     (first | (go_at_call 57; refine (HCALL.out _ (by assumption)).mono ?_; rintro e w2 ⟨rfl, hb2⟩))
    all_goals
     have hx := ‹_ ∧ _ ∧ _ ∧ _ ∧ _ ∧ _ ∧ Hid (Below wr.heap.size wr w2)›
     have HX := zH (HB.out.trans (hx.2.2.2.2.2.2.out.mono HB.out.size))
     clear hx
     go_wp2_with fail
     go_roundw
     case rel => exact ⟨k + 1, by omega, by go_num, HX⟩
     case measure => simp [intOf]; omega
  go_wp2_with fail
  go_ret
  exact ⟨rfl, HB.out⟩
theorem eq_both (n : Nat) : (∀ (e : Ex) (v v' : Value) (bs bs' : List Nat) (w : World), exSize e ≤ n → ExIs w v e bs → ExIs w v' e bs' → Calls Tryz.prog 57 #[v, v'] w (EqEnd w)) ∧
 (∀ (l : List Ex) (v v' : Value) (bs bs' : List Nat) (w : World), exSizes l ≤ n → SlIs w v l bs → SlIs w v' l bs' → Calls Tryz.prog 91 #[v, v'] w (EqEnd w)) := by
 induction n with
 | zero =>
  have hE : ∀ (e : Ex) (v v' : Value) (bs bs' : List Nat) (w : World), exSize e ≤ 0 → ExIs w v e bs → ExIs w v' e bs' → Calls Tryz.prog 57 #[v, v'] w (EqEnd w) := fun e v v' bs bs' w h => by have := exSize_pos e; omega
  exact ⟨hE, fun l v v' bs bs' w h1 h2 h3 => eq_exs 0 hE l v v' bs bs' w h1 h2 h3⟩
 | succ n ih =>
  have hE : ∀ (e : Ex) (v v' : Value) (bs bs' : List Nat) (w : World), exSize e ≤ n + 1 → ExIs w v e bs → ExIs w v' e bs' → Calls Tryz.prog 57 #[v, v'] w (EqEnd w) := fun e v v' bs bs' w h1 h2 h3 => eq_ex n ih.2 e v v' bs bs' w h1 h2 h3
  exact ⟨hE, fun l v v' bs bs' w h1 h2 h3 => eq_exs (n + 1) hE l v v' bs bs' w h1 h2 h3⟩
theorem eq_expr (e : Ex) (v v' : Value) (bs bs' : List Nat) (w : World) (h : ExIs w v e bs) (h' : ExIs w v' e bs') : Calls Tryz.prog 57 #[v, v'] w (EqEnd w) :=
 (eq_both (exSize e)).1 e v v' bs bs' w (Nat.le_refl _) h h'
theorem eq_strs (xs : List ByteArray) (v v' : Value) (bs bs' : List Nat) (w : World) (h : SsIs w v xs bs) (h' : SsIs w v' xs bs') (hn : xs.length ≤ 140737488355328) : Calls Tryz.prog 56 #[v, v'] w (EqEnd w) := by
 obtain ⟨A, c, rfl⟩ := h.slice
 obtain ⟨A', c', rfl⟩ := h'.slice
 refine (eq_same A A' xs c c' w h.strs.2.2.2.1 h'.strs.2.2.2.1 hn).mono ?_
 rintro e w' ⟨rfl, q, rfl⟩
 exact ⟨rfl, rfl, rfl, rfl, Nat.le_refl _, fun _ _ => rfl⟩
set_option maxRecDepth 100000 in
theorem eq_rule (r : Ru) (v v' : Value) (bs bs' : List Nat) (w : World) (hv : RuIs w v r bs) (hv' : RuIs w v' r bs') (hn1 : r.vars.length ≤ 140737488355328) (hn2 : r.params.length ≤ 140737488355328) :
 Calls Tryz.prog 30 #[v, v'] w (EqEnd w) := by
 obtain ⟨v1, v2, u, b1, b2, b3, rfl, -, -, -, h1, h2, h3⟩ := hv
 obtain ⟨z1, z2, y, e1, e2, e3, rfl, -, -, -, g1, g2, g3⟩ := hv'
 have H1 := zH (fun (W : World) (hb : Below w.heap.size w W) => eq_strs r.vars v1 z1 b1 e1 W (h1.below hb) (g1.below hb) hn1)
 have H2 := zH (fun (W : World) (hb : Below w.heap.size w W) => eq_strs r.params v2 z2 b2 e2 W (h2.below hb) (g2.below hb) hn2)
 have H3 := zH (fun (W : World) (hb : Below w.heap.size w W) => eq_expr r.body _ _ b3 e3 W (h3.below hb) (g3.below hb))
 clear h1 h2 h3 g1 g2 g3 hn1 hn2
 generalize r.name = N at *
 generalize r.con = C at *
 generalize r.body.kind = K at *
 generalize r.body.name = S at *
 have HBX := zH (fun (W : World) (h : Below ((w.alloc (.cells #[.string N, .string C, v1, v2, .int .i64 K, .string S, u] 36)).alloc (.cells #[.string N, .string C, z1, z2, .int .i64 K, .string S, y] 36)).heap.size ((w.alloc (.cells #[.string N, .string C, v1, v2, .int .i64 K, .string S, u] 36)).alloc (.cells #[.string N, .string C, z1, z2, .int .i64 K, .string S, y] 36)) W) =>
  show Box7 W w.heap.size 36 (.string N) (.string C) v1 v2 (.int .i64 K) (.string S) u ∧ Box7 W (w.heap.size + 1) 36 (.string N) (.string C) z1 z2 (.int .i64 K) (.string S) y ∧ Below w.heap.size w W by
   have h2 := box_low h
   refine ⟨box7_new h2, ?_, box_low h2⟩
   have h3 := box7_new h
   simp only [World.size_alloc] at h3
   exact h3)
 go_enter Tryz.func30, Tryz.ntmps30
 go_wp2_with fail
 go_at_call 56
 have HB0 := zH (((Below.refl w.heap.size w).alloc (Nat.le_refl _) (.cells #[.string N, .string C, v1, v2, .int .i64 K, .string S, u] 36)).alloc (by simp) (.cells #[.string N, .string C, z1, z2, .int .i64 K, .string S, y] 36))
 refine (H1.out _ HB0.out).mono ?_
 rintro e x1 ⟨rfl, hb1⟩
 have HB1 := zH hb1
 obtain ⟨p1, p2, p3⟩ := HBX.out x1 hb1
 obtain ⟨-, -, -, a3, a4, a5, a6⟩ := p1.cells
 obtain ⟨-, -, -, b3, b4, b5, b6⟩ := p2.cells
 have HL1 := zH p3
 clear hb1 p1 p2 p3
 go_wp2_with fail
 go_at_call 56
 refine (H2.out _ HL1.out).mono ?_
 rintro e x2 ⟨rfl, hb2⟩
 have HB2 := zH (HB1.out.trans (hb2.mono HB1.out.size))
 obtain ⟨p1, p2, p3⟩ := HBX.out x2 HB2.out
 obtain ⟨-, -, -, -, a4', a5', a6'⟩ := p1.cells
 obtain ⟨-, -, -, -, b4', b5', b6'⟩ := p2.cells
 have HL2 := zH p3
 clear hb2 p1 p2 p3
 go_wp2_with fail
 go_at_call 57
 refine (H3.out _ HL2.out).mono ?_
 rintro e x3 ⟨rfl, hb3⟩
 have HL3 := zH (HL2.out.trans (hb3.mono HL2.out.size))
 clear hb3
 go_wp2_with fail
 go_ret
 exact ⟨rfl, HL3.out⟩
theorem two7_start {wr : World} {g o h p k : Nat} {x0 x1 x2 x3 x4 x5 x6 y0 y1 y2 y3 y4 y5 y6 : Value} (c : Cells7 wr g (o + k * 7) x0 x1 x2 x3 x4 x5 x6) (d : Cells7 wr h (p + k * 7) y0 y1 y2 y3 y4 y5 y6) :
 wr.drew.cell? ⟨g, o + k * 7, none⟩ = some x0 ∧ wr.drew.cell? ⟨g, o + k * 7 + 1, none⟩ = some x1 ∧ wr.drew.cell? ⟨g, o + k * 7 + 2, none⟩ = some x2 ∧ wr.drew.cell? ⟨g, o + k * 7 + 3, none⟩ = some x3 ∧ wr.drew.cell? ⟨g, o + k * 7 + 4, none⟩ = some x4 ∧ wr.drew.cell? ⟨g, o + k * 7 + 5, none⟩ = some x5 ∧ wr.drew.cell? ⟨g, o + k * 7 + 6, none⟩ = some x6 ∧ wr.drew.cell? ⟨h, p + k * 7, none⟩ = some y0 ∧ wr.drew.cell? ⟨h, p + k * 7 + 1, none⟩ = some y1 ∧ wr.drew.cell? ⟨h, p + k * 7 + 2, none⟩ = some y2 ∧ wr.drew.cell? ⟨h, p + k * 7 + 3, none⟩ = some y3 ∧ wr.drew.cell? ⟨h, p + k * 7 + 4, none⟩ = some y4 ∧ wr.drew.cell? ⟨h, p + k * 7 + 5, none⟩ = some y5 ∧ wr.drew.cell? ⟨h, p + k * 7 + 6, none⟩ = some y6 ∧ Hid (Below wr.heap.size wr wr.drew) :=
 ⟨c.c0, c.c1, c.c2, c.c3, c.c4, c.c5, c.c6, d.c0, d.c1, d.c2, d.c3, d.c4, d.c5, d.c6, zH (Below.refl _ _).drew⟩
theorem two7_step {wr X w2 : World} {g o h p k : Nat} {x0 x1 x2 x3 x4 x5 x6 y0 y1 y2 y3 y4 y5 y6 : Value} (hg : g < wr.heap.size) (hh : h < wr.heap.size) (hb : Below X.heap.size X w2) (hX : X.cell? ⟨g, o + k * 7, none⟩ = some x0 ∧ X.cell? ⟨g, o + k * 7 + 1, none⟩ = some x1 ∧ X.cell? ⟨g, o + k * 7 + 2, none⟩ = some x2 ∧ X.cell? ⟨g, o + k * 7 + 3, none⟩ = some x3 ∧ X.cell? ⟨g, o + k * 7 + 4, none⟩ = some x4 ∧ X.cell? ⟨g, o + k * 7 + 5, none⟩ = some x5 ∧ X.cell? ⟨g, o + k * 7 + 6, none⟩ = some x6 ∧ X.cell? ⟨h, p + k * 7, none⟩ = some y0 ∧ X.cell? ⟨h, p + k * 7 + 1, none⟩ = some y1 ∧ X.cell? ⟨h, p + k * 7 + 2, none⟩ = some y2 ∧ X.cell? ⟨h, p + k * 7 + 3, none⟩ = some y3 ∧ X.cell? ⟨h, p + k * 7 + 4, none⟩ = some y4 ∧ X.cell? ⟨h, p + k * 7 + 5, none⟩ = some y5 ∧ X.cell? ⟨h, p + k * 7 + 6, none⟩ = some y6 ∧ Hid (Below wr.heap.size wr X)) :
 w2.cell? ⟨g, o + k * 7, none⟩ = some x0 ∧ w2.cell? ⟨g, o + k * 7 + 1, none⟩ = some x1 ∧ w2.cell? ⟨g, o + k * 7 + 2, none⟩ = some x2 ∧ w2.cell? ⟨g, o + k * 7 + 3, none⟩ = some x3 ∧ w2.cell? ⟨g, o + k * 7 + 4, none⟩ = some x4 ∧ w2.cell? ⟨g, o + k * 7 + 5, none⟩ = some x5 ∧ w2.cell? ⟨g, o + k * 7 + 6, none⟩ = some x6 ∧ w2.cell? ⟨h, p + k * 7, none⟩ = some y0 ∧ w2.cell? ⟨h, p + k * 7 + 1, none⟩ = some y1 ∧ w2.cell? ⟨h, p + k * 7 + 2, none⟩ = some y2 ∧ w2.cell? ⟨h, p + k * 7 + 3, none⟩ = some y3 ∧ w2.cell? ⟨h, p + k * 7 + 4, none⟩ = some y4 ∧ w2.cell? ⟨h, p + k * 7 + 5, none⟩ = some y5 ∧ w2.cell? ⟨h, p + k * 7 + 6, none⟩ = some y6 ∧ Hid (Below wr.heap.size wr w2) := by
 obtain ⟨c0, c1, c2, c3, c4, c5, c6, d0, d1, d2, d3, d4, d5, d6, HB⟩ := hX
 have hs := HB.out.size
 have a : ∀ m, w2.cell? ⟨g, m, none⟩ = X.cell? ⟨g, m, none⟩ := fun m => hb.cell (p := ⟨g, m, none⟩) (Nat.lt_of_lt_of_le hg hs)
 have b : ∀ m, w2.cell? ⟨h, m, none⟩ = X.cell? ⟨h, m, none⟩ := fun m => hb.cell (p := ⟨h, m, none⟩) (Nat.lt_of_lt_of_le hh hs)
 exact ⟨(a _).trans c0, (a _).trans c1, (a _).trans c2, (a _).trans c3, (a _).trans c4, (a _).trans c5, (a _).trans c6, (b _).trans d0, (b _).trans d1, (b _).trans d2, (b _).trans d3, (b _).trans d4, (b _).trans d5, (b _).trans d6, zH (HB.out.trans (hb.mono hs))⟩
set_option maxRecDepth 100000 in
theorem eq_rules (l : List Ru) (v v' : Value) (bs bs' : List Nat) (w : World) (hv : RsIs w v l bs) (hv' : RsIs w v' l bs') (hb : ∀ r ∈ l, ruTot r ≤ 1048576) :
 Calls Tryz.prog 14 #[v, v'] w (EqEnd w) := by
 obtain ⟨A, c, rfl, hc1, hc2, -⟩ := id hv
 obtain ⟨A', c', rfl, hc1', hc2', -⟩ := id hv'
 have HU := zH hv
 have HV := zH hv'
 obtain ⟨m, hm⟩ : ∃ m, m = l.length := ⟨_, rfl⟩
 rw [← hm] at hc1 hc1' HU HV ⊢
 have HM := zH hm
 have HBD := zH hb
 clear hm hv hv' hb
 go_enter Tryz.func14, Tryz.ntmps14
 go_wp2_with fail
 go_loopw [5] (fun i wr => ∃ (k : Nat), k ≤ m ∧ i = .int .i64 (k : Int) ∧ Hid (Below w.heap.size w wr)) (fun i _ => m - (intOf i).toNat)
 case atStart => exact ⟨0, Nat.zero_le _, rfl, zH (Below.refl _ _)⟩
 case round =>
  obtain ⟨k, hk, rfl, HB⟩ := hrel
  by_cases hlt : k < m
  · obtain ⟨g, o, r, v1, v2, u, b1, hA⟩ := (HU.out.below HB.out).get k (by rw [← HM.out]; exact hlt)
    obtain ⟨h, p, r2, z1, z2, y, b2, hA2⟩ := (HV.out.below HB.out).get k (by rw [← HM.out]; exact hlt)
    obtain rfl := hA.eq
    obtain rfl := hA2.eq
    obtain rfl : r = r2 := Option.some.inj (hA.get.symm.trans hA2.get)
    have HCALL := zH (fun (W : World) (hb : Hid (Below wr.heap.size wr W)) => eq_rule r _ _ b1 b2 W (hA.is.below hb.out) (hA2.is.below hb.out) (by have := HBD.out r hA.mem; unfold ruTot ssTot at this; omega) (by have := HBD.out r hA.mem; unfold ruTot ssTot at this; omega))
    have HC1 := zH hA.cells
    have HC2 := zH hA2.cells
    have hbl := hA.lt
    have hbl' := hA2.lt
    clear hA hA2
    have hk0 : 0 ≤ (k : Int) := by omega
    have hkm : (k : Int) < (m : Int) := by omega
    generalize r.name = N at *
    generalize r.con = C at *
    generalize r.body.kind = K at *
    generalize r.body.name = S at *
    have HDR := zH (Below.drew (Below.refl wr.heap.size wr))
    go_wp2_with fail
    go_region_held3 (fun W => W.cell? ⟨g, o + k * 7, none⟩ = some (.string N) ∧ W.cell? ⟨g, o + k * 7 + 1, none⟩ = some (.string C) ∧ W.cell? ⟨g, o + k * 7 + 2, none⟩ = some v1 ∧ W.cell? ⟨g, o + k * 7 + 3, none⟩ = some v2 ∧ W.cell? ⟨g, o + k * 7 + 4, none⟩ = some (.int .i64 K) ∧ W.cell? ⟨g, o + k * 7 + 5, none⟩ = some (.string S) ∧ W.cell? ⟨g, o + k * 7 + 6, none⟩ = some u ∧ W.cell? ⟨h, p + k * 7, none⟩ = some (.string N) ∧ W.cell? ⟨h, p + k * 7 + 1, none⟩ = some (.string C) ∧ W.cell? ⟨h, p + k * 7 + 2, none⟩ = some z1 ∧ W.cell? ⟨h, p + k * 7 + 3, none⟩ = some z2 ∧ W.cell? ⟨h, p + k * 7 + 4, none⟩ = some (.int .i64 K) ∧ W.cell? ⟨h, p + k * 7 + 5, none⟩ = some (.string S) ∧ W.cell? ⟨h, p + k * 7 + 6, none⟩ = some y ∧ Hid (Below wr.heap.size wr W))
     (first | exact two7_start HC1.out HC2.out | exact two7_step hbl hbl' hb2 (by assumption))
     (first | (go_at_call 30; refine (HCALL.out _ (‹_ ∧ _ ∧ _ ∧ _ ∧ _ ∧ _ ∧ _ ∧ _ ∧ _ ∧ _ ∧ _ ∧ _ ∧ _ ∧ _ ∧ Hid (Below wr.heap.size wr _)›).2.2.2.2.2.2.2.2.2.2.2.2.2.2).mono ?_; rintro e w2 ⟨rfl, hb2⟩))
    all_goals
     have hx := ‹_ ∧ _ ∧ _ ∧ _ ∧ _ ∧ _ ∧ _ ∧ _ ∧ _ ∧ _ ∧ _ ∧ _ ∧ _ ∧ _ ∧ Hid (Below wr.heap.size wr w2)›
     have HX := zH (HB.out.trans (hx.2.2.2.2.2.2.2.2.2.2.2.2.2.2.out.mono HB.out.size))
     clear hx
     go_wp2_with fail
     go_roundw
     case rel => exact ⟨k + 1, by omega, by go_num, HX⟩
     case measure => simp [intOf]; omega
  go_wp2_with fail
  go_ret
  exact ⟨rfl, HB.out⟩
theorem eq_prog (l : List Ru) (v v' : Value) (bs bs' : List Nat) (w : World) (hv : PrIs w v l bs) (hv' : PrIs w v' l bs') (hb : rusTot l ≤ 1048576) :
 Calls Tryz.prog 6 #[v, v'] w (EqEnd w) := by
 obtain ⟨u, rfl, hu⟩ := hv
 obtain ⟨u', rfl, hu'⟩ := hv'
 have HC := zH (fun (W : World) (hb2 : Below w.heap.size w W) => eq_rules l u u' bs bs' W (hu.below hb2) (hu'.below hb2) (fun r hr => by have := rusTot_mem hr; omega))
 clear hu hu'
 go_enter Tryz.func6, Tryz.ntmps6
 go_wp2_with (go_at_call 14; refine (HC.out _ (((Below.refl w.heap.size w).alloc (Nat.le_refl _) _).alloc (by simp) _)).mono ?_; rintro r w1 ⟨rfl, hb1⟩; have HB1 := zH (box_low (box_low hb1)); clear hb1)
 go_ret
 exact ⟨rfl, HB1.out⟩
def TrueX (w : World) (e : Ending) (w' : World) : Prop := e = .returned (.bool true) ∧ Below w.heap.size w w'
def Thawed (W : World) (bs : List Nat) : Prop := ∀ x ∈ bs, x < W.heap.size ∧ ∀ o, W.frozen? ⟨x, o, none⟩ = false
theorem Thawed.below {W W2 : World} {bs : List Nat} (h : Thawed W bs) (hb : Below W.heap.size W W2) : Thawed W2 bs := fun x hx => ⟨Nat.lt_of_lt_of_le (h x hx).1 hb.size, fun o => (hb.frozen (p := ⟨x, o, none⟩) (h x hx).1).trans ((h x hx).2 o)⟩
theorem mine_thawed {W : World} {B : Nat} {b2 : List Nat} (h2 : Mine W B b2) : Thawed W b2 := fun x h => ⟨(h2.range x h).2, h2.free x h⟩
end Go.Proofs.YthljhiklpopmgaaGreatDoor
namespace Go.Proofs.YthljhiklpopmgaaGreatDoor
open Go Go.RowKit Go.Shelf
attribute [local go_sem] Oper.semAt_some
def consFun (b : Nat) : Value := .func (.func 141) #[] #[.pointer (some ⟨b, 0, none⟩)]
theorem constructors_in (F : Fence) (n : Nat) (hF : ∀ k, F.fn k) (hro : F.round = none) (A : Option Addr) (m c : Nat) (w : World) :
 CallsIn F n Tryz.prog 117 #[.agg #[.slice A m c]] w fun e w2 => e = .returned (consFun w.heap.size) ∧ w2 = w.alloc (.cells #[.slice A m c] 24) := by
 refine callsIn_of_wp Tryz.func117 rfl (hF _) ?_ hro
 simp only [Tryz.ntmps117, List.size_toArray, List.length_cons, List.length_nil, Nat.reduceAdd, Nat.reduceSub, Array.replicate_succ, Array.replicate_zero, List.push_toArray, List.append_toArray, List.nil_append, List.cons_append]
 gi_wp2
 go_ret
 exact ⟨rfl, rfl⟩
end Go.Proofs.YthljhiklpopmgaaGreatDoor
