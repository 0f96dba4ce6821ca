/- The contract of the laws' comparison of two equal expressions. Condition: both lie in memory. -/
import Derived.Test.YtegigjnlecpplaaEx
import Derived.WalkSpells
import Derived.WalkLawsBesides
import Derived.Deep.QuietTactic
import Derived.BigQuiet
import Derived.Deep.RegionHeld3
namespace Go.Proofs.Ytegigjnlecpplaa
open Go Go.RowKit

def EqEnd (w : World) (e : Ending) (w' : World) : Prop := e = .returned (.bool true) ∧ Below w.heap.size w w'

set_option maxHeartbeats 1000000 in
theorem eq_ex (n : Nat) (ih : ∀ (l : List Ex) (v v' : Value) (bs bs' : List Nat) (w : World), exSizes l ≤ n → SlIs w v l bs → SlIs w v' l bs' → Calls Try.prog 64 #[v, v'] w (EqEnd w))
    (e : Ex) (v v' : Value) (bs bs' : List Nat) (w : World) (hle : exSize e ≤ n + 1) (hv : ExIs w v e bs) (hv' : ExIs w v' e bs') :
    Calls Try.prog 28 #[v, v'] w (EqEnd w) := by
  obtain ⟨u, rfl, -, hu⟩ := hv
  obtain ⟨u', rfl, -, hu'⟩ := hv'
  have HC := Lib.hid (fun (W : World) (hb : Below w.heap.size w W) => ih e.args u u' bs bs' W (by cases e; rw [exSize] at hle; exact Nat.le_of_succ_le_succ hle) (hu.below hb) (hu'.below hb))
  clear ih hle hu hu'
  generalize e.kind = K at *
  generalize e.name = S at *
  go_enter Try.func28, Try.ntmps28
  go_wp2_with (go_at_call 64; refine (HC.out _ (((Below.refl w.heap.size w).alloc (Nat.le_refl _) _).alloc (by simp) _)).mono ?_; rintro r w1 ⟨rfl, hb1⟩; have HB1 := Lib.hid ((((Below.refl w.heap.size w).alloc (Nat.le_refl _) _).alloc (by simp) _).trans (hb1.mono (by simp; omega))); clear hb1)
  go_ret
  exact ⟨rfl, HB1.out⟩

theorem six_start {wr : World} {g o h p k : Nat} {K : Int} {S : ByteArray} {u u' : Value} (c1 : wr.cell? ⟨g, o + k * 3, none⟩ = some (.int .i64 K)) (c2 : wr.cell? ⟨g, o + k * 3 + 1, none⟩ = some (.string S)) (c3 : wr.cell? ⟨g, o + k * 3 + 2, none⟩ = some u)
    (c4 : wr.cell? ⟨h, p + k * 3, none⟩ = some (.int .i64 K)) (c5 : wr.cell? ⟨h, p + k * 3 + 1, none⟩ = some (.string S)) (c6 : wr.cell? ⟨h, p + k * 3 + 2, none⟩ = some u') :
    wr.drew.cell? ⟨g, o + k * 3, none⟩ = some (.int .i64 K) ∧ wr.drew.cell? ⟨g, o + k * 3 + 1, none⟩ = some (.string S) ∧ wr.drew.cell? ⟨g, o + k * 3 + 2, none⟩ = some u ∧
    wr.drew.cell? ⟨h, p + k * 3, none⟩ = some (.int .i64 K) ∧ wr.drew.cell? ⟨h, p + k * 3 + 1, none⟩ = some (.string S) ∧ wr.drew.cell? ⟨h, p + k * 3 + 2, none⟩ = some u' ∧ Hid (Below wr.heap.size wr wr.drew) :=
  ⟨c1, c2, c3, c4, c5, c6, Lib.hid (Below.refl _ _).drew⟩
theorem six_step {wr X w2 : World} {g o h p k : Nat} {K : Int} {S : ByteArray} {u u' : Value} (hg : g < wr.heap.size) (hh : h < wr.heap.size) (hb : Below X.heap.size X w2)
    (hX : X.cell? ⟨g, o + k * 3, none⟩ = some (.int .i64 K) ∧ X.cell? ⟨g, o + k * 3 + 1, none⟩ = some (.string S) ∧ X.cell? ⟨g, o + k * 3 + 2, none⟩ = some u ∧
      X.cell? ⟨h, p + k * 3, none⟩ = some (.int .i64 K) ∧ X.cell? ⟨h, p + k * 3 + 1, none⟩ = some (.string S) ∧ X.cell? ⟨h, p + k * 3 + 2, none⟩ = some u' ∧ Hid (Below wr.heap.size wr X)) :
    w2.cell? ⟨g, o + k * 3, none⟩ = some (.int .i64 K) ∧ w2.cell? ⟨g, o + k * 3 + 1, none⟩ = some (.string S) ∧ w2.cell? ⟨g, o + k * 3 + 2, none⟩ = some u ∧
    w2.cell? ⟨h, p + k * 3, none⟩ = some (.int .i64 K) ∧ w2.cell? ⟨h, p + k * 3 + 1, none⟩ = some (.string S) ∧ w2.cell? ⟨h, p + k * 3 + 2, none⟩ = some u' ∧ Hid (Below wr.heap.size wr w2) := by
  obtain ⟨c1, c2, c3, c4, c5, c6, HB⟩ := hX
  have hs := HB.out.size
  have a : ∀ m, w2.cell? ⟨g, m, none⟩ = X.cell? ⟨g, m, none⟩ := fun m => hb.cell (p := ⟨g, m, none⟩) (Nat.lt_of_lt_of_le hg hs)
  have b : ∀ m, w2.cell? ⟨h, m, none⟩ = X.cell? ⟨h, m, none⟩ := fun m => hb.cell (p := ⟨h, m, none⟩) (Nat.lt_of_lt_of_le hh hs)
  exact ⟨(a _).trans c1, (a _).trans c2, (a _).trans c3, (b _).trans c4, (b _).trans c5, (b _).trans c6, Lib.hid (HB.out.trans (hb.mono hs))⟩

set_option maxHeartbeats 2000000 in
theorem eq_exs (n : Nat) (ih : ∀ (e : Ex) (v v' : Value) (bs bs' : List Nat) (w : World), exSize e ≤ n → ExIs w v e bs → ExIs w v' e bs' → Calls Try.prog 28 #[v, v'] w (EqEnd w))
    (l : List Ex) (v v' : Value) (bs bs' : List Nat) (w : World) (hle : exSizes l ≤ n) (hv : SlIs w v l bs) (hv' : SlIs w v' l bs') :
    Calls Try.prog 64 #[v, v'] w (EqEnd w) := by
  obtain ⟨A, c, rfl, hc1, hc2, -⟩ := id hv
  obtain ⟨A', c', rfl, hc1', hc2', -⟩ := id hv'
  have HU := Lib.hid hv
  have HV := Lib.hid hv'
  obtain ⟨m, hm⟩ : ∃ m, m = l.length := ⟨_, rfl⟩
  rw [← hm] at hc1 hc1' HU HV ⊢
  have HM := Lib.hid hm
  have HIH := Lib.hid ih
  have HN := Lib.hid hle
  clear hm hv hv' ih hle
  go_enter Try.func64, Try.ntmps64
  go_wp2_with fail
  go_loopw [5] (fun i wr => ∃ (k : Nat), k ≤ m ∧ i = .int .i64 (k : Int) ∧ Hid (Below w.heap.size w wr)) (fun i _ => m - (intOf i).toNat)
  case atStart => exact ⟨0, Nat.zero_le _, rfl, Lib.hid (Below.refl _ _)⟩
  case round =>
    obtain ⟨k, hk, rfl, HB⟩ := hrel
    by_cases hlt : k < m
    · obtain ⟨g, o, e1, u, b1, rfl, hbl, hget, hmem, c1, c2, c3, his, -⟩ := (HU.out.below HB.out).get k (by rw [← HM.out]; exact hlt)
      obtain ⟨h, p, e2, u', b2, rfl, hbl', hget', -, c4, c5, c6, his', -⟩ := (HV.out.below HB.out).get k (by rw [← HM.out]; exact hlt)
      obtain rfl : e1 = e2 := Option.some.inj (hget.symm.trans hget')
      have HCALL := Lib.hid (fun (W : World) (hb : Hid (Below wr.heap.size wr W)) => HIH.out e1 _ _ b1 b2 W (by have := exSizes_mem hmem; have := HN.out; omega) (his.below hb.out) (his'.below hb.out))
      clear his his' hget hget' hmem
      have hk0 : 0 ≤ (k : Int) := by omega
      have hkm : (k : Int) < (m : Int) := by omega
      generalize e1.kind = K at *
      generalize e1.name = S at *
      have HDR := Lib.hid (Below.drew (Below.refl wr.heap.size wr))
      go_wp2_with fail
      go_region_held3 (fun w' => w'.cell? ⟨g, o + k * 3, none⟩ = some (.int .i64 K) ∧ w'.cell? ⟨g, o + k * 3 + 1, none⟩ = some (.string S) ∧ w'.cell? ⟨g, o + k * 3 + 2, none⟩ = some u ∧
          w'.cell? ⟨h, p + k * 3, none⟩ = some (.int .i64 K) ∧ w'.cell? ⟨h, p + k * 3 + 1, none⟩ = some (.string S) ∧ w'.cell? ⟨h, p + k * 3 + 2, none⟩ = some u' ∧ Hid (Below wr.heap.size wr w'))
        (first | exact six_start c1 c2 c3 c4 c5 c6 | exact six_step hbl hbl' hb2 (by assumption))
        (first | (go_at_call 28; refine (HCALL.out _ (by assumption)).mono ?_; rintro e w2 ⟨rfl, hb2⟩))
      all_goals
        have hx := ‹_ ∧ _ ∧ _ ∧ _ ∧ _ ∧ _ ∧ Hid (Below wr.heap.size wr w2)›
        have HX := Lib.hid (HB.out.trans (hx.2.2.2.2.2.2.out.mono HB.out.size))
        clear hx
        go_wp2_with fail
        go_roundw
        case rel => exact ⟨k + 1, by omega, by go_num, HX⟩
        case measure => simp [intOf]; omega
    · go_wp2_with fail
      go_ret
      exact ⟨rfl, HB.out⟩

theorem eq_both (n : Nat) : (∀ (e : Ex) (v v' : Value) (bs bs' : List Nat) (w : World), exSize e ≤ n → ExIs w v e bs → ExIs w v' e bs' → Calls Try.prog 28 #[v, v'] w (EqEnd w)) ∧
    (∀ (l : List Ex) (v v' : Value) (bs bs' : List Nat) (w : World), exSizes l ≤ n → SlIs w v l bs → SlIs w v' l bs' → Calls Try.prog 64 #[v, v'] w (EqEnd w)) := by
  induction n with
  | zero =>
    have hE : ∀ (e : Ex) (v v' : Value) (bs bs' : List Nat) (w : World), exSize e ≤ 0 → ExIs w v e bs → ExIs w v' e bs' → Calls Try.prog 28 #[v, v'] w (EqEnd w) := fun e v v' bs bs' w h => by have := exSize_pos e; omega
    exact ⟨hE, fun l v v' bs bs' w h1 h2 h3 => eq_exs 0 hE l v v' bs bs' w h1 h2 h3⟩
  | succ n ih =>
    have hE : ∀ (e : Ex) (v v' : Value) (bs bs' : List Nat) (w : World), exSize e ≤ n + 1 → ExIs w v e bs → ExIs w v' e bs' → Calls Try.prog 28 #[v, v'] w (EqEnd w) := fun e v v' bs bs' w h1 h2 h3 => eq_ex n ih.2 e v v' bs bs' w h1 h2 h3
    exact ⟨hE, fun l v v' bs bs' w h1 h2 h3 => eq_exs (n + 1) hE l v v' bs bs' w h1 h2 h3⟩
/-- The laws' comparison of two equal expressions. -/
theorem eq_expr (e : Ex) (v v' : Value) (bs bs' : List Nat) (w : World) (h : ExIs w v e bs) (h' : ExIs w v' e bs') : Calls Try.prog 28 #[v, v'] w (EqEnd w) :=
  (eq_both (exSize e)).1 e v v' bs bs' w (Nat.le_refl _) h h'
end Go.Proofs.Ytegigjnlecpplaa
