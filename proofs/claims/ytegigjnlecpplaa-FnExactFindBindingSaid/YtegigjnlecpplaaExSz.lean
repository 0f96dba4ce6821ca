/- The contract of the laws' size of an expression. Conditions: an expression that lies in memory, a remainder from 0 to 1048576. -/
import Derived.Test.YtegigjnlecpplaaEx
import Derived.WalkSpells
import Derived.WalkLawsBesides
namespace Go.Proofs.Ytegigjnlecpplaa
open Go Go.RowKit

mutual
/-- The bytes of all names, and the number of nodes below the root. -/
def exTot : Ex → Nat
  | .mk _ s l => s.size + exTots l
def exTots : List Ex → Nat
  | [] => 0
  | e :: r => exTot e + 1 + exTots r
end
theorem tots_ge : ∀ l : List Ex, l.length ≤ exTots l := by
  intro l
  induction l with
  | nil => simp
  | cons e r ih => rw [exTots, List.length_cons]; omega
theorem tots_snoc (l : List Ex) (k : Nat) (e : Ex) (h : l[k]? = some e) : exTots (l.take (k + 1)) = exTots (l.take k) + (exTot e + 1) := by
  have hs : ∀ (a b : List Ex), exTots (a ++ b) = exTots a + exTots b := by
    intro a
    induction a with
    | nil => intro b; simp [exTots]
    | cons x r ih => intro b; rw [List.cons_append, exTots, exTots, ih]; omega
  have hk : k < l.length := (List.getElem?_eq_some_iff.1 h).1
  have he : l[k] = e := (List.getElem?_eq_some_iff.1 h).2
  rw [List.take_succ_eq_append_getElem hk, he, hs]
  simp [exTots]
theorem tots_take : ∀ (l : List Ex) (k : Nat), exTots (l.take k) ≤ exTots l := by
  intro l
  induction l with
  | nil => intro k; simp [exTots]
  | cons x r ih =>
    intro k
    cases k with
    | zero => simp [exTots]
    | succ k => rw [List.take_succ_cons, exTots, exTots]; have := ih k; omega
/-- What is still to come weighs at least one a node. -/
theorem tots_take2 : ∀ (l : List Ex) (k : Nat), k ≤ l.length → exTots (l.take k) + (l.length - k) ≤ exTots l := by
  intro l
  induction l with
  | nil => intro k h; simp [exTots]
  | cons x r ih =>
    intro k h
    cases k with
    | zero => have := tots_ge (x :: r); simp only [List.take_zero, exTots, List.length_cons] at *; omega
    | succ k => rw [List.take_succ_cons, exTots, exTots, List.length_cons]; have := ih k (by simpa using h); omega
theorem tot_size (n : Nat) : (∀ e : Ex, exSize e ≤ n → exSize e ≤ exTot e + 1) ∧ (∀ l : List Ex, exSizes l ≤ n → exSizes l ≤ exTots l) := by
  induction n with
  | zero =>
    refine ⟨fun e h => by have := exSize_pos e; omega, fun l h => by omega⟩
  | succ n ih =>
    have hE : ∀ e : Ex, exSize e ≤ n + 1 → exSize e ≤ exTot e + 1 := by
      intro e h
      cases e with
      | mk k s l =>
        rw [exSize] at h ⊢
        rw [exTot]
        have := ih.2 l (by omega)
        omega
    refine ⟨hE, ?_⟩
    intro l
    induction l with
    | nil => intro _; simp [exSizes, exTots]
    | cons e r ihl =>
      intro h
      rw [exSizes] at h ⊢
      rw [exTots]
      have h1 := hE e (by omega)
      have h2 := ihl (by omega)
      omega
def RetPost (r : Value) (w : World) (e : Ending) (w' : World) : Prop := e = .returned r ∧ Below w.heap.size w w'
/-- The box of an argument stays. -/
theorem box_cells (w : World) (K : Int) (S : ByteArray) (u : Value) (W : World) (hb : Below (w.heap.size + 1) (w.alloc (.cells #[.int .i64 K, .string S, u] 49)) W) :
    W.cell? ⟨w.heap.size, 0, none⟩ = some (.int .i64 K) ∧ W.cell? ⟨w.heap.size, 1, none⟩ = some (.string S) ∧ W.cell? ⟨w.heap.size, 2, none⟩ = some u := by
  have h : ∀ m, W.cell? ⟨w.heap.size, m, none⟩ = (w.alloc (.cells #[.int .i64 K, .string S, u] 49)).cell? ⟨w.heap.size, m, none⟩ := fun m => hb.cell (p := ⟨w.heap.size, m, none⟩) (Nat.lt_succ_self _)
  refine ⟨(h 0).trans ?_, (h 1).trans ?_, (h 2).trans ?_⟩ <;> simp [go_sem]
theorem box_cells2 (w : World) (K : Int) (S : ByteArray) (u : Value) (W : World) (hb : Below (w.alloc (.cells #[.int .i64 K, .string S, u] 26)).heap.size (w.alloc (.cells #[.int .i64 K, .string S, u] 26)) W) :
    W.cell? ⟨w.heap.size, 0, none⟩ = some (.int .i64 K) ∧ W.cell? ⟨w.heap.size, 1, none⟩ = some (.string S) ∧ W.cell? ⟨w.heap.size, 2, none⟩ = some u := by
  have h : ∀ m, W.cell? ⟨w.heap.size, m, none⟩ = (w.alloc (.cells #[.int .i64 K, .string S, u] 26)).cell? ⟨w.heap.size, m, none⟩ := fun m => hb.cell (p := ⟨w.heap.size, m, none⟩) (by simp)
  refine ⟨(h 0).trans ?_, (h 1).trans ?_, (h 2).trans ?_⟩ <;> simp [go_sem]
/-- What the size answers: -1, or what is left. -/
def SzEnd (L T : Int) (w : World) (e : Ending) (w' : World) : Prop := ∃ r : Int, e = .returned (.int .i64 r) ∧ Below w.heap.size w w' ∧ ((r = -1 ∧ L < T) ∨ (0 ≤ r ∧ r = L - T))

set_option maxHeartbeats 1000000 in
theorem sz_ex (n : Nat) (ih : ∀ (l : List Ex) (v : Value) (bs : List Nat) (w : World) (L : Int), exSizes l ≤ n → SlIs w v l bs → 0 ≤ L → L ≤ 1048576 → Calls Try.prog 69 #[v, .int .i64 L] w (SzEnd L (exTots l) w))
    (e : Ex) (v : Value) (bs : List Nat) (w : World) (L : Int) (hle : exSize e ≤ n + 1) (hv : ExIs w v e bs) (hL0 : 0 ≤ L) (hL1 : L ≤ 1048576) :
    Calls Try.prog 33 #[v, .int .i64 L] w (SzEnd L (exTot e) w) := by
  obtain ⟨u, rfl, hsz, hu⟩ := hv
  obtain ⟨K, hK⟩ : ∃ K, K = e.kind := ⟨_, rfl⟩
  obtain ⟨S, hS⟩ : ∃ S, S = e.name := ⟨_, rfl⟩
  have HT := Lib.hid (show exTot e = e.name.size + exTots e.args by cases e; rfl)
  rw [← hS] at HT
  rw [← hK, ← hS]
  rw [← hS] at hsz
  clear hK hS
  by_cases h0 : L - (S.size : Int) < 0
  · clear ih
    go_enter Try.func33, Try.ntmps33
    go_wp2_with fail
    go_ret
    exact ⟨-1, rfl, (Below.refl _ _).alloc (Nat.le_refl _) _, Or.inl ⟨rfl, by have := HT.out; omega⟩⟩
  · have HC := Lib.hid (fun (W : World) (hb : Below w.heap.size w W) => ih e.args u bs W (L - (S.size : Int)) (by cases e; rw [exSize] at hle; exact Nat.le_of_succ_le_succ hle) (hu.below hb) (by omega) (by omega))
    clear ih hle hu
    have h0' : 0 ≤ L - (S.size : Int) := by omega
    go_enter Try.func33, Try.ntmps33
    go_wp2_with (go_at_call 69; refine (HC.out _ ((Below.refl _ _).alloc (Nat.le_refl _) _)).mono ?_; rintro r w1 ⟨z, rfl, hb1, hz⟩; have HB1 := Lib.hid (((Below.refl w.heap.size w).alloc (Nat.le_refl _) _).trans (hb1.mono (by simp))); clear hb1; rcases hz with ⟨rfl, hz⟩ | ⟨hz0, hz⟩ <;> (have HZ := Lib.hid hz; clear hz))
    · go_ret
      exact ⟨-1, rfl, HB1.out, Or.inl ⟨rfl, by have := HT.out; have := HZ.out; omega⟩⟩
    · go_ret
      exact ⟨z, rfl, HB1.out, Or.inr ⟨hz0, by have := HT.out; have := HZ.out; omega⟩⟩

set_option maxHeartbeats 1000000 in
theorem sz_exs (n : Nat) (ih : ∀ (e : Ex) (v : Value) (bs : List Nat) (w : World) (L : Int), exSize e ≤ n → ExIs w v e bs → 0 ≤ L → L ≤ 1048576 → Calls Try.prog 33 #[v, .int .i64 L] w (SzEnd L (exTot e) w))
    (l : List Ex) (v : Value) (bs : List Nat) (w : World) (L : Int) (hle : exSizes l ≤ n) (hv : SlIs w v l bs) (hL0 : 0 ≤ L) (hL1 : L ≤ 1048576) :
    Calls Try.prog 69 #[v, .int .i64 L] w (SzEnd L (exTots l) w) := by
  obtain ⟨A, c, rfl, hc1, hc2, -⟩ := id hv
  have HU := Lib.hid hv
  obtain ⟨m, hm⟩ : ∃ m, m = l.length := ⟨_, rfl⟩
  rw [← hm] at hc1 HU ⊢
  have HM := Lib.hid hm
  have HT := Lib.hid (tots_ge l)
  clear hm hv
  by_cases h0 : L - (m : Int) < 0
  · clear ih
    go_enter Try.func69, Try.ntmps69
    go_wp2_with fail
    go_ret
    exact ⟨-1, rfl, Below.refl _ _, Or.inl ⟨rfl, by have := HT.out; have := HM.out; omega⟩⟩
  · have HIH := Lib.hid ih
    have HN := Lib.hid hle
    have HLOW := Lib.hid (show (L - (m : Int) = L - (m : Int) - (((exTots (l.take 0) : Nat) : Int) - ((0 : Nat) : Int))) by simp [exTots])
    clear ih hle
    have h0' : 0 ≤ L - (m : Int) := by omega
    go_enter Try.func69, Try.ntmps69
    go_wp2_with fail
    go_loopw [1, 5] (fun t i wr => ∃ (k : Nat) (z : Int), k ≤ m ∧ i = .int .i64 (k : Int) ∧ t = .int .i64 z ∧ 0 ≤ z ∧ z ≤ 1048576 ∧ Hid (z = L - (m : Int) - (((exTots (l.take k) : Nat) : Int) - (k : Int))) ∧ Hid (Below w.heap.size w wr)) (fun _ i _ => m - (intOf i).toNat)
    case atStart => exact ⟨0, _, Nat.zero_le _, rfl, rfl, h0', by omega, HLOW, Lib.hid (Below.refl _ _)⟩
    case round =>
      obtain ⟨k, z, hk, rfl, rfl, hz0, hz1, HZ, HB⟩ := hrel
      by_cases hlt : k < m
      · obtain ⟨g, o, e1, u, b1, rfl, hbl, hget, hmem, c1, c2, c3, his, -⟩ := (HU.out.below HB.out).get k (by rw [← HM.out]; exact hlt)
        have HG := Lib.hid (tots_snoc l k e1 hget)
        have HTK := Lib.hid (tots_take l (k + 1))
        have HKM := Lib.hid (show (k : Int) + 1 ≤ m by omega)
        have HCALL := Lib.hid (HIH.out e1 _ b1 wr z (by have := exSizes_mem hmem; have := HN.out; omega) his hz0 hz1)
        clear his hget hmem
        go_wp2_with (go_at_call 33; refine HCALL.out.mono ?_; rintro r w1 ⟨z1, rfl, hb1, hz⟩; have HB1 := Lib.hid (HB.out.trans (hb1.mono HB.out.size)); clear hb1; rcases hz with ⟨rfl, hz⟩ | ⟨hq0, hz⟩ <;> (have HQ := Lib.hid hz; clear hz))
        · go_ret
          refine ⟨-1, rfl, HB1.out, Or.inl ⟨rfl, ?_⟩⟩
          have h1 := HQ.out
          have h2 := HZ.out
          have h3 := HG.out
          have h4 := HTK.out
          have h5 := HKM.out
          have h7 := HM.out
          have h6 := tots_take2 l (k + 1) (by omega)
          omega
        · have hq1 : z1 ≤ 1048576 := by have := HQ.out; omega
          go_roundw
          case rel => exact ⟨k + 1, _, by omega, by go_num, rfl, hq0, hq1, Lib.hid (by have := HQ.out; have := HZ.out; have := HG.out; omega), HB1⟩
          case measure => simp [intOf]; omega
      · have HE2 := Lib.hid (show z = L - (exTots l : Int) by
          have h := HZ.out
          rw [List.take_of_length_le (by rw [← HM.out]; omega)] at h
          omega)
        go_wp2_with fail
        go_ret
        exact ⟨z, rfl, HB.out, Or.inr ⟨hz0, HE2.out⟩⟩

theorem sz_both (n : Nat) : (∀ (e : Ex) (v : Value) (bs : List Nat) (w : World) (L : Int), exSize e ≤ n → ExIs w v e bs → 0 ≤ L → L ≤ 1048576 → Calls Try.prog 33 #[v, .int .i64 L] w (SzEnd L (exTot e) w)) ∧
    (∀ (l : List Ex) (v : Value) (bs : List Nat) (w : World) (L : Int), exSizes l ≤ n → SlIs w v l bs → 0 ≤ L → L ≤ 1048576 → Calls Try.prog 69 #[v, .int .i64 L] w (SzEnd L (exTots l) w)) := by
  induction n with
  | zero =>
    have hE : ∀ (e : Ex) (v : Value) (bs : List Nat) (w : World) (L : Int), exSize e ≤ 0 → ExIs w v e bs → 0 ≤ L → L ≤ 1048576 → Calls Try.prog 33 #[v, .int .i64 L] w (SzEnd L (exTot e) w) := fun e v bs w L h => by have := exSize_pos e; omega
    exact ⟨hE, fun l v bs w L h1 h2 h3 h4 => sz_exs 0 hE l v bs w L h1 h2 h3 h4⟩
  | succ n ih =>
    have hE : ∀ (e : Ex) (v : Value) (bs : List Nat) (w : World) (L : Int), exSize e ≤ n + 1 → ExIs w v e bs → 0 ≤ L → L ≤ 1048576 → Calls Try.prog 33 #[v, .int .i64 L] w (SzEnd L (exTot e) w) := fun e v bs w L h1 h2 h3 h4 => sz_ex n ih.2 e v bs w L h1 h2 h3 h4
    exact ⟨hE, fun l v bs w L h1 h2 h3 h4 => sz_exs (n + 1) hE l v bs w L h1 h2 h3 h4⟩
/-- The laws' size of an expression. -/
theorem sz_expr (e : Ex) (v : Value) (bs : List Nat) (w : World) (L : Int) (hv : ExIs w v e bs) (h0 : 0 ≤ L) (h1 : L ≤ 1048576) : Calls Try.prog 33 #[v, .int .i64 L] w (SzEnd L (exTot e) w) :=
  (sz_both (exSize e)).1 e v bs w L (Nat.le_refl _) hv h0 h1
end Go.Proofs.Ytegigjnlecpplaa
