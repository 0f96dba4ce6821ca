/- The contract of the program's own EqualExpr. Conditions: fewer than 2^40 nodes; no string shares the memory of the arguments. -/
import Derived.Test.YtmndlhbgacgnlaaOwnInclude
namespace Go.Proofs.Ytmndlhbgacgnlaa
open Go Go.RowKit

theorem exs_low (n : Nat) : (∀ (e : Ex), exSize e ≤ n → ∀ (w : World) (g o : Nat) (bs : List Nat), ExAt w g o e bs → ∀ x ∈ bs, x < w.heap.size) ∧ (∀ (l : List Ex), exSizes l ≤ n → ∀ (w : World) (g o j : Nat) (bs : List Nat), ExsAt w g o j l bs → ∀ x ∈ bs, x < w.heap.size) := by
  induction n with
  | zero =>
    refine ⟨fun e h => by have := exSize_pos e; omega, fun l h => ?_⟩
    cases l with
    | nil => intro w g o j bs h1 x hx; rw [ExsAt] at h1; subst h1; cases hx
    | cons e r => rw [exSizes] at h; have := exSize_pos e; omega
  | succ n ih =>
    have hE : ∀ (e : Ex), exSize e ≤ n + 1 → ∀ (w : World) (g o : Nat) (bs : List Nat), ExAt w g o e bs → ∀ x ∈ bs, x < w.heap.size := by
      intro e he w g o bs h x hx
      cases e with
      | mk k s l =>
        rw [exSize] at he
        rw [ExAt] at h
        obtain ⟨-, -, -, A, c, -, -, -, h7⟩ := h
        rcases h7 with ⟨-, rfl⟩ | ⟨g1, o1, b1, -, h8, rfl, h9⟩
        · cases hx
        · rcases List.mem_cons.1 hx with rfl | hx
          · exact h8
          · exact ih.2 l (by omega) w g1 o1 0 b1 h9 x hx
    refine ⟨hE, ?_⟩
    intro l
    induction l with
    | nil => intro _ w g o j bs h1 x hx; rw [ExsAt] at h1; subst h1; cases hx
    | cons e r ihl =>
      intro hl w g o j bs h x hx
      rw [exSizes] at hl
      have := exSize_pos e
      rw [ExsAt] at h
      obtain ⟨b1, b2, rfl, h1, h2⟩ := h
      rcases List.mem_append.1 hx with hx | hx
      · exact hE e (by omega) w g _ b1 h1 x hx
      · exact ihl (by omega) w g o (j + 1) b2 h2 x hx
theorem ru_lt {w : World} {v : Value} {e : Ex} {bs : List Nat} (h : ExIs w v e bs) : ∀ x ∈ bs, x < w.heap.size := by
  obtain ⟨u, -, -, A, c, -, -, -, h3⟩ := h
  intro x hx
  rcases h3 with ⟨-, rfl⟩ | ⟨g, o, b, -, hg, rfl, h4⟩
  · cases hx
  · rcases List.mem_cons.1 hx with rfl | hx
    · exact hg
    · exact (exs_low _).2 _ (Nat.le_refl _) w g o 0 b h4 x hx
/-- Places in memory that no string shares. -/
theorem pl_free {w : World} {G : List Nat} (hfr : ∀ x ∈ G, ∀ o, w.frozen? ⟨x, o, none⟩ = false) (p : Pl w G) : FreeB w p.adr.block := by
  obtain ⟨v, hv⟩ := Pl.cell p
  exact FreeB.of_cell hv (hfr _ p.2.2.1)
theorem eq_fresh {wo w : World} {G : List Nat} {kq : Nat} (h : EqBox w kq 0 none) : EqSt (wo := wo) (G := G) [] kq 0 none w := ⟨h, fun mb e => by cases e⟩

set_option maxRecDepth 100000 in
set_option maxHeartbeats 1000000 in
theorem own_equal (a b : Ex) (v v2 : Value) (bs bs2 : List Nat) (w : World) (hv : ExIs w v a bs) (hv2 : ExIs w v2 b bs2) (hb : exSize a ≤ 1099511627776) (hfr : ∀ x ∈ bs ++ bs2, ∀ o, w.frozen? ⟨x, o, none⟩ = false) : Calls Try.prog 26 #[v, v2] w (RetPost (.bool (exEq a b)) w) := by
  obtain ⟨u, rfl, hs, hu⟩ := id hv
  obtain ⟨A, c, rfl, hc1, hc2, -⟩ := id hu
  obtain ⟨u2, rfl, hs2, hu2⟩ := id hv2
  obtain ⟨A2, c2, rfl, hd1, hd2, -⟩ := id hu2
  have HGL := Lib.hid (show ∀ z ∈ bs ++ bs2, z < w.heap.size from fun z hz => (List.mem_append.1 hz).elim (ru_lt hv z) (ru_lt hv2 z))
  obtain ⟨m, hm⟩ : ∃ m, m = a.args.length := ⟨_, rfl⟩
  obtain ⟨m2, hm2⟩ : ∃ m2, m2 = b.args.length := ⟨_, rfl⟩
  rw [← hm] at hv hc1 ⊢
  rw [← hm2] at hv2 hd1 ⊢
  have HINC := Lib.hid (fun (kq : Nat) (X : World) (hq : EqBox X kq 0 none) (hlow : Below w.heap.size w X) (hkq : w.heap.size ≤ kq) => own_include (wo := w) (G := bs ++ bs2) a b _ _ bs bs2 kq 0 none X hv hv2 (fun z h => h) HGL.out (eq_fresh hq) hlow hkq (by omega) (pl_free hfr))
  clear hv hu hv2 hu2 hm hm2 hfr hb hs hs2 hc2 hd2
  have HB := Lib.hid (fun (o1 o2 o3 : Obj) => (((Below.refl w.heap.size w).alloc (Nat.le_refl _) o1).alloc (by simp) o2).alloc (by simp; omega) o3)
  go_enter Try.func26, Try.ntmps26
  go_wp2_with fail
  go_at_call 69
  obtain ⟨X, hX⟩ : ∃ X, X = ((w.alloc (.cells #[.int .i64 a.kind, .string a.name, .slice A m c] 26)).alloc (.cells #[.int .i64 b.kind, .string b.name, .slice A2 m2 c2] 26)).alloc (.cells #[.int .i64 0, .map none] 97) := ⟨_, rfl⟩
  rw [← hX]
  have hbX : Below w.heap.size w X := by rw [hX]; exact HB.out _ _ _
  have hqX : EqBox X (w.heap.size + 1 + 1) 0 none := by
    have := World.alloc_heap_new ((w.alloc (.cells #[.int .i64 a.kind, .string a.name, .slice A m c] 26)).alloc (.cells #[.int .i64 b.kind, .string b.name, .slice A2 m2 c2] 26)) (.cells #[.int .i64 0, .map none] 97)
    rw [World.size_alloc, World.size_alloc, ← hX] at this
    exact this
  refine (HINC.out _ X hqX hbX (by omega)).mono ?_
  rintro r w5 ⟨N2, mo2, rfl, hf5, -⟩
  have HF5 := Lib.hid (hbX.trans (hf5.below (fun x hx => by simp at hx; omega) hbX.size))
  clear hX hbX hqX hf5
  go_wp2_with fail
  go_ret
  exact ⟨rfl, HF5.out⟩
end Go.Proofs.Ytmndlhbgacgnlaa
