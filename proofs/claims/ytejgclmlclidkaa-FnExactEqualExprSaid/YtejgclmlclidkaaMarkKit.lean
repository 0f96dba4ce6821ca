/- Marks on a row of strings that may be nil. Conditions: as each says. -/
import Derived.Test.YtejgclmlclidkaaMarks
import Derived.Test.YtejgclmlclidkaaOwnsL
namespace Go.Proofs.Ytejgclmlclidkaa
open Go Go.RowKit

theorem drewN_below (w : World) (q : Nat) : Below w.heap.size w (w.drewN q) := ⟨rfl, rfl, rfl, Nat.le_refl _, fun _ _ => rfl⟩
theorem marks_strs {w : World} {M : Int} {B g n cap : Nat} (h : w.ownsRow B 9 1 (.slice (some ⟨g, 0, none⟩) n cap) n ((mlist M n).map Value.string)) : Strs w (some ⟨g, 0, none⟩) (mlist M n) := fun i x hx =>
  ⟨_, rfl, h.cells (g := g) rfl i _ (by rw [List.getElem?_map, hx]; rfl), (h.lt g rfl).2⟩
theorem kept_ne {w w' : World} {B n : Nat} {v : Value} {l : List Value} {row : Option Nat} (h : w.ownsRow B 9 1 v n l) (hg : w.grownBy w' row) (hne : ∀ k, v.ownBlock = some k → row ≠ some k) : w'.ownsRow B 9 1 v n l :=
  h.kept hg (by
    cases hv : v.ownBlock with
    | none => exact Or.inl rfl
    | some k => exact Or.inr (fun e => hne k hv e.symm))
theorem below_grown {w0 w w' : World} {row : Option Nat} (h : Below w0.heap.size w0 w) (hg : w.grownBy w' row) (hr : ∀ k, row = some k → w0.heap.size ≤ k) : Below w0.heap.size w0 w' := h.grown hg h.size hr
def MarkValPost (M : Int) (B n : Nat) (v : Value) (w : World) (e : Ending) (w' : World) : Prop :=
  e = .returned (.int .i64 (M + (n : Int))) ∧ w'.ownsRow B 9 1 v n ((mlist M n).map Value.string) ∧ w.grownBy w' v.ownBlock
set_option maxHeartbeats 400000 in
theorem mark_nil (M : Int) (w : World) : Calls Try.prog 44 #[.slice none 0 0, .int .i64 M] w fun e w' => e = .returned (.int .i64 M) ∧ w = w' := by
  go_enter Try.func44, Try.ntmps44
  go_wp2
  go_loopw [1, 5] (fun m i wr => m = .int .i64 M ∧ i = .int .i64 0 ∧ w = wr) (fun _ _ _ => 0)
  case atStart => exact ⟨rfl, rfl, rfl⟩
  case round =>
    obtain ⟨rfl, rfl, rfl⟩ := hrel
    go_wp2
    go_ret
    exact ⟨rfl, rfl⟩
set_option maxHeartbeats 400000 in
theorem held_nil (M : Int) (w : World) : Calls Try.prog 45 #[.slice none 0 0, .int .i64 M] w fun e w' => e = .returned (.int .i64 M) ∧ w = w' := by
  go_enter Try.func45, Try.ntmps45
  go_wp2
  go_loopw [1, 5] (fun m i wr => m = .int .i64 M ∧ i = .int .i64 0 ∧ w = wr) (fun _ _ _ => 0)
  case atStart => exact ⟨rfl, rfl, rfl⟩
  case round =>
    obtain ⟨rfl, rfl, rfl⟩ := hrel
    go_wp2
    go_ret
    exact ⟨rfl, rfl⟩
theorem mark_val (M : Int) (hM0 : 1 ≤ M) (hM1 : M ≤ 4398046511104) (B n : Nat) (v : Value) (ys0 : List Value) (w : World) (ho : w.ownsRow B 9 1 v n ys0) (hn : n ≤ 1099511627776) :
    Calls Try.prog 44 #[v, .int .i64 M] w (MarkValPost M B n v w) := by
  rcases ho.2 with ⟨rfl, rfl⟩ | ⟨g, cap, cur, rfl, -⟩
  · refine (mark_nil M w).mono ?_
    rintro e w' ⟨rfl, rfl⟩
    exact ⟨by simp, ⟨by simp [mlist], Or.inl ⟨rfl, rfl⟩⟩, World.grownBy.refl w _⟩
  · exact mark_any M hM0 hM1 B g n cap ys0 w ho hn
theorem held_val (M : Int) (hM0 : 1 ≤ M) (hM1 : M ≤ 4398046511104) (B n : Nat) (v : Value) (w : World) (ho : w.ownsRow B 9 1 v n ((mlist M n).map Value.string)) (hn : n ≤ 1099511627776) :
    Calls Try.prog 45 #[v, .int .i64 M] w (HeldPost M n w) := by
  rcases ho.2 with ⟨rfl, rfl⟩ | ⟨g, cap, cur, rfl, -⟩
  · refine (held_nil M w).mono ?_
    rintro e w' ⟨rfl, rfl⟩
    exact ⟨by simp, Below.refl _ _⟩
  · exact held_any M hM0 hM1 g n cap w (marks_strs ho) hn
theorem own_read {w : World} {B cap : Nat} {A : Option Addr} {xs : List ByteArray} (h : w.ownsRow B 9 1 (.slice A xs.length cap) xs.length (xs.map Value.string)) : Strs w A xs := by
  obtain ⟨A', c', e, hs⟩ := OwnsL.shape (show OwnsL B w (.slice A xs.length cap) xs from h)
  cases e; exact hs
theorem shape_of {B : Nat} {w : World} {v : Value} {xs : List ByteArray} (h : OwnsL B w v xs) : ∃ A cap, v = .slice A xs.length cap := by
  obtain ⟨A, c, e, -⟩ := h.shape
  exact ⟨A, c, e⟩
end Go.Proofs.Ytejgclmlclidkaa
