/- FnExactUniteNames, from a contract of the program's own UniteNames. Conditions: that contract; the slices read as strings, each of a size that an int holds. -/
import Derived.Test.YtcldheidokdcpaaLawPlain
import Derived.Test.YtcldheidokdcpaaSpecUnite
import Derived.Test.YtcldheidokdcpaaMarks
namespace Go.Proofs.Ytcldheidokdcpaa
open Go Go.RowKit

def SzFromPost (L : Int) (xs : List ByteArray) (w : World) (e : Ending) (w' : World) : Prop :=
  ∃ r : Int, e = .returned (.int .i64 r) ∧ w = w' ∧ (r = -1 ∨ (0 ≤ r ∧ r = L - (xs.length : Int) - (tot xs : Int)))

set_option maxHeartbeats 1000000 in
theorem sz_from (L : Int) (hL0 : 0 ≤ L) (hL1 : L ≤ 1048576) (A : Option Addr) (xs : List ByteArray) (cap : Nat) (w : World) (hs : Strs w A xs) (hn : xs.length ≤ 140737488355328) (hx : ∀ x ∈ xs, x.size ≤ 9223372036854775807) :
    Calls Try.prog 12 #[.slice A xs.length cap, .int .i64 L] w (SzFromPost L xs w) := by
  obtain ⟨n, hnn⟩ : ∃ n, n = xs.length := ⟨_, rfl⟩
  have HN := Lib.hid hnn
  have HS := Lib.hid hs
  have HX := Lib.hid hx
  rw [← hnn]
  rw [← hnn] at hn
  clear hs hx hnn
  by_cases hlow : L - (n : Int) < 0
  · go_enter Try.func12, Try.ntmps12
    go_wp2
    go_ret
    exact ⟨-1, rfl, rfl, Or.inl rfl⟩
  · go_enter Try.func12, Try.ntmps12
    go_wp2
    have hr0 : 0 ≤ L - (n : Int) := by omega
    have HLOW := Lib.hid hr0
    clear hlow hr0
    go_loop [1, 5] (fun v i => ∃ (k : Nat) (r : Int), k ≤ n ∧ i = .int .i64 (k : Int) ∧ v = .int .i64 r ∧ 0 ≤ r ∧ r ≤ 1048576 ∧ Hid (r = L - (n : Int) - (tot (xs.take k) : Int))) (fun _ i => n - (intOf i).toNat)
    case atStart => exact ⟨0, _, Nat.zero_le _, rfl, rfl, HLOW.out, by omega, Lib.hid (by simp [tot])⟩
    case round =>
      obtain ⟨k, r, hk, rfl, rfl, hr0, hr1, HR⟩ := hrel
      by_cases hlt : k < n
      · obtain ⟨a, x, rfl, hc, hmem, -, htake, -⟩ := HS.out.get k (by rw [← HN.out]; exact hlt)
        have hsz := HX.out _ hmem
        have HT := Lib.hid (show tot (xs.take (k + 1)) = tot (xs.take k) + x.size by rw [htake, tot_snoc])
        clear hmem htake
        obtain ⟨z, hz⟩ : ∃ z : Int, z = (x.size : Int) := ⟨_, rfl⟩
        have hz0 : 0 ≤ z := by omega
        have hz1 : z ≤ 9223372036854775807 := by omega
        by_cases hneg : r - (x.size : Int) < 0
        · have HZ := Lib.hid hz
          clear hz
          go_wp2
          go_ret
          exact ⟨-1, rfl, rfl, Or.inl rfl⟩
        · have HZ := Lib.hid hz
          clear hz
          go_wp2
          go_round
          case rel => exact ⟨k + 1, _, by omega, by go_num, rfl, by omega, by omega, Lib.hid (by rw [HT.out]; have := HR.out; omega)⟩
          case measure => simp [intOf]; omega
      · have hk' : k = n := by omega
        have HE := Lib.hid (show xs.take k = xs from List.take_of_length_le (by rw [← HN.out]; omega))
        go_wp2
        go_ret
        refine ⟨r, rfl, rfl, Or.inr ⟨hr0, ?_⟩⟩
        have h1 := HR.out
        rw [HE.out] at h1
        have h2 := HN.out
        omega


theorem drewN_below (w : World) (q : Nat) : Below w.heap.size w (w.drewN q) := ⟨rfl, rfl, rfl, Nat.le_refl _, fun _ _ => rfl⟩
theorem marks_strs {w : World} {M : Int} {B g n cap : Nat} (h : w.ownsRow B 9 1 (.slice (some ⟨g, 0, none⟩) n cap) n ((mlist M n).map Value.string)) : Strs w (some ⟨g, 0, none⟩) (mlist M n) := fun i x hx =>
  ⟨_, rfl, h.cells (g := g) rfl i _ (by rw [List.getElem?_map, hx]; rfl), (h.lt g rfl).2⟩
theorem kept_ne {w w' : World} {B n : Nat} {v : Value} {l : List Value} {row : Option Nat} (h : w.ownsRow B 9 1 v n l) (hg : w.grownBy w' row) (hne : ∀ k, v.ownBlock = some k → row ≠ some k) : w'.ownsRow B 9 1 v n l :=
  h.kept hg (by
    cases hv : v.ownBlock with
    | none => exact Or.inl rfl
    | some k => exact Or.inr (fun e => hne k hv e.symm))
theorem below_grown {w0 w w' : World} {row : Option Nat} (h : Below w0.heap.size w0 w) (hg : w.grownBy w' row) (hr : ∀ k, row = some k → w0.heap.size ≤ k) : Below w0.heap.size w0 w' := h.grown hg h.size hr
def MarkValPost (M : Int) (B n : Nat) (v : Value) (w : World) (e : Ending) (w' : World) : Prop :=
  e = .returned (.int .i64 (M + (n : Int))) ∧ w'.ownsRow B 9 1 v n ((mlist M n).map Value.string) ∧ w.grownBy w' v.ownBlock
set_option maxHeartbeats 400000 in
theorem mark_nil (M : Int) (w : World) : Calls Try.prog 21 #[.slice none 0 0, .int .i64 M] w fun e w' => e = .returned (.int .i64 M) ∧ w = w' := by
  go_enter Try.func21, Try.ntmps21
  go_wp2
  go_loopw [1, 5] (fun m i wr => m = .int .i64 M ∧ i = .int .i64 0 ∧ w = wr) (fun _ _ _ => 0)
  case atStart => exact ⟨rfl, rfl, rfl⟩
  case round =>
    obtain ⟨rfl, rfl, rfl⟩ := hrel
    go_wp2
    go_ret
    exact ⟨rfl, rfl⟩
set_option maxHeartbeats 400000 in
theorem held_nil (M : Int) (w : World) : Calls Try.prog 22 #[.slice none 0 0, .int .i64 M] w fun e w' => e = .returned (.int .i64 M) ∧ w = w' := by
  go_enter Try.func22, Try.ntmps22
  go_wp2
  go_loopw [1, 5] (fun m i wr => m = .int .i64 M ∧ i = .int .i64 0 ∧ w = wr) (fun _ _ _ => 0)
  case atStart => exact ⟨rfl, rfl, rfl⟩
  case round =>
    obtain ⟨rfl, rfl, rfl⟩ := hrel
    go_wp2
    go_ret
    exact ⟨rfl, rfl⟩
theorem mark_val (M : Int) (hM0 : 1 ≤ M) (hM1 : M ≤ 4398046511104) (B n : Nat) (v : Value) (ys0 : List Value) (w : World) (ho : w.ownsRow B 9 1 v n ys0) (hn : n ≤ 1099511627776) :
    Calls Try.prog 21 #[v, .int .i64 M] w (MarkValPost M B n v w) := by
  rcases ho.2 with ⟨rfl, rfl⟩ | ⟨g, cap, cur, rfl, -⟩
  · refine (mark_nil M w).mono ?_
    rintro e w' ⟨rfl, rfl⟩
    exact ⟨by simp, ⟨by simp [mlist], Or.inl ⟨rfl, rfl⟩⟩, World.grownBy.refl w _⟩
  · exact mark_any M hM0 hM1 B g n cap ys0 w ho hn
theorem held_val (M : Int) (hM0 : 1 ≤ M) (hM1 : M ≤ 4398046511104) (B n : Nat) (v : Value) (w : World) (ho : w.ownsRow B 9 1 v n ((mlist M n).map Value.string)) (hn : n ≤ 1099511627776) :
    Calls Try.prog 22 #[v, .int .i64 M] w (HeldPost M n w) := by
  rcases ho.2 with ⟨rfl, rfl⟩ | ⟨g, cap, cur, rfl, -⟩
  · refine (held_nil M w).mono ?_
    rintro e w' ⟨rfl, rfl⟩
    exact ⟨by simp, Below.refl _ _⟩
  · exact held_any M hM0 hM1 g n cap w (marks_strs ho) hn
end Go.Proofs.Ytcldheidokdcpaa
