/- The contracts of the laws' size and copy of a slice of strings. Conditions: as each says. -/
import Derived.Test.YtmndlhbgacgnlaaGreatStrs
import Derived.Laws.OwnMore
namespace Go.Proofs.YtmndlhbgacgnlaaGreat
open Go Go.RowKit

def tot (l : List ByteArray) : Nat := (l.map (·.size)).sum
theorem tot_snoc (l : List ByteArray) (x : ByteArray) : tot (l ++ [x]) = tot l + x.size := by simp [tot]
def SzPost (xs : List ByteArray) (w : World) (e : Ending) (w' : World) : Prop :=
  ∃ r : Int, e = .returned (.int .i64 r) ∧ w = w' ∧ (r = -1 ∨ (0 ≤ r ∧ tot xs + xs.length ≤ 1048576))

set_option maxHeartbeats 1000000 in
theorem sz_any (A : Option Addr) (xs : List ByteArray) (cap : Nat) (w : World) (hs : Strs w A xs) (hn : xs.length ≤ 140737488355328) (hx : ∀ x ∈ xs, x.size ≤ 9223372036854775807) :
    Calls Tryz.prog 107 #[.slice A xs.length cap, .int .i64 1048576] w (SzPost xs w) := by
  obtain ⟨n, hnn⟩ : ∃ n, n = xs.length := ⟨_, rfl⟩
  have HN := Lib.hid hnn
  have HS := Lib.hid hs
  have HX := Lib.hid hx
  rw [← hnn]
  rw [← hnn] at hn
  clear hs hx hnn
  by_cases hlow : (1048576 : Int) - (n : Int) < 0
  · go_enter Tryz.func107, Tryz.ntmps107
    go_wp2
    go_ret
    exact ⟨-1, rfl, rfl, Or.inl rfl⟩
  · go_enter Tryz.func107, Tryz.ntmps107
    go_wp2
    have hr0 : 0 ≤ (1048576 : Int) - (n : Int) := by omega
    have HLOW := Lib.hid hr0
    clear hlow hr0
    go_loop [1, 5] (fun v i => ∃ (k : Nat) (r : Int), k ≤ n ∧ i = .int .i64 (k : Int) ∧ v = .int .i64 r ∧ 0 ≤ r ∧ r ≤ 1048576 ∧ Hid (r = 1048576 - (n : Int) - (tot (xs.take k) : Int))) (fun _ i => n - (intOf i).toNat)
    case atStart => exact ⟨0, _, Nat.zero_le _, rfl, rfl, HLOW.out, by omega, Lib.hid (by simp [tot])⟩
    case round =>
      obtain ⟨k, r, hk, rfl, rfl, hr0, hr1, HR⟩ := hrel
      by_cases hlt : k < n
      · obtain ⟨a, x, rfl, hc, hmem, -, htake, -⟩ := HS.out.get k (by rw [← HN.out]; exact hlt)
        have hsz := HX.out _ hmem
        have HT := Lib.hid (show tot (xs.take (k + 1)) = tot (xs.take k) + x.size by rw [htake, tot_snoc])
        clear hmem htake
        obtain ⟨z, hz⟩ : ∃ z : Int, z = (x.size : Int) := ⟨_, rfl⟩
        have hz0 : 0 ≤ z := by omega
        have hz1 : z ≤ 9223372036854775807 := by omega
        by_cases hneg : r - (x.size : Int) < 0
        · have HZ := Lib.hid hz
          clear hz
          go_wp2
          go_ret
          exact ⟨-1, rfl, rfl, Or.inl rfl⟩
        · have HZ := Lib.hid hz
          clear hz
          go_wp2
          go_round
          case rel => exact ⟨k + 1, _, by omega, by go_num, rfl, by omega, by omega, Lib.hid (by rw [HT.out]; have := HR.out; omega)⟩
          case measure => simp [intOf]; omega
      · have hk' : k = n := by omega
        have HE := Lib.hid (show xs.take k = xs from List.take_of_length_le (by rw [← HN.out]; omega))
        go_wp2
        go_ret
        refine ⟨r, rfl, rfl, Or.inr ⟨hr0, ?_⟩⟩
        have h1 := HR.out
        rw [HE.out] at h1
        have h2 := HN.out
        omega

theorem Tryz.info9 : (Tryz.prog.info? 9).map (fun i => (i.zero, i.size, i.bytes)) = some (some (.string ⟨#[]⟩), 1, 16) := by kernel_rfl

theorem take_set {ys : List Value} {xs : List ByteArray} {k : Nat} {x : ByteArray} (hk : k < ys.length) (hx : xs[k]? = some x) (h : ys.take k = (xs.take k).map Value.string) :
    (ys.set k (.string x)).take (k + 1) = (xs.take (k + 1)).map Value.string := by
  have hkx : k < xs.length := (List.getElem?_eq_some_iff.1 hx).1
  have e : xs[k] = x := (List.getElem?_eq_some_iff.1 hx).2
  rw [take_nextS xs k hkx, e, List.map_append, ← h, take_nextS _ k (by rw [List.length_set]; exact hk), List.take_set_of_le (Nat.le_refl _), List.getElem_set_self]
  rfl

/-- What the copy leaves: a new row that holds the strings. -/
def CopyPost (xs : List ByteArray) (w : World) (e : Ending) (w' : World) : Prop :=
  ∃ g, e = .returned (.slice (some ⟨g, 0, none⟩) xs.length xs.length) ∧ w'.ownsRow w.heap.size 9 1 (.slice (some ⟨g, 0, none⟩) xs.length xs.length) xs.length (xs.map Value.string) ∧ Below w.heap.size w w'

set_option maxHeartbeats 1000000 in
theorem copy_any (A : Option Addr) (xs : List ByteArray) (cap : Nat) (w : World) (hs : Strs w A xs) (hn : xs.length ≤ 8796093022208) :
    Calls Tryz.prog 110 #[.slice A xs.length cap] w (CopyPost xs w) := by
  obtain ⟨i0, hi, hz0, hz1, hz2⟩ := info_parts Tryz.info9
  obtain ⟨n, hnn⟩ : ∃ n, n = xs.length := ⟨_, rfl⟩
  have HN := Lib.hid hnn
  have HS := Lib.hid hs
  rw [← hnn]
  rw [← hnn] at hn
  clear hs hnn
  have HI := Lib.hid (And.intro hi (And.intro hz0 (And.intro hz1 hz2)))
  have C2 := Lib.hid (show i0.bytes * n ≤ 281474976710656 by rw [hz2]; omega)
  have C3 := Lib.hid (show n ≤ maxLen by unfold maxLen; omega)
  clear hi hz0 hz1 hz2
  go_enter Tryz.func110, Tryz.ntmps110
  go_wp2_with (at_make; go_loud (refine wpList_make_full _ rfl _ _ 29 rfl w.heap.size 9 i0 (.string ⟨#[]⟩) 1 Tryz.underlying29 HI.out.1 HI.out.2.1 HI.out.2.2.1 .i64 .i64 _ _ n rfl rfl rfl rfl C2.out C3.out (Nat.le_refl _) ?_); go_loud (intro w1 hown1 hg1))
  have hb1 : Below w.heap.size w w1 := ⟨hg1.os, hg1.tape, hg1.output, hg1.size, fun k hk => hg1.block k hk (by simp)⟩
  have HO := Lib.hid hown1
  have HB := Lib.hid hb1
  clear hown1 hg1 hb1
  go_loopw [4] (fun i wr => ∃ (k : Nat) (ys : List Value), k ≤ n ∧ i = .int .i64 (k : Int) ∧ Hid (ys.take k = (xs.take k).map Value.string) ∧ Hid (wr.ownsRow w.heap.size 9 1 (.slice (some ⟨w.heap.size, 0, none⟩) n n) n ys) ∧ Hid (Below w.heap.size w wr)) (fun i _ => n - (intOf i).toNat)
  case atStart => exact ⟨0, _, Nat.zero_le _, rfl, Lib.hid rfl, HO, HB⟩
  case round =>
    obtain ⟨k, ys, hk, rfl, HY, HO2, HB2⟩ := hrel
    by_cases hlt : k < n
    · obtain ⟨a, x, rfl, hc0, -, hx, -, hal⟩ := HS.out.get k (by rw [← HN.out]; exact hlt)
      have hc : wr.cell? (a.add k) = some (.string x) := (HB2.out.cell (p := a.add k) (by rw [block_add]; exact hal)).trans hc0
      have hyl : k < ys.length := by rw [HO2.out.1, Nat.mul_one]; exact hlt
      have hd : wr.cell? ⟨w.heap.size, k, none⟩ = some ys[k] := (HO2.out.cellAt k (by rw [Nat.mul_one]; exact hlt)).trans (List.getElem?_eq_getElem hyl)
      have hf : wr.frozen? ⟨w.heap.size, k, none⟩ = false := HO2.out.frozenAt k
      have HT := Lib.hid (take_set hyl hx HY.out)
      have HST := Lib.hid (HO2.out.stored k (.string x)).1
      have HB3 := Lib.hid (HB2.out.setCell (p := ⟨w.heap.size, k, none⟩) (Nat.le_refl _) (.string x))
      generalize ys[k] = y0 at hd
      clear hc0 hx hyl hal
      go_wp2
      go_roundw
      case rel => exact ⟨k + 1, _, by omega, by go_num, HT, HST, HB3⟩
      case measure => simp [intOf]; omega
    · have hk' : k = n := by omega
      have HE := Lib.hid (show ys = xs.map Value.string by
        have h1 := HY.out
        have h2 := HO2.out.1
        have h3 := HN.out
        rw [List.take_of_length_le (by omega), List.take_of_length_le (by omega)] at h1
        exact h1)
      go_wp2
      go_ret
      refine ⟨w.heap.size, ?_, ?_, HB2.out⟩
      · rw [← HN.out]; rfl
      · rw [← HN.out, ← HE.out]; exact HO2.out
end Go.Proofs.YtmndlhbgacgnlaaGreat
