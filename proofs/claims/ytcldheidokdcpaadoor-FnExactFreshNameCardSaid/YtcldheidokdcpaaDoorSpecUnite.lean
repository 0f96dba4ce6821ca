/- The contract of the model's UniteNames. Conditions: two lists of fewer than 2^40 elements. -/
import Derived.Test.YtcldheidokdcpaaDoorSpecNames
import Derived.Deep.QuietTactic
import Derived.BigQuiet
namespace Go.Proofs.YtcldheidokdcpaaDoor
open Go Go.RowKit

/-- A slice value that owns the strings xs. -/
def OwnsL (B : Nat) (w : World) (v : Value) (xs : List ByteArray) : Prop := w.ownsRow B 9 1 v xs.length (xs.map Value.string)
theorem OwnsL.shape {B : Nat} {w : World} {v : Value} {xs : List ByteArray} (h : OwnsL B w v xs) :
    ∃ A cap, v = .slice A xs.length cap ∧ Strs w A xs := by
  rcases h.2 with ⟨rfl, h0⟩ | ⟨g, cap, cur, rfl, hb, -⟩
  · refine ⟨none, 0, ?_, ?_⟩
    · rw [h0]
    · have : xs = [] := List.eq_nil_of_length_eq_zero h0
      subst this
      exact fun i x hx => by simp at hx
  · have hl := h.lt g rfl
    exact ⟨_, cap, rfl, fun i x hx => ⟨_, rfl, h.cells (g := g) rfl i _ (by rw [List.getElem?_map, hx]; rfl), hl.2⟩⟩

theorem unite_hit {xs out : List ByteArray} {k : Nat} {x : ByteArray} (h : xs[k]? = some x) (hi : 0 ≤ idx out x) : uniteFrom out (xs.drop k) = uniteFrom out (xs.drop (k + 1)) := by
  have hk : k < xs.length := (List.getElem?_eq_some_iff.1 h).1
  have e : xs[k] = x := (List.getElem?_eq_some_iff.1 h).2
  rw [List.drop_eq_getElem_cons hk, e, uniteFrom, if_pos hi]
theorem unite_miss {xs out : List ByteArray} {k : Nat} {x : ByteArray} (h : xs[k]? = some x) (hi : ¬ 0 ≤ idx out x) : uniteFrom out (xs.drop k) = uniteFrom (out ++ [x]) (xs.drop (k + 1)) := by
  have hk : k < xs.length := (List.getElem?_eq_some_iff.1 h).1
  have e : xs[k] = x := (List.getElem?_eq_some_iff.1 h).2
  rw [List.drop_eq_getElem_cons hk, e, uniteFrom, if_neg hi]
theorem unite_end {xs out : List ByteArray} {k : Nat} (h : xs.length ≤ k) : uniteFrom out (xs.drop k) = out := by
  rw [List.drop_eq_nil_of_le h, uniteFrom]
theorem Tryd.info9u : (Tryd.prog.info? 9).map (fun i => (i.zero, i.size, i.bytes)) = some (some (.string ⟨#[]⟩), 1, 16) := by kernel_rfl
theorem OwnsL.next {B : Nat} {w1 : World} {v : Value} {out : List ByteArray} {x : ByteArray} (h : w1.ownsRow B 9 1 v (out.length + 1) (out.map Value.string ++ [Value.string x])) : OwnsL B w1 v (out ++ [x]) := by
  unfold OwnsL; rw [List.length_append, List.map_append]; exact h
theorem OwnsL.grown {w wr w1 : World} {v : Value} {n : Nat} {l : List Value} (hb : Below w.heap.size w wr) (ho : wr.ownsRow w.heap.size 9 1 v n l) (hg : wr.grownBy w1 v.ownBlock) : Below w.heap.size w w1 :=
  hb.grown hg hb.size (fun k hk => (ho.lt k hk).1)
theorem cell_new {W : World} {x : ByteArray} : ∀ j u, [Value.string x][j]? = some u → (W.alloc (.cells #[.string x] 9)).cell? ((⟨W.heap.size, 0, none⟩ : Addr).add j) = some u := fun j u hu => by
  have hj : j = 0 := by
    rcases j with _ | j
    · rfl
    · simp at hu
  subst hj
  simp at hu
  rw [← hu]; simp [go_sem]
theorem one_new {x : ByteArray} : ∀ u ∈ [Value.string x], u.oneCell' = true := fun u hu => by rw [List.mem_singleton] at hu; rw [hu]; rfl

def UnitePost (a b : List ByteArray) (w : World) (e : Ending) (w' : World) : Prop :=
  ∃ v, e = .returned v ∧ OwnsL w.heap.size w' v (unite a b) ∧ Below w.heap.size w w'

set_option maxHeartbeats 1000000 in
theorem unite_any (A B : Option Addr) (xs ys : List ByteArray) (cap cap2 : Nat) (w : World) (hs : Strs w A xs) (hs2 : Strs w B ys) (hn : xs.length ≤ 1099511627776) (hm : ys.length ≤ 1099511627776) :
    Calls Tryd.prog 17 #[.slice A xs.length cap, .slice B ys.length cap2] w (UnitePost xs ys w) := by
  obtain ⟨i0, hi, hz0, hz1, hz2⟩ := info_parts Tryd.info9u
  have HI := Lib.hid (And.intro hi (And.intro hz0 (And.intro hz1 hz2)))
  clear hi hz0 hz1 hz2
  obtain ⟨n, hnn⟩ : ∃ n, n = xs.length := ⟨_, rfl⟩
  obtain ⟨m, hmm⟩ : ∃ m, m = ys.length := ⟨_, rfl⟩
  have HN := Lib.hid hnn
  have HS := Lib.hid hs
  have HN2 := Lib.hid hmm
  have HS2 := Lib.hid hs2
  rw [← hnn, ← hmm]
  rw [← hnn] at hn
  rw [← hmm] at hm
  clear hs hnn hs2 hmm
  go_enter Tryd.func17, Tryd.ntmps17
  go_wp2
  have H0 := Lib.hid (show OwnsL w.heap.size (w.alloc (.cells #[] 9)) (.slice (some ⟨w.heap.size, 0, none⟩) 0 0) [] from World.ownsRow_made w #[] 0 (Nat.le_refl _) (Nat.zero_le _) rfl)
  have HB0 := Lib.hid ((Below.refl w.heap.size w).alloc (Nat.le_refl _) (.cells #[] 9))
  go_loopw [5, 6] (fun v i wr => ∃ (k : Nat) (out : List ByteArray), k ≤ n ∧ i = .int .i64 (k : Int) ∧ out.length ≤ k ∧ Hid (OwnsL w.heap.size wr v out) ∧ Hid (uniteFrom [] xs = uniteFrom out (xs.drop k)) ∧ Hid (Below w.heap.size w wr)) (fun _ i _ => n - (intOf i).toNat)
  case atStart => exact ⟨0, [], Nat.zero_le _, rfl, Nat.zero_le _, H0, Lib.hid rfl, HB0⟩
  case round =>
    obtain ⟨k, out, hk, rfl, hol, HO, HU, HB⟩ := hrel
    obtain ⟨A2, c2, rfl, hso⟩ := HO.out.shape
    have hgo := HB.out.size
    by_cases hlt : k < n
    · obtain ⟨a, x, rfl, hc0, -, hx, -, hab⟩ := HS.out.get k (by rw [← HN.out]; exact hlt)
      have hc : wr.cell? (a.add k) = some (.string x) := (HB.out.cell (p := a.add k) (by rw [block_add]; exact hab)).trans hc0
      have hk0 : 0 ≤ (k : Int) := by omega
      have hkn : (k : Int) < (n : Int) := by omega
      have HX := Lib.hid hx
      clear hx hc0
      have hge := idx_ge out x
      have HJ := Lib.hid (idx_any A2 out c2 x wr hso (by omega))
      by_cases hr : 0 ≤ idx out x
      · have HU2 := Lib.hid (HU.out.trans (unite_hit HX.out hr))
        have hol2 : out.length ≤ k + 1 := by omega
        generalize idx out x = r at *
        go_wp2_with (go_at_call 19; refine HJ.out.mono ?_; rintro e w' ⟨rfl, rfl⟩)
        go_roundw
        case rel => exact ⟨k + 1, out, by omega, by go_num, hol2, HO, HU2, HB⟩
        case measure => simp [intOf]; omega
      · have HU2 := Lib.hid (HU.out.trans (unite_miss HX.out hr))
        have C1 := Lib.hid (show out.length + 1 ≤ maxLen by unfold maxLen; omega)
        have C2 := Lib.hid (show (out.length + 1) * 16 ≤ 140737488355328 by omega)
        have C4 := Lib.hid (show w.heap.size ≤ (wr.alloc (.cells #[.string x] 9)).heap.size by have := HB.out.size; simp; omega)
        have HO2 := Lib.hid (World.ownsRow.alloc HO.out (.cells #[.string x] 9))
        have HB2 := Lib.hid (HB.out.alloc HB.out.size (.cells #[.string x] 9))
        have HDL := Lib.hid (show (out ++ [x]).length ≤ k + 1 by rw [List.length_append]; simp; omega)
        have HNW := Lib.hid (cell_new (W := wr) (x := x))
        have H1C := Lib.hid (one_new (x := x))
        generalize idx out x = r at *
        go_wp2_with (first | (go_at_call 19; refine HJ.out.mono ?_; rintro e w' ⟨rfl, rfl⟩) | (at_builtin; (refine wpList_append_own _ rfl (.tmp 22) (.tmp 27) 24 rfl w.heap.size 9 i0 (.string ⟨#[]⟩) 1 16 Tryd.underlying24 HI.out.1 HI.out.2.1 HI.out.2.2.1 HI.out.2.2.2 rfl (by decide) (.slice A2 out.length c2) _ _ rfl HO2.out ⟨wr.heap.size, 0, none⟩ 1 1 [.string x] rfl rfl HNW.out H1C.out C1.out C2.out C4.out ?_); intro v1 w1 ho1 hg1 _; have HO3 := Lib.hid (OwnsL.next ho1); have HB3 := Lib.hid (OwnsL.grown HB2.out HO2.out hg1); clear ho1 hg1))
        go_roundw
        case rel => exact ⟨k + 1, _, by omega, by go_num, HDL.out, HO3, HU2, HB3⟩
        case measure => simp [intOf]; omega
    · have HU2 := Lib.hid (show uniteFrom [] xs = out from HU.out.trans (unite_end (by rw [← HN.out]; omega)))
      have hol2 : out.length ≤ n := by omega
      clear HU
      go_wp2
      have HUX := Lib.hid (show unite xs ys = uniteFrom out ys by unfold unite; rw [HU2.out])
      clear HU2 HS HN
      go_loopw [5, 7] (fun v i wr => ∃ (k : Nat) (out : List ByteArray), k ≤ m ∧ i = .int .i64 (k : Int) ∧ out.length ≤ n + k ∧ Hid (OwnsL w.heap.size wr v out) ∧ Hid (unite xs ys = uniteFrom out (ys.drop k)) ∧ Hid (Below w.heap.size w wr)) (fun _ i _ => m - (intOf i).toNat)
      case atStart => exact ⟨0, out, Nat.zero_le _, rfl, hol2, HO, HUX, HB⟩
      case round =>
        clear HUX HO HB hso hol2 hol
        obtain ⟨k, out, hk, rfl, hol, HO, HU, HB⟩ := hrel
        obtain ⟨A2, c2, rfl, hso⟩ := HO.out.shape
        have hgo := HB.out.size
        by_cases hlt : k < m
        · obtain ⟨a, x, rfl, hc0, -, hx, -, hab⟩ := HS2.out.get k (by rw [← HN2.out]; exact hlt)
          have hc : wr.cell? (a.add k) = some (.string x) := (HB.out.cell (p := a.add k) (by rw [block_add]; exact hab)).trans hc0
          have hk0 : 0 ≤ (k : Int) := by omega
          have hkn : (k : Int) < (m : Int) := by omega
          have HX := Lib.hid hx
          clear hx hc0
          have hge := idx_ge out x
          have HJ := Lib.hid (idx_any A2 out c2 x wr hso (by omega))
          by_cases hr : 0 ≤ idx out x
          · have HU2 := Lib.hid (HU.out.trans (unite_hit HX.out hr))
            have hol2 : out.length ≤ n + (k + 1) := by omega
            generalize idx out x = r at *
            go_wp2_with (go_at_call 19; refine HJ.out.mono ?_; rintro e w' ⟨rfl, rfl⟩)
            go_roundw
            case rel => exact ⟨k + 1, out, by omega, by go_num, hol2, HO, HU2, HB⟩
            case measure => simp [intOf]; omega
          · have HU2 := Lib.hid (HU.out.trans (unite_miss HX.out hr))
            have C1 := Lib.hid (show out.length + 1 ≤ maxLen by unfold maxLen; omega)
            have C2 := Lib.hid (show (out.length + 1) * 16 ≤ 140737488355328 by omega)
            have C4 := Lib.hid (show w.heap.size ≤ (wr.alloc (.cells #[.string x] 9)).heap.size by have := HB.out.size; simp; omega)
            have HO2 := Lib.hid (World.ownsRow.alloc HO.out (.cells #[.string x] 9))
            have HB2 := Lib.hid (HB.out.alloc HB.out.size (.cells #[.string x] 9))
            have HDL := Lib.hid (show (out ++ [x]).length ≤ n + (k + 1) by rw [List.length_append]; simp; omega)
            have HNW := Lib.hid (cell_new (W := wr) (x := x))
            have H1C := Lib.hid (one_new (x := x))
            generalize idx out x = r at *
            go_wp2_with (first | (go_at_call 19; refine HJ.out.mono ?_; rintro e w' ⟨rfl, rfl⟩) | (at_builtin; (refine wpList_append_own _ rfl (.tmp 42) (.tmp 47) 24 rfl w.heap.size 9 i0 (.string ⟨#[]⟩) 1 16 Tryd.underlying24 HI.out.1 HI.out.2.1 HI.out.2.2.1 HI.out.2.2.2 rfl (by decide) (.slice A2 out.length c2) _ _ rfl HO2.out ⟨wr.heap.size, 0, none⟩ 1 1 [.string x] rfl rfl HNW.out H1C.out C1.out C2.out C4.out ?_); intro v1 w1 ho1 hg1 _; have HO3 := Lib.hid (OwnsL.next ho1); have HB3 := Lib.hid (OwnsL.grown HB2.out HO2.out hg1); clear ho1 hg1))
            go_roundw
            case rel => exact ⟨k + 1, _, by omega, by go_num, HDL.out, HO3, HU2, HB3⟩
            case measure => simp [intOf]; omega
        · have HUF := Lib.hid (show unite xs ys = out from HU.out.trans (unite_end (by rw [← HN2.out]; omega)))
          clear HU
          go_wp2
          go_ret
          exact ⟨_, rfl, by rw [HUF.out]; exact HO.out, HB.out⟩
end Go.Proofs.YtcldheidokdcpaaDoor
