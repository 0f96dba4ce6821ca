/- The contract of the program's own UniteNames. Conditions: lists of fewer than 2^40 elements, strings of a size that an int holds. -/
import Derived.Test.YtmndlhbgacgnlaaSet
import Derived.Test.YtmndlhbgacgnlaaSpecNames
import Derived.Test.YtmndlhbgacgnlaaOwnsL
import Derived.Deep.QuietTactic
import Derived.BigQuiet
import Derived.Deep.LoopGhost
import Derived.Deep.Cut
namespace Go.Proofs.Ytmndlhbgacgnlaa
open Go Go.RowKit

theorem unite_hit {xs out : List ByteArray} {k : Nat} {x : ByteArray} (h : xs[k]? = some x) (hi : 0 ≤ idx out x) : uniteFrom out (xs.drop k) = uniteFrom out (xs.drop (k + 1)) := by
  have hk : k < xs.length := (List.getElem?_eq_some_iff.1 h).1
  have e : xs[k] = x := (List.getElem?_eq_some_iff.1 h).2
  rw [List.drop_eq_getElem_cons hk, e, uniteFrom, if_pos hi]
theorem unite_miss {xs out : List ByteArray} {k : Nat} {x : ByteArray} (h : xs[k]? = some x) (hi : ¬ 0 ≤ idx out x) : uniteFrom out (xs.drop k) = uniteFrom (out ++ [x]) (xs.drop (k + 1)) := by
  have hk : k < xs.length := (List.getElem?_eq_some_iff.1 h).1
  have e : xs[k] = x := (List.getElem?_eq_some_iff.1 h).2
  rw [List.drop_eq_getElem_cons hk, e, uniteFrom, if_neg hi]
theorem unite_end {xs out : List ByteArray} {k : Nat} (h : xs.length ≤ k) : uniteFrom out (xs.drop k) = out := by
  rw [List.drop_eq_nil_of_le h, uniteFrom]
def UnitePost (a b : List ByteArray) (w : World) (e : Ending) (w' : World) : Prop :=
  ∃ v, e = .returned v ∧ OwnsL w.heap.size w' v (unite a b) ∧ Below w.heap.size w w'

/-- What stands while the lists are united: the row, the set of the same strings, the two lists' slices. -/
structure Uni (w wr : World) (v : Value) (out : List ByteArray) (S0 S1 : Value) : Prop where
  own : wr.ownsRow (w.heap.size + 2) 9 1 v out.length (out.map Value.string)
  set : SetIs wr w.heap.size out.length out
  two : wr.heap[w.heap.size + 1]? = some (.cells #[S0, S1] 31 (0, 0))
  low : Below w.heap.size w wr
  size : w.heap.size + 2 ≤ wr.heap.size
theorem uni_start (w : World) (S0 S1 : Value) : Uni w ((w.alloc (.map #[] 0)).alloc (.cells #[S0, S1] 31)) (.slice none 0 0) [] S0 S1 := by
  refine ⟨World.ownsRow_nil _ _ _ _, (set_made w).alloc _, ?_, ((Below.refl _ _).alloc (Nat.le_refl _) _).alloc (by simp) _, by simp⟩
  have e : (w.alloc (.map #[] 0)).heap.size = w.heap.size + 1 := by simp
  rw [← e]; exact heap_alloc_new _ _
theorem Uni.cell0 {w wr : World} {v : Value} {out : List ByteArray} {S0 S1 : Value} (h : Uni w wr v out S0 S1) : wr.cell? ⟨w.heap.size + 1, 0, none⟩ = some S0 := by
  simp [World.cell?, h.two]
theorem Uni.cell1 {w wr : World} {v : Value} {out : List ByteArray} {S0 S1 : Value} (h : Uni w wr v out S0 S1) : wr.cell? ⟨w.heap.size + 1, 1, none⟩ = some S1 := by
  simp [World.cell?, h.two]
theorem own_ne {w : World} {B e s n b : Nat} {v : Value} {l : List Value} (h : w.ownsRow B e s v n l) (hb : b < B) : some b ≠ v.ownBlock := fun e1 => by
  have := (h.lt b e1.symm).1
  omega
theorem ne_own {w : World} {B e s n b : Nat} {v : Value} {l : List Value} (h : w.ownsRow B e s v n l) (hb : b < B) : v.ownBlock = none ∨ v.ownBlock ≠ some b := Or.inr (own_ne h hb).symm
theorem Uni.row {w wr w1 : World} {v : Value} {out : List ByteArray} {S0 S1 : Value} (h : Uni w wr v out S0 S1) (hg : wr.grownBy w1 (some w.heap.size)) (o : Obj) :
    (w1.alloc o).ownsRow (w.heap.size + 2) 9 1 v out.length (out.map Value.string) := (h.own.kept hg (ne_own h.own (by omega))).alloc o
theorem Uni.step {w wr w1 w2 : World} {v v2 : Value} {out : List ByteArray} {S0 S1 : Value} (h : Uni w wr v out S0 S1) (x : ByteArray) (hs : SetIs w1 w.heap.size (out.length + 1) (out ++ [x])) (hg : wr.grownBy w1 (some w.heap.size))
    (ho : w2.ownsRow (w.heap.size + 2) 9 1 v2 (out.length + 1) (out.map Value.string ++ [Value.string x])) (hg2 : (w1.alloc (.cells #[.string x] 9)).grownBy w2 v.ownBlock) : Uni w w2 v2 (out ++ [x]) S0 S1 := by
  have hr := h.row hg (.cells #[.string x] 9)
  have z1 := hg.size
  have z2 := hg2.size
  have z := h.size
  simp at z2
  have ha := World.grownBy_alloc w1 (.cells #[.string x] 9) none
  refine ⟨?_, ?_, ?_, ?_, by omega⟩
  · rw [List.length_append, List.map_append]; exact ho
  · have := (hs.alloc (.cells #[.string x] 9)).kept hg2 (own_ne hr (by omega))
    rw [List.length_append]; exact this
  · rw [hg2.block _ (by simp; omega) (own_ne hr (by omega)), ha.block _ (by omega) (by simp), hg.block _ (by omega) (by simp)]
    exact h.two
  · exact ((h.low.grown hg h.low.size (fun j hj => by cases hj; exact Nat.le_refl _)).alloc (by omega) _).grown hg2 (by simp; omega) (fun j hj => by have := (hr.lt j hj).1; omega)
theorem Uni.read {w wr : World} {v : Value} {out : List ByteArray} {S0 S1 : Value} (h : Uni w wr v out S0 S1) : ∃ A cap, v = .slice A out.length cap := by
  obtain ⟨A, c, e, -⟩ := OwnsL.shape (show OwnsL (w.heap.size + 2) wr v out from h.own)
  exact ⟨A, c, e⟩
theorem own_down {w : World} {B C : Nat} {v : Value} {out : List ByteArray} (h : OwnsL B w v out) (hC : C ≤ B) : OwnsL C w v out := by
  refine ⟨h.1, ?_⟩
  rcases h.2 with h2 | ⟨g, cap, cur, e, hb, r⟩
  · exact Or.inl h2
  · exact Or.inr ⟨g, cap, cur, e, Nat.le_trans hC hb, r⟩
/-- What is still to come when m of the two lists are done. -/
def restU (xs ys out : List ByteArray) : Nat → List ByteArray
  | 0 => uniteFrom (uniteFrom out xs) ys
  | 1 => uniteFrom out ys
  | _ => out
/-- The list of a round, and where it lies. -/
structure CurU (w wr : World) (A : Option Addr) (l : List ByteArray) (cap m : Nat) (xs ys out : List ByteArray) : Prop where
  cell : wr.cell? ⟨w.heap.size + 1, m, none⟩ = some (.slice A l.length cap)
  strs : Strs w A l
  len : l.length ≤ 1099511627776
  sizes : ∀ x ∈ l, x.size ≤ 9223372036854775807
  rest : restU xs ys out m = restU xs ys (uniteFrom out l) (m + 1)

theorem bound0 (q : Nat) : ([] : List ByteArray).length ≤ 1099511627776 * q := Nat.zero_le _

set_option maxHeartbeats 4000000 in
theorem own_unite (A B : Option Addr) (xs ys : List ByteArray) (cap cap2 : Nat) (w : World) (hs : Strs w A xs) (hs2 : Strs w B ys) (hn : xs.length ≤ 1099511627776) (hm : ys.length ≤ 1099511627776) (hx : ∀ x ∈ xs, x.size ≤ 9223372036854775807) (hy : ∀ x ∈ ys, x.size ≤ 9223372036854775807) :
    Calls Try.prog 64 #[.slice A xs.length cap, .slice B ys.length cap2] w (UnitePost xs ys w) := by
  obtain ⟨i0, hi, hz0, hz1, hz2⟩ := info_parts Try.info9u
  have HI := Lib.hid (And.intro hi (And.intro hz0 (And.intro hz1 hz2)))
  clear hi hz0 hz1 hz2
  have HCU := Lib.hid (fun (wr : World) (v : Value) (out : List ByteArray) (h : Uni w wr v out (.slice A xs.length cap) (.slice B ys.length cap2)) (m : Nat) (hm2 : m < 2) => show ∃ A' l c', CurU w wr A' l c' m xs ys out by
    rcases m with _ | _ | m
    · exact ⟨A, xs, cap, h.cell0, hs, hn, hx, rfl⟩
    · exact ⟨B, ys, cap2, h.cell1, hs2, hm, hy, rfl⟩
    · omega)
  obtain ⟨n, hnn⟩ : ∃ n, n = xs.length := ⟨_, rfl⟩
  obtain ⟨m, hmm⟩ : ∃ m, m = ys.length := ⟨_, rfl⟩
  have H0 := uni_start w (.slice A xs.length cap) (.slice B ys.length cap2)
  rw [← hnn, ← hmm] at HCU
  rw [← hnn, ← hmm] at H0
  have H0 := Lib.hid H0
  rw [← hnn, ← hmm]
  rw [← hnn] at hn
  rw [← hmm] at hm
  clear hs hnn hs2 hmm hx hy
  have hmk := run_makeHint
  go_enter Try.func64, Try.ntmps64
  go_wp2
  clear hmk
  go_loopg [5, 21] 2 (fun g v j wr => ∃ (q : Nat) (out : List ByteArray), q ≤ 2 ∧ g = 2 - q ∧ j = .int .i64 (q : Int) ∧ Hid (out.length ≤ 1099511627776 * q) ∧ Hid (Uni w wr v out (.slice A n cap) (.slice B m cap2)) ∧ Hid (unite xs ys = restU xs ys out q))
  case atStart => exact ⟨0, [], by omega, rfl, rfl, Lib.hid (bound0 0), H0, Lib.hid rfl⟩
  case round =>
    obtain ⟨q, out, hq, rfl, rfl, HOL, HU, HR⟩ := hrel
    clear H0
    by_cases hlt : q < 2
    · obtain ⟨A', l, c', hcur⟩ := HCU.out wr _ _ HU.out q hlt
      have hc := hcur.cell
      obtain ⟨L, hL⟩ : ∃ L, L = l.length := ⟨_, rfl⟩
      rw [← hL] at hc
      have HL := Lib.hid hL
      have hLn : L ≤ 1099511627776 := by rw [hL]; exact hcur.len
      have HS := Lib.hid hcur.strs
      have HX := Lib.hid hcur.sizes
      have HR2 := Lib.hid (HR.out.trans hcur.rest)
      clear hcur hL
      obtain ⟨A2, c2, hv⟩ := HU.out.read
      subst hv
      have hqd : decide ((q : Int) < 2) = true := by simp; omega
      go_wp2
      go_loopg [5, 27] L (fun g v i wi => ∃ (k : Nat) (o : List ByteArray), k ≤ L ∧ g = L - k ∧ i = .int .i64 (k : Int) ∧ Hid (o.length ≤ 1099511627776 * q + k) ∧ Hid (Uni w wi v o (.slice A n cap) (.slice B m cap2)) ∧ Hid (uniteFrom out l = uniteFrom o (l.drop k)))
      case atStart => exact ⟨0, out, Nat.zero_le _, rfl, rfl, HOL, HU, Lib.hid rfl⟩
      case round =>
        clear HU hc HOL
        obtain ⟨k, o, hk, rfl, rfl, HOL, HU, HK⟩ := hrel
        obtain ⟨A3, c3, hv⟩ := HU.out.read
        subst hv
        by_cases hlt2 : k < L
        · obtain ⟨a, x, rfl, hc0, hmem, hx, -, hab⟩ := HS.out.get k (by rw [← HL.out]; exact hlt2)
          have hc := (HU.out.low.cell (p := a.add k) (by rw [block_add]; exact hab)).trans hc0
          have HX1 := Lib.hid (show x.size ≤ maxLen from HX.out x hmem)
          have HXX := Lib.hid hx
          clear hx hc0 hmem hab
          by_cases hr : 0 ≤ idx o x
          · have HIN := Lib.hid (show inL o x = true from decide_eq_true hr)
            have HK2 := Lib.hid (HK.out.trans (unite_hit HXX.out hr))
            clear hr
            go_wp2_with (at_lookup; refine look_set _ rfl _ _ rfl w.heap.size o.length o rfl HU.out.set x rfl HX1.out true HIN.out ?_)
            go_roundg (L - (k + 1))
            case measure => omega
            case rel => exact ⟨k + 1, o, by omega, rfl, by go_num, Lib.hid (by have := HOL.out; omega), HU, HK2⟩
          · have HIN := Lib.hid (show inL o x = false from decide_eq_false hr)
            have HK2 := Lib.hid (HK.out.trans (unite_miss HXX.out hr))
            have C0 := Lib.hid (show o.length < maxLen by have := HOL.out; unfold maxLen; omega)
            have C1 := Lib.hid (show o.length + 1 ≤ maxLen by have := HOL.out; unfold maxLen; omega)
            have C2 := Lib.hid (show (o.length + 1) * 16 ≤ 140737488355328 by have := HOL.out; omega)
            have HDL := Lib.hid (show (o ++ [x]).length ≤ 1099511627776 * q + (k + 1) by have := HOL.out; rw [List.length_append]; simp; omega)
            have H1C := Lib.hid (one_new (x := x))
            clear hr
            go_wp2_with (first
              | (at_lookup; refine look_set _ rfl _ _ rfl w.heap.size o.length o rfl HU.out.set x rfl HX1.out false HIN.out ?_)
              | (at_mapUpdate; refine add_set _ rfl _ _ _ rfl w.heap.size o.length o rfl HU.out.set C0.out x rfl rfl HX1.out ?_; intro w1 hs1 hg1; have HS1 := Lib.hid hs1; have HG1 := Lib.hid hg1; have HO2 := Lib.hid (HU.out.row hg1 (.cells #[.string x] 9)); have HNW := Lib.hid (cell_new (W := w1) (x := x)); have C4 := Lib.hid (show w.heap.size + 2 ≤ (w1.alloc (.cells #[.string x] 9)).heap.size by have h1 := HU.out.size; have h2 := hg1.size; simp; omega); clear hs1 hg1)
              | (at_builtin; (refine wpList_append_own _ rfl (.tmp 37) (.tmp 39) 31 rfl (w.heap.size + 2) 9 i0 (.string ⟨#[]⟩) 1 16 Try.underlying31 HI.out.1 HI.out.2.1 HI.out.2.2.1 HI.out.2.2.2 rfl (by decide) (.slice A3 o.length c3) _ _ rfl HO2.out ⟨w1.heap.size, 0, none⟩ 1 1 [.string x] rfl rfl HNW.out H1C.out C1.out C2.out C4.out ?_); intro v2 w2 ho2 hg2 _; have HU2 := Lib.hid (HU.out.step x HS1.out HG1.out ho2 hg2); clear ho2 hg2))
            go_roundg (L - (k + 1))
            case measure => omega
            case rel => exact ⟨k + 1, _, by omega, rfl, by go_num, HDL, HU2, HK2⟩
        · have HE := Lib.hid (show uniteFrom out l = o from HK.out.trans (unite_end (by rw [← HL.out]; omega)))
          have HRX := Lib.hid (show unite xs ys = restU xs ys o (q + 1) by rw [← HE.out]; exact HR2.out)
          go_wp2
          go_roundg (2 - (q + 1))
          case measure => omega
          case rel => exact ⟨q + 1, o, by omega, rfl, by go_num, Lib.hid (by have := HOL.out; omega), HU, HRX⟩
    · have HE := Lib.hid (show unite xs ys = out by
        have h := HR.out
        rw [show q = 2 by omega] at h
        exact h)
      go_wp2
      go_ret
      exact ⟨_, rfl, by rw [HE.out]; exact own_down HU.out.own (by omega), HU.out.low⟩
end Go.Proofs.Ytmndlhbgacgnlaa
