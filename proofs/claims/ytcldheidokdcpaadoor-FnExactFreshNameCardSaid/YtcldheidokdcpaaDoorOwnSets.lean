/- The contracts of the program's own setOfNames, AllDistinct and UniteNames. Conditions: lists of fewer than 2^40 elements, strings of a size that an int holds. -/
import Derived.Test.YtcldheidokdcpaaDoorSet
import Derived.Test.YtcldheidokdcpaaDoorSpecUnite
import Derived.Deep.LoopGhost
import Derived.Deep.Cut
namespace Go.Proofs.YtcldheidokdcpaaDoor
open Go Go.RowKit

def SetPost (xs : List ByteArray) (w : World) (e : Ending) (w' : World) : Prop := e = .returned (.map (some w.heap.size)) ∧ SetIs w' w.heap.size xs.length xs ∧ Below w.heap.size w w'

set_option maxHeartbeats 1000000 in
theorem own_set (A : Option Addr) (xs : List ByteArray) (cap : Nat) (w : World) (hs : Strs w A xs) (hn : xs.length ≤ 1099511627776) (hx : ∀ x ∈ xs, x.size ≤ 9223372036854775807) :
    Calls Tryd.prog 31 #[.slice A xs.length cap] w (SetPost xs w) := by
  obtain ⟨n, hnn⟩ : ∃ n, n = xs.length := ⟨_, rfl⟩
  have HN := Lib.hid hnn
  have HS := Lib.hid hs
  have HX := Lib.hid hx
  rw [← hnn]
  rw [← hnn] at hn
  clear hs hnn hx
  have hmm := run_makeHint
  go_enter Tryd.func31, Tryd.ntmps31
  go_wp2
  have H0 := Lib.hid (set_made w)
  have HB0 := Lib.hid ((Below.refl w.heap.size w).alloc (Nat.le_refl _) (.map #[] 0))
  clear hmm
  go_loopw [11] (fun i wr => ∃ k : Nat, k ≤ n ∧ i = .int .i64 (k : Int) ∧ Hid (SetIs wr w.heap.size k (xs.take k)) ∧ Hid (Below w.heap.size w wr)) (fun i _ => n - (intOf i).toNat)
  case atStart => exact ⟨0, Nat.zero_le _, rfl, H0, HB0⟩
  case round =>
    obtain ⟨k, hk, rfl, HT, HB⟩ := hrel
    by_cases hlt : k < n
    · obtain ⟨a, x, rfl, hc0, hmem, -, htake, hab⟩ := HS.out.get k (by rw [← HN.out]; exact hlt)
      have hc : wr.cell? (a.add k) = some (.string x) := (HB.out.cell (p := a.add k) (by rw [block_add]; exact hab)).trans hc0
      have HXS := Lib.hid (show x.size ≤ maxLen from HX.out x hmem)
      have HK := Lib.hid (show k < maxLen by unfold maxLen; omega)
      have HTK := Lib.hid htake
      clear hc0 hmem htake
      go_wp2_with (at_mapUpdate; refine add_set _ rfl _ _ _ rfl w.heap.size k _ rfl HT.out HK.out x rfl rfl HXS.out ?_; intro w1 hs1 hg1; have HT1 := Lib.hid hs1; have HG1 := Lib.hid hg1; clear hs1 hg1)
      go_roundw
      case rel => exact ⟨k + 1, by omega, by go_num, Lib.hid (by rw [HTK.out]; exact HT1.out), Lib.hid (HB.out.grown HG1.out HB.out.size (fun j hj => by cases hj; exact Nat.le_refl _))⟩
      case measure => simp [intOf]; omega
    · have HE := Lib.hid (show xs.take k = xs from List.take_of_length_le (by rw [← HN.out]; omega))
      have HK := Lib.hid (show k = xs.length by rw [← HN.out]; omega)
      go_wp2
      go_ret
      refine ⟨rfl, ?_, HB.out⟩
      have h := HT.out
      rw [HE.out, HK.out] at h
      exact h

def DistEnd (xs : List ByteArray) (w : World) (e : Ending) (w' : World) : Prop := e = .returned (.bool (distinct xs)) ∧ Below w.heap.size w w'
set_option maxHeartbeats 400000 in
theorem own_distinct (A : Option Addr) (xs : List ByteArray) (cap : Nat) (w : World) (hs : Strs w A xs) (hn : xs.length ≤ 1099511627776) (hx : ∀ x ∈ xs, x.size ≤ 9223372036854775807) :
    Calls Tryd.prog 18 #[.slice A xs.length cap] w (DistEnd xs w) := by
  have HF := Lib.hid (own_set A xs cap w hs hn hx)
  have HD := Lib.hid (set_size_distinct xs)
  clear hs hx
  obtain ⟨n, hnn⟩ : ∃ n, n = xs.length := ⟨_, rfl⟩
  have HN := Lib.hid hnn
  rw [← hnn]
  rw [← hnn] at hn
  have HD2 := Lib.hid (show (((uniteFrom [] xs).length : Int) == (n : Int)) = distinct xs by rw [hnn]; exact HD.out)
  have HF2 := Lib.hid (show Calls Tryd.prog 31 #[.slice A n cap] w (SetPost xs w) by rw [hnn]; exact HF.out)
  clear hnn HD HF
  unfold DistEnd
  generalize distinct xs = c at *
  go_enter Tryd.func18, Tryd.ntmps18
  go_wp2_with (first | (go_at_call 31; refine HF2.out.mono ?_; rintro e w1 ⟨rfl, hs1, hb1⟩; have HS1 := Lib.hid hs1; have HB1 := Lib.hid hb1; clear hs1 hb1) | (at_len; refine len_set _ rfl _ rfl w.heap.size _ xs rfl HS1.out ?_))
  go_ret
  exact ⟨by rw [← HD2.out]; rfl, HB1.out⟩

/-- What stands while the lists are united: the row, the set of the same strings, the two lists' slices. -/
structure Uni (w wr : World) (v : Value) (out : List ByteArray) (S0 S1 : Value) : Prop where
  own : wr.ownsRow (w.heap.size + 2) 9 1 v out.length (out.map Value.string)
  set : SetIs wr w.heap.size out.length out
  two : wr.heap[w.heap.size + 1]? = some (.cells #[S0, S1] 24 (0, 0))
  low : Below w.heap.size w wr
  size : w.heap.size + 2 ≤ wr.heap.size
theorem uni_start (w : World) (S0 S1 : Value) : Uni w ((w.alloc (.map #[] 0)).alloc (.cells #[S0, S1] 24)) (.slice none 0 0) [] S0 S1 := by
  refine ⟨World.ownsRow_nil _ _ _ _, (set_made w).alloc _, ?_, ((Below.refl _ _).alloc (Nat.le_refl _) _).alloc (by simp) _, by simp⟩
  have e : (w.alloc (.map #[] 0)).heap.size = w.heap.size + 1 := by simp
  rw [← e]; exact heap_alloc_new _ _
theorem Uni.cell0 {w wr : World} {v : Value} {out : List ByteArray} {S0 S1 : Value} (h : Uni w wr v out S0 S1) : wr.cell? ⟨w.heap.size + 1, 0, none⟩ = some S0 := by
  simp [World.cell?, h.two]
theorem Uni.cell1 {w wr : World} {v : Value} {out : List ByteArray} {S0 S1 : Value} (h : Uni w wr v out S0 S1) : wr.cell? ⟨w.heap.size + 1, 1, none⟩ = some S1 := by
  simp [World.cell?, h.two]
theorem own_ne {w : World} {B e s n b : Nat} {v : Value} {l : List Value} (h : w.ownsRow B e s v n l) (hb : b < B) : some b ≠ v.ownBlock := fun e1 => by
  have := (h.lt b e1.symm).1
  omega
theorem ne_own {w : World} {B e s n b : Nat} {v : Value} {l : List Value} (h : w.ownsRow B e s v n l) (hb : b < B) : v.ownBlock = none ∨ v.ownBlock ≠ some b := Or.inr (own_ne h hb).symm
theorem Uni.row {w wr w1 : World} {v : Value} {out : List ByteArray} {S0 S1 : Value} (h : Uni w wr v out S0 S1) (hg : wr.grownBy w1 (some w.heap.size)) (o : Obj) :
    (w1.alloc o).ownsRow (w.heap.size + 2) 9 1 v out.length (out.map Value.string) := (h.own.kept hg (ne_own h.own (by omega))).alloc o
theorem Uni.step {w wr w1 w2 : World} {v v2 : Value} {out : List ByteArray} {S0 S1 : Value} (h : Uni w wr v out S0 S1) (x : ByteArray) (hs : SetIs w1 w.heap.size (out.length + 1) (out ++ [x])) (hg : wr.grownBy w1 (some w.heap.size))
    (ho : w2.ownsRow (w.heap.size + 2) 9 1 v2 (out.length + 1) (out.map Value.string ++ [Value.string x])) (hg2 : (w1.alloc (.cells #[.string x] 9)).grownBy w2 v.ownBlock) : Uni w w2 v2 (out ++ [x]) S0 S1 := by
  have hr := h.row hg (.cells #[.string x] 9)
  have z1 := hg.size
  have z2 := hg2.size
  have z := h.size
  simp at z2
  have ha := World.grownBy_alloc w1 (.cells #[.string x] 9) none
  refine ⟨?_, ?_, ?_, ?_, by omega⟩
  · rw [List.length_append, List.map_append]; exact ho
  · have := (hs.alloc (.cells #[.string x] 9)).kept hg2 (own_ne hr (by omega))
    rw [List.length_append]; exact this
  · rw [hg2.block _ (by simp; omega) (own_ne hr (by omega)), ha.block _ (by omega) (by simp), hg.block _ (by omega) (by simp)]
    exact h.two
  · exact ((h.low.grown hg h.low.size (fun j hj => by cases hj; exact Nat.le_refl _)).alloc (by omega) _).grown hg2 (by simp; omega) (fun j hj => by have := (hr.lt j hj).1; omega)
theorem Uni.read {w wr : World} {v : Value} {out : List ByteArray} {S0 S1 : Value} (h : Uni w wr v out S0 S1) : ∃ A cap, v = .slice A out.length cap := by
  obtain ⟨A, c, e, -⟩ := OwnsL.shape (show OwnsL (w.heap.size + 2) wr v out from h.own)
  exact ⟨A, c, e⟩
theorem own_down {w : World} {B C : Nat} {v : Value} {out : List ByteArray} (h : OwnsL B w v out) (hC : C ≤ B) : OwnsL C w v out := by
  refine ⟨h.1, ?_⟩
  rcases h.2 with h2 | ⟨g, cap, cur, e, hb, r⟩
  · exact Or.inl h2
  · exact Or.inr ⟨g, cap, cur, e, Nat.le_trans hC hb, r⟩
/-- What is still to come when m of the two lists are done. -/
def restU (xs ys out : List ByteArray) : Nat → List ByteArray
  | 0 => uniteFrom (uniteFrom out xs) ys
  | 1 => uniteFrom out ys
  | _ => out
/-- The list of a round, and where it lies. -/
structure CurU (w wr : World) (A : Option Addr) (l : List ByteArray) (cap m : Nat) (xs ys out : List ByteArray) : Prop where
  cell : wr.cell? ⟨w.heap.size + 1, m, none⟩ = some (.slice A l.length cap)
  strs : Strs w A l
  len : l.length ≤ 1099511627776
  sizes : ∀ x ∈ l, x.size ≤ 9223372036854775807
  rest : restU xs ys out m = restU xs ys (uniteFrom out l) (m + 1)

theorem bound0 (q : Nat) : ([] : List ByteArray).length ≤ 1099511627776 * q := Nat.zero_le _

set_option maxHeartbeats 4000000 in
theorem own_unite (A B : Option Addr) (xs ys : List ByteArray) (cap cap2 : Nat) (w : World) (hs : Strs w A xs) (hs2 : Strs w B ys) (hn : xs.length ≤ 1099511627776) (hm : ys.length ≤ 1099511627776) (hx : ∀ x ∈ xs, x.size ≤ 9223372036854775807) (hy : ∀ x ∈ ys, x.size ≤ 9223372036854775807) :
    Calls Tryd.prog 9 #[.slice A xs.length cap, .slice B ys.length cap2] w (UnitePost xs ys w) := by
  obtain ⟨i0, hi, hz0, hz1, hz2⟩ := info_parts Tryd.info9u
  have HI := Lib.hid (And.intro hi (And.intro hz0 (And.intro hz1 hz2)))
  clear hi hz0 hz1 hz2
  have HCU := Lib.hid (fun (wr : World) (v : Value) (out : List ByteArray) (h : Uni w wr v out (.slice A xs.length cap) (.slice B ys.length cap2)) (m : Nat) (hm2 : m < 2) => show ∃ A' l c', CurU w wr A' l c' m xs ys out by
    rcases m with _ | _ | m
    · exact ⟨A, xs, cap, h.cell0, hs, hn, hx, rfl⟩
    · exact ⟨B, ys, cap2, h.cell1, hs2, hm, hy, rfl⟩
    · omega)
  obtain ⟨n, hnn⟩ : ∃ n, n = xs.length := ⟨_, rfl⟩
  obtain ⟨m, hmm⟩ : ∃ m, m = ys.length := ⟨_, rfl⟩
  have H0 := uni_start w (.slice A xs.length cap) (.slice B ys.length cap2)
  rw [← hnn, ← hmm] at HCU
  rw [← hnn, ← hmm] at H0
  have H0 := Lib.hid H0
  rw [← hnn, ← hmm]
  rw [← hnn] at hn
  rw [← hmm] at hm
  clear hs hnn hs2 hmm hx hy
  have hmk := run_makeHint
  go_enter Tryd.func9, Tryd.ntmps9
  go_wp2
  clear hmk
  go_loopg [5, 21] 2 (fun g v j wr => ∃ (q : Nat) (out : List ByteArray), q ≤ 2 ∧ g = 2 - q ∧ j = .int .i64 (q : Int) ∧ Hid (out.length ≤ 1099511627776 * q) ∧ Hid (Uni w wr v out (.slice A n cap) (.slice B m cap2)) ∧ Hid (unite xs ys = restU xs ys out q))
  case atStart => exact ⟨0, [], by omega, rfl, rfl, Lib.hid (bound0 0), H0, Lib.hid rfl⟩
  case round =>
    obtain ⟨q, out, hq, rfl, rfl, HOL, HU, HR⟩ := hrel
    clear H0
    by_cases hlt : q < 2
    · obtain ⟨A', l, c', hcur⟩ := HCU.out wr _ _ HU.out q hlt
      have hc := hcur.cell
      obtain ⟨L, hL⟩ : ∃ L, L = l.length := ⟨_, rfl⟩
      rw [← hL] at hc
      have HL := Lib.hid hL
      have hLn : L ≤ 1099511627776 := by rw [hL]; exact hcur.len
      have HS := Lib.hid hcur.strs
      have HX := Lib.hid hcur.sizes
      have HR2 := Lib.hid (HR.out.trans hcur.rest)
      clear hcur hL
      obtain ⟨A2, c2, hv⟩ := HU.out.read
      subst hv
      have hqd : decide ((q : Int) < 2) = true := by simp; omega
      go_wp2
      go_loopg [5, 27] L (fun g v i wi => ∃ (k : Nat) (o : List ByteArray), k ≤ L ∧ g = L - k ∧ i = .int .i64 (k : Int) ∧ Hid (o.length ≤ 1099511627776 * q + k) ∧ Hid (Uni w wi v o (.slice A n cap) (.slice B m cap2)) ∧ Hid (uniteFrom out l = uniteFrom o (l.drop k)))
      case atStart => exact ⟨0, out, Nat.zero_le _, rfl, rfl, HOL, HU, Lib.hid rfl⟩
      case round =>
        clear HU hc HOL
        obtain ⟨k, o, hk, rfl, rfl, HOL, HU, HK⟩ := hrel
        obtain ⟨A3, c3, hv⟩ := HU.out.read
        subst hv
        by_cases hlt2 : k < L
        · obtain ⟨a, x, rfl, hc0, hmem, hx, -, hab⟩ := HS.out.get k (by rw [← HL.out]; exact hlt2)
          have hc := (HU.out.low.cell (p := a.add k) (by rw [block_add]; exact hab)).trans hc0
          have HX1 := Lib.hid (show x.size ≤ maxLen from HX.out x hmem)
          have HXX := Lib.hid hx
          clear hx hc0 hmem hab
          by_cases hr : 0 ≤ idx o x
          · have HIN := Lib.hid (show inL o x = true from decide_eq_true hr)
            have HK2 := Lib.hid (HK.out.trans (unite_hit HXX.out hr))
            clear hr
            go_wp2_with (at_lookup; refine look_set _ rfl _ _ rfl w.heap.size o.length o rfl HU.out.set x rfl HX1.out true HIN.out ?_)
            go_roundg (L - (k + 1))
            case measure => omega
            case rel => exact ⟨k + 1, o, by omega, rfl, by go_num, Lib.hid (by have := HOL.out; omega), HU, HK2⟩
          · have HIN := Lib.hid (show inL o x = false from decide_eq_false hr)
            have HK2 := Lib.hid (HK.out.trans (unite_miss HXX.out hr))
            have C0 := Lib.hid (show o.length < maxLen by have := HOL.out; unfold maxLen; omega)
            have C1 := Lib.hid (show o.length + 1 ≤ maxLen by have := HOL.out; unfold maxLen; omega)
            have C2 := Lib.hid (show (o.length + 1) * 16 ≤ 140737488355328 by have := HOL.out; omega)
            have HDL := Lib.hid (show (o ++ [x]).length ≤ 1099511627776 * q + (k + 1) by have := HOL.out; rw [List.length_append]; simp; omega)
            have H1C := Lib.hid (one_new (x := x))
            clear hr
            go_wp2_with (first
              | (at_lookup; refine look_set _ rfl _ _ rfl w.heap.size o.length o rfl HU.out.set x rfl HX1.out false HIN.out ?_)
              | (at_mapUpdate; refine add_set _ rfl _ _ _ rfl w.heap.size o.length o rfl HU.out.set C0.out x rfl rfl HX1.out ?_; intro w1 hs1 hg1; have HS1 := Lib.hid hs1; have HG1 := Lib.hid hg1; have HO2 := Lib.hid (HU.out.row hg1 (.cells #[.string x] 9)); have HNW := Lib.hid (cell_new (W := w1) (x := x)); have C4 := Lib.hid (show w.heap.size + 2 ≤ (w1.alloc (.cells #[.string x] 9)).heap.size by have h1 := HU.out.size; have h2 := hg1.size; simp; omega); clear hs1 hg1)
              | (at_builtin; (refine wpList_append_own _ rfl (.tmp 37) (.tmp 39) 24 rfl (w.heap.size + 2) 9 i0 (.string ⟨#[]⟩) 1 16 Tryd.underlying24 HI.out.1 HI.out.2.1 HI.out.2.2.1 HI.out.2.2.2 rfl (by decide) (.slice A3 o.length c3) _ _ rfl HO2.out ⟨w1.heap.size, 0, none⟩ 1 1 [.string x] rfl rfl HNW.out H1C.out C1.out C2.out C4.out ?_); intro v2 w2 ho2 hg2 _; have HU2 := Lib.hid (HU.out.step x HS1.out HG1.out ho2 hg2); clear ho2 hg2))
            go_roundg (L - (k + 1))
            case measure => omega
            case rel => exact ⟨k + 1, _, by omega, rfl, by go_num, HDL, HU2, HK2⟩
        · have HE := Lib.hid (show uniteFrom out l = o from HK.out.trans (unite_end (by rw [← HL.out]; omega)))
          have HRX := Lib.hid (show unite xs ys = restU xs ys o (q + 1) by rw [← HE.out]; exact HR2.out)
          go_wp2
          go_roundg (2 - (q + 1))
          case measure => omega
          case rel => exact ⟨q + 1, o, by omega, rfl, by go_num, Lib.hid (by have := HOL.out; omega), HU, HRX⟩
    · have HE := Lib.hid (show unite xs ys = out by
        have h := HR.out
        rw [show q = 2 by omega] at h
        exact h)
      go_wp2
      go_ret
      exact ⟨_, rfl, by rw [HE.out]; exact own_down HU.out.own (by omega), HU.out.low⟩
end Go.Proofs.YtcldheidokdcpaaDoor
