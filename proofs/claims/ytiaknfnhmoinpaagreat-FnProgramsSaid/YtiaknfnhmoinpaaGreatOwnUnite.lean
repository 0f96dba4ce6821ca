/- A part of the proof of the seat's statement: OwnUnite. Condition: as each says. -/
import Derived.Test.YtiaknfnhmoinpaaGreatSet
import Derived.Test.YtiaknfnhmoinpaaGreatRuSz
import Derived.Deep.LoopGhost
import Derived.Deep.Cut
import Derived.Test.YtiaknfnhmoinpaaGreatFrame
import Derived.Test.YtiaknfnhmoinpaaGreatKids
import Derived.Deep.QuietTactic
import Derived.BigQuiet
set_option maxHeartbeats 8000000
namespace Go.Proofs.YtiaknfnhmoinpaaGreat
open Go Go.RowKit
def SetPost (xs : List ByteArray) (w : World) (e : Ending) (w' : World) : Prop := e = .returned (.map (some w.heap.size)) ∧ SetIs w' w.heap.size xs.length xs ∧ Below w.heap.size w w'
theorem own_set (A : Option Addr) (xs : List ByteArray) (cap : Nat) (w : World) (hs : Strs w A xs) (hn : xs.length ≤ 1099511627776) (hx : ∀ x ∈ xs, x.size ≤ 9223372036854775807) :
 Calls Tryz.prog 104 #[.slice A xs.length cap] w (SetPost xs w) := by
 obtain ⟨n, hnn⟩ : ∃ n, n = xs.length := ⟨_, rfl⟩
 have HN := zH hnn
 have HS := zH hs
 have HX := zH hx
 rw [← hnn]
 rw [← hnn] at hn
 clear hs hnn hx
 have hmm := run_makeHint
 go_enter Tryz.func104, Tryz.ntmps104
 go_wp2
 have H0 := zH (set_made w)
 have HB0 := zH ((wB w.heap.size w).alloc (nR _) (.map #[] 0))
 clear hmm
 go_loopw [11] (fun i wr => ∃ k : Nat, k ≤ n ∧ i = .int .i64 (k : Int) ∧ Hid (SetIs wr w.heap.size k (xs.take k)) ∧ Hid (Below w.heap.size w wr)) (fun i _ => n - (intOf i).toNat)
 case atStart => exact ⟨0, Nat.zero_le _, rfl, H0, HB0⟩
 case round =>
  obtain ⟨k, hk, rfl, HT, HB⟩ := hrel
  by_cases hlt : k < n
  · obtain ⟨a, x, rfl, hc0, hmem, -, htake, hab⟩ := HS.out.get k (by rw [← HN.out]; exact hlt)
    have hc : wr.cell? (a.add k) = some (.string x) := (HB.out.cell (p := a.add k) (by rw [block_add]; exact hab)).trans hc0
    have HXS := zH (show x.size ≤ maxLen from HX.out x hmem)
    have HK := zH (show k < maxLen by unfold maxLen; omega)
    have HTK := zH htake
    clear hc0 hmem htake
    go_wp2_with (at_mapUpdate; refine add_set _ rfl _ _ _ rfl w.heap.size k _ rfl HT.out HK.out x rfl rfl HXS.out ?_; intro w1 hs1 hg1; have HT1 := zH hs1; have HG1 := zH hg1; clear hs1 hg1)
    go_roundw
    case rel => exact ⟨k + 1, by omega, by go_num, zH (by rw [HTK.out]; exact HT1.out), zH (HB.out.grown HG1.out HB.out.size (fun j hj => by cases hj; exact nR _))⟩
    case measure => simp [intOf]; omega
  have HE := zH (show xs.take k = xs from List.take_of_length_le (by rw [← HN.out]; omega))
  have HK := zH (show k = xs.length by rw [← HN.out]; omega)
  go_wp2
  go_ret
  refine ⟨rfl, ?_, HB.out⟩
  have h := HT.out
  rw [HE.out, HK.out] at h
  exact h
def DistEnd (xs : List ByteArray) (w : World) (e : Ending) (w' : World) : Prop := e = .returned (.bool (distinct xs)) ∧ Below w.heap.size w w'
theorem own_distinct (A : Option Addr) (xs : List ByteArray) (cap : Nat) (w : World) (hs : Strs w A xs) (hn : xs.length ≤ 1099511627776) (hx : ∀ x ∈ xs, x.size ≤ 9223372036854775807) :
 Calls Tryz.prog 92 #[.slice A xs.length cap] w (DistEnd xs w) := by
 have HF := zH (own_set A xs cap w hs hn hx)
 have HD := zH (set_size_distinct xs)
 clear hs hx
 obtain ⟨n, hnn⟩ : ∃ n, n = xs.length := ⟨_, rfl⟩
 have HN := zH hnn
 rw [← hnn]
 rw [← hnn] at hn
 have HD2 := zH (show (((uniteFrom [] xs).length : Int) == (n : Int)) = distinct xs by rw [hnn]; exact HD.out)
 have HF2 := zH (show Calls Tryz.prog 104 #[.slice A n cap] w (SetPost xs w) by rw [hnn]; exact HF.out)
 clear hnn HD HF
 unfold DistEnd
 generalize distinct xs = c at *
 go_enter Tryz.func92, Tryz.ntmps92
 go_wp2_with (first | (go_at_call 104; refine HF2.out.mono ?_; rintro e w1 ⟨rfl, hs1, hb1⟩; have HS1 := zH hs1; have HB1 := zH hb1; clear hs1 hb1) | (at_len; refine len_set _ rfl _ rfl w.heap.size _ xs rfl HS1.out ?_))
 go_ret
 exact ⟨by rw [← HD2.out]; rfl, HB1.out⟩
theorem beq_yes2 {x s : ByteArray} (h : x = s) : (s.toList == x.toList) = true := by rw [h]; simp
theorem beq_no2 {x s : ByteArray} (h : ¬ x = s) : (s.toList == x.toList) = false := by
 cases hb : (s.toList == x.toList) with
 | false => rfl
 | true =>
  rw [beq_iff_eq, ByteArray.toList_eq, ByteArray.toList_eq] at hb
  exact absurd (bytes_eq hb.symm) h
theorem lib_index (A : Option Addr) (xs : List ByteArray) (cap : Nat) (s : ByteArray) (w : World) (hs : Strs w A xs) (hn : xs.length ≤ 140737488355328) :
 Calls Tryz.prog 95 #[.slice A xs.length cap, .string s] w fun e w' => e = .returned (.int .i64 (idx xs s)) ∧ w = w' := by
 obtain ⟨n, hnn⟩ : ∃ n, n = xs.length := ⟨_, rfl⟩
 have HN := zH hnn
 have HS := zH hs
 rw [← hnn]
 rw [← hnn] at hn
 clear hs hnn
 go_enter Tryz.func95, Tryz.ntmps95
 go_wp2
 go_loop [8] (fun i => ∃ k : Nat, k ≤ n ∧ i = .int .i64 (k : Int) ∧ Hid (idx xs s = idxFrom s k (xs.drop k))) (fun i => n - (intOf i).toNat)
 case atStart => exact ⟨0, Nat.zero_le _, rfl, zH rfl⟩
 case round =>
  obtain ⟨k, hk, rfl, HK⟩ := hrel
  by_cases hlt : k < n
  · obtain ⟨a, x, rfl, hc, -, hx, -, -⟩ := HS.out.get k (by rw [← HN.out]; exact hlt)
    have HD := zH (idx_here xs s k x hx)
    clear hx
    by_cases e : x = s
    · have hb := beq_yes2 e
      have HE := zH (HK.out.trans (HD.out.1 e))
      clear e
      go_wp2
      go_ret
      exact ⟨by rw [HE.out]; rfl, rfl⟩
    have hb := beq_no2 e
    have HE := zH (HK.out.trans (HD.out.2 e))
    clear e
    go_wp2
    go_round
    case rel => exact ⟨k + 1, by omega, by go_num, HE⟩
    case measure => simp [intOf]; omega
  have HE := zH (show idxFrom s k (xs.drop k) = -1 by rw [List.drop_eq_nil_of_le (by rw [← HN.out]; omega)]; rfl)
  go_wp2
  go_ret
  exact ⟨by rw [HK.out, HE.out]; rfl, rfl⟩
theorem own_index (A : Option Addr) (xs : List ByteArray) (cap : Nat) (s : ByteArray) (w : World) (hs : Strs w A xs) (hn : xs.length ≤ 140737488355328) :
 Calls Tryz.prog 72 #[.slice A xs.length cap, .string s] w fun e w' => e = .returned (.int .i64 (idx xs s)) ∧ Below w.heap.size w w' := by
 have HF := zH (lib_index A xs cap s w hs hn)
 clear hs hn
 generalize idx xs s = r at *
 go_enter Tryz.func72, Tryz.ntmps72
 go_wp2_with fail
 go_at_call 95
 refine HF.out.mono ?_
 rintro e w' ⟨rfl, rfl⟩
 go_wp2_with fail
 go_ret
 exact ⟨rfl, wB _ _⟩
theorem unite_hit {xs out : List ByteArray} {k : Nat} {x : ByteArray} (h : xs[k]? = some x) (hi : 0 ≤ idx out x) : uniteFrom out (xs.drop k) = uniteFrom out (xs.drop (k + 1)) := by
 have hk : k < xs.length := (List.getElem?_eq_some_iff.1 h).1
 have e : xs[k] = x := (List.getElem?_eq_some_iff.1 h).2
 rw [List.drop_eq_getElem_cons hk, e, uniteFrom, if_pos hi]
theorem unite_miss {xs out : List ByteArray} {k : Nat} {x : ByteArray} (h : xs[k]? = some x) (hi : ¬ 0 ≤ idx out x) : uniteFrom out (xs.drop k) = uniteFrom (out ++ [x]) (xs.drop (k + 1)) := by
 have hk : k < xs.length := (List.getElem?_eq_some_iff.1 h).1
 have e : xs[k] = x := (List.getElem?_eq_some_iff.1 h).2
 rw [List.drop_eq_getElem_cons hk, e, uniteFrom, if_neg hi]
theorem unite_end {xs out : List ByteArray} {k : Nat} (h : xs.length ≤ k) : uniteFrom out (xs.drop k) = out := by
 rw [List.drop_eq_nil_of_le h, uniteFrom]
def UnitePost (a b : List ByteArray) (w : World) (e : Ending) (w' : World) : Prop :=
 ∃ v, e = .returned v ∧ OwnsL w.heap.size w' v (unite a b) ∧ Below w.heap.size w w'
structure Uni (w wr : World) (v : Value) (out : List ByteArray) (S0 S1 : Value) : Prop where
 own : wr.ownsRow (w.heap.size + 2) 9 1 v out.length (out.map Value.string)
 set : SetIs wr w.heap.size out.length out
 two : wr.heap[w.heap.size + 1]? = some (.cells #[S0, S1] 29 (0, 0))
 low : Below w.heap.size w wr
 size : w.heap.size + 2 ≤ wr.heap.size
theorem uni_start (w : World) (S0 S1 : Value) : Uni w ((w.alloc (.map #[] 0)).alloc (.cells #[S0, S1] 29)) (.slice none 0 0) [] S0 S1 := by
 refine ⟨World.ownsRow_nil _ _ _ _, (set_made w).alloc _, ?_, ((wB _ _).alloc (nR _) _).alloc (by simp) _, by simp⟩
 have e : (w.alloc (.map #[] 0)).heap.size = w.heap.size + 1 := by simp
 rw [← e]; exact heap_alloc_new _ _
theorem Uni.cell0 {w wr : World} {v : Value} {out : List ByteArray} {S0 S1 : Value} (h : Uni w wr v out S0 S1) : wr.cell? ⟨w.heap.size + 1, 0, none⟩ = some S0 := by
 simp [World.cell?, h.two]
theorem Uni.cell1 {w wr : World} {v : Value} {out : List ByteArray} {S0 S1 : Value} (h : Uni w wr v out S0 S1) : wr.cell? ⟨w.heap.size + 1, 1, none⟩ = some S1 := by
 simp [World.cell?, h.two]
theorem own_ne {w : World} {B e s n b : Nat} {v : Value} {l : List Value} (h : w.ownsRow B e s v n l) (hb : b < B) : some b ≠ v.ownBlock := fun e1 => by
 have := (h.lt b e1.symm).1
 omega
theorem ne_own {w : World} {B e s n b : Nat} {v : Value} {l : List Value} (h : w.ownsRow B e s v n l) (hb : b < B) : v.ownBlock = none ∨ v.ownBlock ≠ some b := Or.inr (own_ne h hb).symm
theorem Uni.row {w wr w1 : World} {v : Value} {out : List ByteArray} {S0 S1 : Value} (h : Uni w wr v out S0 S1) (hg : wr.grownBy w1 (some w.heap.size)) (o : Obj) :
 (w1.alloc o).ownsRow (w.heap.size + 2) 9 1 v out.length (out.map Value.string) := (h.own.kept hg (ne_own h.own (by omega))).alloc o
theorem Uni.step {w wr w1 w2 : World} {v v2 : Value} {out : List ByteArray} {S0 S1 : Value} (h : Uni w wr v out S0 S1) (x : ByteArray) (hs : SetIs w1 w.heap.size (out.length + 1) (out ++ [x])) (hg : wr.grownBy w1 (some w.heap.size))
 (ho : w2.ownsRow (w.heap.size + 2) 9 1 v2 (out.length + 1) (out.map Value.string ++ [Value.string x])) (hg2 : (w1.alloc (.cells #[.string x] 9)).grownBy w2 v.ownBlock) : Uni w w2 v2 (out ++ [x]) S0 S1 := by
 have hr := h.row hg (.cells #[.string x] 9)
 have z1 := hg.size
 have z2 := hg2.size
 have z := h.size
 simp at z2
 have ha := World.grownBy_alloc w1 (.cells #[.string x] 9) none
 refine ⟨?_, ?_, ?_, ?_, by omega⟩
 · rw [lA, List.map_append]; exact ho
 · have := (hs.alloc (.cells #[.string x] 9)).kept hg2 (own_ne hr (by omega))
   rw [lA]; exact this
 · rw [hg2.block _ (by simp; omega) (own_ne hr (by omega)), ha.block _ (by omega) (by simp), hg.block _ (by omega) (by simp)]
   exact h.two
 exact ((h.low.grown hg h.low.size (fun j hj => by cases hj; exact nR _)).alloc (by omega) _).grown hg2 (by simp; omega) (fun j hj => by have := (hr.lt j hj).1; omega)
theorem Uni.read {w wr : World} {v : Value} {out : List ByteArray} {S0 S1 : Value} (h : Uni w wr v out S0 S1) : ∃ A cap, v = .slice A out.length cap := by
 obtain ⟨A, c, e, -⟩ := OwnsL.shape (show OwnsL (w.heap.size + 2) wr v out from h.own)
 exact ⟨A, c, e⟩
theorem own_down {w : World} {B C : Nat} {v : Value} {out : List ByteArray} (h : OwnsL B w v out) (hC : C ≤ B) : OwnsL C w v out := by
 refine ⟨h.1, ?_⟩
 rcases h.2 with h2 | ⟨g, cap, cur, e, hb, r⟩
 · exact Or.inl h2
 exact Or.inr ⟨g, cap, cur, e, nT hC hb, r⟩
def restU (xs ys out : List ByteArray) : Nat → List ByteArray
 | 0 => uniteFrom (uniteFrom out xs) ys
 | 1 => uniteFrom out ys
 | _ => out
structure CurU (w wr : World) (A : Option Addr) (l : List ByteArray) (cap m : Nat) (xs ys out : List ByteArray) : Prop where
 cell : wr.cell? ⟨w.heap.size + 1, m, none⟩ = some (.slice A l.length cap)
 strs : Strs w A l
 len : l.length ≤ 1099511627776
 sizes : ∀ x ∈ l, x.size ≤ 9223372036854775807
 rest : restU xs ys out m = restU xs ys (uniteFrom out l) (m + 1)
theorem bound0 (q : Nat) : ([] : List ByteArray).length ≤ 1099511627776 * q := Nat.zero_le _
theorem own_unite (A B : Option Addr) (xs ys : List ByteArray) (cap cap2 : Nat) (w : World) (hs : Strs w A xs) (hs2 : Strs w B ys) (hn : xs.length ≤ 1099511627776) (hm : ys.length ≤ 1099511627776) (hx : ∀ x ∈ xs, x.size ≤ 9223372036854775807) (hy : ∀ x ∈ ys, x.size ≤ 9223372036854775807) :
 Calls Tryz.prog 94 #[.slice A xs.length cap, .slice B ys.length cap2] w (UnitePost xs ys w) := by
 obtain ⟨i0, hi, hz0, hz1, hz2⟩ := info_parts Tryz.info9u
 have HI := zH (aI hi (aI hz0 (aI hz1 hz2)))
 clear hi hz0 hz1 hz2
 have HCU := zH (fun (wr : World) (v : Value) (out : List ByteArray) (h : Uni w wr v out (.slice A xs.length cap) (.slice B ys.length cap2)) (m : Nat) (hm2 : m < 2) => show ∃ A' l c', CurU w wr A' l c' m xs ys out by
  rcases m with _ | _ | m
  · exact ⟨A, xs, cap, h.cell0, hs, hn, hx, rfl⟩
  · exact ⟨B, ys, cap2, h.cell1, hs2, hm, hy, rfl⟩
  omega)
 obtain ⟨n, hnn⟩ : ∃ n, n = xs.length := ⟨_, rfl⟩
 obtain ⟨m, hmm⟩ : ∃ m, m = ys.length := ⟨_, rfl⟩
 have H0 := uni_start w (.slice A xs.length cap) (.slice B ys.length cap2)
 rw [← hnn, ← hmm] at HCU
 rw [← hnn, ← hmm] at H0
 have H0 := zH H0
 rw [← hnn, ← hmm]
 rw [← hnn] at hn
 rw [← hmm] at hm
 clear hs hnn hs2 hmm hx hy
 have hmk := run_makeHint
 go_enter Tryz.func94, Tryz.ntmps94
 go_wp2
 clear hmk
 go_loopg [5, 21] 2 (fun g v j wr => ∃ (q : Nat) (out : List ByteArray), q ≤ 2 ∧ g = 2 - q ∧ j = .int .i64 (q : Int) ∧ Hid (out.length ≤ 1099511627776 * q) ∧ Hid (Uni w wr v out (.slice A n cap) (.slice B m cap2)) ∧ Hid (unite xs ys = restU xs ys out q))
 case atStart => exact ⟨0, [], by omega, rfl, rfl, zH (bound0 0), H0, zH rfl⟩
 case round =>
  obtain ⟨q, out, hq, rfl, rfl, HOL, HU, HR⟩ := hrel
  clear H0
  by_cases hlt : q < 2
  · obtain ⟨A', l, c', hcur⟩ := HCU.out wr _ _ HU.out q hlt
    have hc := hcur.cell
    obtain ⟨L, hL⟩ : ∃ L, L = l.length := ⟨_, rfl⟩
    rw [← hL] at hc
    have HL := zH hL
    have hLn : L ≤ 1099511627776 := by rw [hL]; exact hcur.len
    have HS := zH hcur.strs
    have HX := zH hcur.sizes
    have HR2 := zH (HR.out.trans hcur.rest)
    clear hcur hL
    obtain ⟨A2, c2, hv⟩ := HU.out.read
    subst hv
    have hqd : decide ((q : Int) < 2) = true := by simp; omega
    go_wp2
    go_loopg [5, 27] L (fun g v i wi => ∃ (k : Nat) (o : List ByteArray), k ≤ L ∧ g = L - k ∧ i = .int .i64 (k : Int) ∧ Hid (o.length ≤ 1099511627776 * q + k) ∧ Hid (Uni w wi v o (.slice A n cap) (.slice B m cap2)) ∧ Hid (uniteFrom out l = uniteFrom o (l.drop k)))
    case atStart => exact ⟨0, out, Nat.zero_le _, rfl, rfl, HOL, HU, zH rfl⟩
    case round =>
     clear HU hc HOL
     obtain ⟨k, o, hk, rfl, rfl, HOL, HU, HK⟩ := hrel
     obtain ⟨A3, c3, hv⟩ := HU.out.read
     subst hv
     by_cases hlt2 : k < L
     · obtain ⟨a, x, rfl, hc0, hmem, hx, -, hab⟩ := HS.out.get k (by rw [← HL.out]; exact hlt2)
       have hc := (HU.out.low.cell (p := a.add k) (by rw [block_add]; exact hab)).trans hc0
       have HX1 := zH (show x.size ≤ maxLen from HX.out x hmem)
       have HXX := zH hx
       clear hx hc0 hmem hab
       by_cases hr : 0 ≤ idx o x
       · have HIN := zH (show inL o x = true from decide_eq_true hr)
         have HK2 := zH (HK.out.trans (unite_hit HXX.out hr))
         clear hr
         go_wp2_with (at_lookup; refine look_set _ rfl _ _ rfl w.heap.size o.length o rfl HU.out.set x rfl HX1.out true HIN.out ?_)
         go_roundg (L - (k + 1))
         case measure => omega
         case rel => exact ⟨k + 1, o, by omega, rfl, by go_num, zH (by have := HOL.out; omega), HU, HK2⟩
       have HIN := zH (show inL o x = false from decide_eq_false hr)
       have HK2 := zH (HK.out.trans (unite_miss HXX.out hr))
       have C0 := zH (show o.length < maxLen by have := HOL.out; unfold maxLen; omega)
       have C1 := zH (show o.length + 1 ≤ maxLen by have := HOL.out; unfold maxLen; omega)
       have C2 := zH (show (o.length + 1) * 16 ≤ 140737488355328 by have := HOL.out; omega)
       have HDL := zH (show (o ++ [x]).length ≤ 1099511627776 * q + (k + 1) by have := HOL.out; rw [lA]; simp; omega)
       have H1C := zH (one_new (x := x))
       clear hr
       go_wp2_with (first
        | (at_lookup; refine look_set _ rfl _ _ rfl w.heap.size o.length o rfl HU.out.set x rfl HX1.out false HIN.out ?_)
        | (at_mapUpdate; refine add_set _ rfl _ _ _ rfl w.heap.size o.length o rfl HU.out.set C0.out x rfl rfl HX1.out ?_; intro w1 hs1 hg1; have HS1 := zH hs1; have HG1 := zH hg1; have HO2 := zH (HU.out.row hg1 (.cells #[.string x] 9)); have HNW := zH (cell_new (W := w1) (x := x)); have C4 := zH (show w.heap.size + 2 ≤ (w1.alloc (.cells #[.string x] 9)).heap.size by have h1 := HU.out.size; have h2 := hg1.size; simp; omega); clear hs1 hg1)
        | (at_builtin; (refine wpList_append_own _ rfl (.tmp 37) (.tmp 39) 29 rfl (w.heap.size + 2) 9 i0 (.string ⟨#[]⟩) 1 16 Tryz.underlying29 HI.out.1 HI.out.2.1 HI.out.2.2.1 HI.out.2.2.2 rfl (by decide) (.slice A3 o.length c3) _ _ rfl HO2.out ⟨w1.heap.size, 0, none⟩ 1 1 [.string x] rfl rfl HNW.out H1C.out C1.out C2.out C4.out ?_); intro v2 w2 ho2 hg2 _; have HU2 := zH (HU.out.step x HS1.out HG1.out ho2 hg2); clear ho2 hg2))
       go_roundg (L - (k + 1))
       case measure => omega
       case rel => exact ⟨k + 1, _, by omega, rfl, by go_num, HDL, HU2, HK2⟩
     have HE := zH (show uniteFrom out l = o from HK.out.trans (unite_end (by rw [← HL.out]; omega)))
     have HRX := zH (show unite xs ys = restU xs ys o (q + 1) by rw [← HE.out]; exact HR2.out)
     go_wp2
     go_roundg (2 - (q + 1))
     case measure => omega
     case rel => exact ⟨q + 1, o, by omega, rfl, by go_num, zH (by have := HOL.out; omega), HU, HRX⟩
  have HE := zH (show unite xs ys = out by
   have h := HR.out
   rw [show q = 2 by omega] at h
   exact h)
  go_wp2
  go_ret
  exact ⟨_, rfl, by rw [HE.out]; exact own_down HU.out.own (by omega), HU.out.low⟩
end Go.Proofs.YtiaknfnhmoinpaaGreat
