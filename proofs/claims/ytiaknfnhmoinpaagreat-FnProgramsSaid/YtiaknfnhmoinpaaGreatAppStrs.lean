/- A part of the proof of the seat's statement: AppStrs. Condition: as each says. -/
import Derived.Test.YtiaknfnhmoinpaaGreatRuSz
import Derived.Test.YtiaknfnhmoinpaaGreatFrame
import Derived.Deep.RegionHeld3
import Derived.Deep.QuietTactic
import Derived.BigQuiet
import Derived.Lib.Strings
import Derived.Test.YtiaknfnhmoinpaaGreatKids
import Derived.Test.YtiaknfnhmoinpaaGreatNames
import Derived.Deep.AppendLies
import Derived.Deep.RegionLaw
set_option maxHeartbeats 8000000
namespace Go.Proofs.YtiaknfnhmoinpaaGreat
open Go Go.RowKit
def ruIdx (p : Ru → Bool) : Nat → List Ru → Int
 | _, [] => -1
 | k, r :: l => if p r then (k : Int) else ruIdx p (k + 1) l
theorem ruIdx_here {p : Ru → Bool} {l : List Ru} {k : Nat} {r : Ru} (h : l[k]? = some r) : ruIdx p k (l.drop k) = if p r then (k : Int) else ruIdx p (k + 1) (l.drop (k + 1)) := by
 obtain ⟨h1, h2⟩ := List.getElem?_eq_some_iff.1 h
 rw [List.drop_eq_getElem_cons h1, h2, ruIdx]
theorem ruIdx_spec (p : Ru → Bool) : ∀ (l : List Ru) (k : Nat), (ruIdx p k l = -1 ∧ l.find? p = none) ∨ ∃ j r, ruIdx p k l = ((k + j : Nat) : Int) ∧ l[j]? = some r ∧ l.find? p = some r ∧ p r = true := by
 intro l
 induction l with
 | nil => intro k; exact Or.inl ⟨rfl, rfl⟩
 | cons x t ih =>
  intro k
  cases hx : p x with
  | true => exact Or.inr ⟨0, x, by rw [ruIdx, hx]; simp, rfl, by rw [List.find?_cons, hx], hx⟩
  | false =>
   rcases ih (k + 1) with ⟨h1, h2⟩ | ⟨j, r, h1, h2, h3, h4⟩
   · exact Or.inl ⟨by rw [ruIdx, hx]; exact h1, by rw [List.find?_cons, hx]; exact h2⟩
   exact Or.inr ⟨j + 1, r, by rw [ruIdx, hx]; simp only [Bool.false_eq_true, if_false]; rw [h1]; congr 1; omega, by simpa using h2, by rw [List.find?_cons, hx]; exact h3, h4⟩
def named (s : ByteArray) (r : Ru) : Bool := decide (r.name = s)
def namedC (s c : ByteArray) (r : Ru) : Bool := decide (r.name = s) && decide (r.con = c)
def firstR (l : List Ru) (s : ByteArray) : Int := ruIdx (named s) 0 l
def findR (l : List Ru) (s c : ByteArray) : Int := ruIdx (namedC s c) 0 l
def kindR (l : List Ru) (s : ByteArray) : Int := match l.find? (named s) with
 | none => 0
 | some r => if r.con.size = 0 then 1 else 2
def arityR (l : List Ru) (s : ByteArray) : Int := match l.find? (named s) with
 | none => -1
 | some r => (r.params.length : Int) + (if r.con.size = 0 then 0 else 1)
theorem pbox {w W : World} {u : Value} (hb : Below (w.alloc (.cells #[u] 26)).heap.size (w.alloc (.cells #[u] 26)) W) : W.cell? ⟨w.heap.size, 0, none⟩ = some u := by
 have h : W.heap[w.heap.size]? = some (.cells #[u] 26 (0, 0)) := (hb.block _ (by simp)).trans (by show (w.heap.push _)[w.heap.size]? = _; simp)
 rw [World.cell?, h]; rfl
theorem first_any (l : List Ru) (v : Value) (bs : List Nat) (s : ByteArray) (w : World) (hv : PrIs w v l bs) (hn : l.length ≤ 1099511627776) :
 Calls Tryz.prog 44 #[v, .string s] w (RetPost (.int .i64 (firstR l s)) w) := by
 obtain ⟨u, rfl, hu⟩ := hv
 obtain ⟨A, c, rfl, hc1, hc2, -⟩ := id hu
 have HU := zH (hu.below ((wB w.heap.size w).alloc (nR _) (.cells #[.slice A l.length c] 26)))
 obtain ⟨m, hm⟩ : ∃ m, m = l.length := ⟨_, rfl⟩
 rw [← hm] at hc1 HU hn ⊢
 have HM := zH hm
 have HB0 := zH ((wB w.heap.size w).alloc (nR _) (.cells #[.slice A m c] 26))
 have HF := zH (show firstR l s = ruIdx (named s) 0 (l.drop 0) from rfl)
 have hbx := pbox (w := w) (u := .slice A m c) (wB _ _)
 clear hu hm
 obtain ⟨W0, hW0⟩ : ∃ W0, W0 = w.alloc (.cells #[.slice A m c] 26) := ⟨_, rfl⟩
 rw [← hW0] at HU HB0 hbx
 have HW0 := zH hW0
 clear hW0
 go_enter Tryz.func44, Tryz.ntmps44
 go_wp2_with fail
 rw [← HW0.out]
 go_loopw [5] (fun i wr => ∃ (k : Nat), k ≤ m ∧ i = .int .i64 (k : Int) ∧ wr = W0 ∧ Hid (firstR l s = ruIdx (named s) k (l.drop k))) (fun i _ => m - (intOf i).toNat)
 case atStart => exact ⟨0, Nat.zero_le _, rfl, rfl, HF⟩
 case round =>
  obtain ⟨k, hk, rfl, rfl, HK⟩ := hrel
  by_cases hlt : k < m
  · obtain ⟨g, o, r, v1, v2, y, b, hA⟩ := HU.out.get k (by rw [← HM.out]; exact hlt)
    obtain rfl := hA.eq
    have c0 := hA.cells.c0
    have HG := zH (ruIdx_here (p := named s) hA.get)
    clear hA
    by_cases hx : r.name = s
    · have hbe := beq_yes hx
      have HE := zH (show firstR l s = (k : Int) by rw [HK.out, HG.out]; unfold named; rw [decide_eq_true hx]; rfl)
      clear hx
      go_wp2
      go_ret
      exact ⟨by rw [HE.out]; rfl, HB0.out⟩
    have hbe := beq_no hx
    have HE := zH (show firstR l s = ruIdx (named s) (k + 1) (l.drop (k + 1)) by rw [HK.out, HG.out]; unfold named; rw [decide_eq_false hx]; rfl)
    clear hx
    go_wp2
    go_roundw
    case rel => exact ⟨k + 1, by omega, by go_num, by trivial, HE⟩
    case measure => simp [intOf]; omega
  have HE := zH (show firstR l s = -1 by rw [HK.out, List.drop_eq_nil_of_le (by rw [← HM.out]; omega)]; rfl)
  go_wp2
  go_ret
  exact ⟨by rw [HE.out]; rfl, HB0.out⟩
theorem find_any (l : List Ru) (v : Value) (bs : List Nat) (s t : ByteArray) (w : World) (hv : PrIs w v l bs) (hn : l.length ≤ 1099511627776) :
 Calls Tryz.prog 18 #[v, .string s, .string t] w (RetPost (.int .i64 (findR l s t)) w) := by
 obtain ⟨u, rfl, hu⟩ := hv
 obtain ⟨A, c, rfl, hc1, hc2, -⟩ := id hu
 have HU := zH (hu.below ((wB w.heap.size w).alloc (nR _) (.cells #[.slice A l.length c] 26)))
 obtain ⟨m, hm⟩ : ∃ m, m = l.length := ⟨_, rfl⟩
 rw [← hm] at hc1 HU hn ⊢
 have HM := zH hm
 have HB0 := zH ((wB w.heap.size w).alloc (nR _) (.cells #[.slice A m c] 26))
 have HF := zH (show findR l s t = ruIdx (namedC s t) 0 (l.drop 0) from rfl)
 have hbx := pbox (w := w) (u := .slice A m c) (wB _ _)
 clear hu hm
 obtain ⟨W0, hW0⟩ : ∃ W0, W0 = w.alloc (.cells #[.slice A m c] 26) := ⟨_, rfl⟩
 rw [← hW0] at HU HB0 hbx
 have HW0 := zH hW0
 clear hW0
 go_enter Tryz.func18, Tryz.ntmps18
 go_wp2_with fail
 rw [← HW0.out]
 go_loopw [7] (fun i wr => ∃ (k : Nat), k ≤ m ∧ i = .int .i64 (k : Int) ∧ wr = W0 ∧ Hid (findR l s t = ruIdx (namedC s t) k (l.drop k))) (fun i _ => m - (intOf i).toNat)
 case atStart => exact ⟨0, Nat.zero_le _, rfl, rfl, HF⟩
 case round =>
  obtain ⟨k, hk, rfl, rfl, HK⟩ := hrel
  by_cases hlt : k < m
  · obtain ⟨g, o, r, v1, v2, y, b, hA⟩ := HU.out.get k (by rw [← HM.out]; exact hlt)
    obtain rfl := hA.eq
    have c0 := hA.cells.c0
    have c1 := hA.cells.c1
    have HG := zH (ruIdx_here (p := namedC s t) hA.get)
    clear hA
    by_cases hx : r.name = s
    · have hbe := beq_yes hx
      by_cases hy : r.con = t
      · have hbc := beq_yes hy
        have HE := zH (show findR l s t = (k : Int) by rw [HK.out, HG.out]; unfold namedC; rw [decide_eq_true hx, decide_eq_true hy]; rfl)
        clear hx hy
        go_wp2
        go_ret
        exact ⟨by rw [HE.out]; rfl, HB0.out⟩
      have hbc := beq_no hy
      have HE := zH (show findR l s t = ruIdx (namedC s t) (k + 1) (l.drop (k + 1)) by rw [HK.out, HG.out]; unfold namedC; rw [decide_eq_false hy, Bool.and_false]; rfl)
      clear hx hy
      go_wp2
      go_roundw
      case rel => exact ⟨k + 1, by omega, by go_num, by trivial, HE⟩
      case measure => simp [intOf]; omega
    have hbe := beq_no hx
    have HE := zH (show findR l s t = ruIdx (namedC s t) (k + 1) (l.drop (k + 1)) by rw [HK.out, HG.out]; unfold namedC; rw [decide_eq_false hx, Bool.false_and]; rfl)
    clear hx
    go_wp2
    go_roundw
    case rel => exact ⟨k + 1, by omega, by go_num, by trivial, HE⟩
    case measure => simp [intOf]; omega
  have HE := zH (show findR l s t = -1 by rw [HK.out, List.drop_eq_nil_of_le (by rw [← HM.out]; omega)]; rfl)
  go_wp2
  go_ret
  exact ⟨by rw [HE.out]; rfl, HB0.out⟩
theorem first_at (l : List Ru) (s : ByteArray) : (firstR l s = -1 ∧ l.find? (named s) = none) ∨ ∃ (j : Nat) (r : Ru), firstR l s = (j : Int) ∧ l[j]? = some r ∧ l.find? (named s) = some r := by
 unfold firstR
 rcases ruIdx_spec (named s) l 0 with ⟨h1, h2⟩ | ⟨j, r, h1, h2, h3, -⟩
 · exact Or.inl ⟨h1, h2⟩
 exact Or.inr ⟨j, r, by rw [h1, Nat.zero_add], h2, h3⟩
theorem empty_str (x : ByteArray) : x.toList.isEmpty = decide (x.size = 0) := by
 rw [Lib.toList_data]
 have h : x.data.toList.length = x.size := Array.length_toList
 cases hx : x.data.toList with
 | nil => rw [hx] at h; simp at h; simp [← h]
 | cons a t => rw [hx] at h; simp at h; simp [← h]
theorem kind_any (l : List Ru) (v : Value) (bs : List Nat) (s : ByteArray) (w : World) (hv : PrIs w v l bs) (hn : l.length ≤ 1099511627776) :
 Calls Tryz.prog 19 #[v, .string s] w (RetPost (.int .i64 (kindR l s)) w) := by
 have HC := zH (fun (W : World) (hb : Below w.heap.size w W) => first_any l v bs s W (hv.below hb) hn)
 obtain ⟨u, rfl, hu⟩ := hv
 obtain ⟨A, c, rfl, hc1, hc2, -⟩ := id hu
 have HU := zH (fun (W : World) (hb : Below w.heap.size w W) => hu.below hb)
 obtain ⟨m, hm⟩ : ∃ m, m = l.length := ⟨_, rfl⟩
 rw [← hm] at hc1 HU HC hn ⊢
 have HM := zH hm
 have HB0 := zH ((wB w.heap.size w).alloc (nR _) (.cells #[.slice A m c] 26))
 clear hu hm
 rcases first_at l s with ⟨h1, h2⟩ | ⟨j, r, h1, h2, h3⟩
 · have HE := zH (show kindR l s = 0 by unfold kindR; rw [h2])
   rw [h1] at HC
   clear h1 h2
   go_enter Tryz.func19, Tryz.ntmps19
   go_wp2_with (go_at_call 44; refine (HC.out _ HB0.out).mono ?_; rintro e w1 ⟨rfl, hb1⟩; have HB1 := zH (HB0.out.trans (hb1.mono HB0.out.size)); clear hb1)
   go_ret
   exact ⟨by rw [HE.out]; rfl, HB1.out⟩
 have HE := zH (show kindR l s = if r.con.size = 0 then 1 else 2 by unfold kindR; rw [h3])
 rw [h1] at HC
 have HJ := zH h2
 have hj := (List.getElem?_eq_some_iff.1 h2).1
 have hjm : (j : Int) < (m : Int) := by have := HM.out; omega
 have hcz := empty_str r.con
 clear h1 h2 h3
 go_enter Tryz.func19, Tryz.ntmps19
 go_wp2_with fail
 go_at_call 44
 refine (HC.out _ HB0.out).mono ?_
 rintro e w1 ⟨rfl, hb1⟩
 have hbx := pbox hb1
 have HB1 := zH (HB0.out.trans (hb1.mono HB0.out.size))
 obtain ⟨g, o, r2, v1, v2, y, b, hA⟩ := (HU.out w1 HB1.out).get j hj
 obtain rfl := hA.eq
 obtain rfl : r = r2 := Option.some.inj (HJ.out.symm.trans hA.get)
 have c1 := hA.cells.c1
 clear hA hb1 hj
 by_cases hz : r.con.size = 0
 · rw [decide_eq_true hz] at hcz
   rw [if_pos hz] at HE
   clear hz
   go_wp2_with fail
   go_ret
   exact ⟨by rw [HE.out]; rfl, HB1.out⟩
 rw [decide_eq_false hz] at hcz
 rw [if_neg hz] at HE
 clear hz
 go_wp2_with fail
 go_ret
 exact ⟨by rw [HE.out]; rfl, HB1.out⟩
theorem bitR (b : Bool) (w : World) : Calls Tryz.prog 45 #[.bool b] w fun e w' => e = .returned (.int .i64 (if b then 1 else 0)) ∧ w' = w := by
 cases b
 · go_enter Tryz.func45, Tryz.ntmps45
   go_wp2
   go_ret
   exact ⟨rfl, rfl⟩
 go_enter Tryz.func45, Tryz.ntmps45
 go_wp2
 go_ret
 exact ⟨rfl, rfl⟩
theorem arity_any (l : List Ru) (v : Value) (bs : List Nat) (s : ByteArray) (w : World) (hv : PrIs w v l bs) (hn : rusTot l ≤ 1048576) :
 Calls Tryz.prog 20 #[v, .string s] w (RetPost (.int .i64 (arityR l s)) w) := by
 have hll := rusTot_ge l
 have HC := zH (fun (W : World) (hb : Below w.heap.size w W) => first_any l v bs s W (hv.below hb) (by omega))
 obtain ⟨u, rfl, hu⟩ := hv
 obtain ⟨A, c, rfl, hc1, hc2, -⟩ := id hu
 have HU := zH (fun (W : World) (hb : Below w.heap.size w W) => hu.below hb)
 obtain ⟨m, hm⟩ : ∃ m, m = l.length := ⟨_, rfl⟩
 rw [← hm] at hc1 HU HC hll ⊢
 have HM := zH hm
 have HB0 := zH ((wB w.heap.size w).alloc (nR _) (.cells #[.slice A m c] 26))
 clear hu hm
 rcases first_at l s with ⟨h1, h2⟩ | ⟨j, r, h1, h2, h3⟩
 · have HE := zH (show arityR l s = -1 by unfold arityR; rw [h2])
   rw [h1] at HC
   clear h1 h2
   go_enter Tryz.func20, Tryz.ntmps20
   go_wp2_with (go_at_call 44; refine (HC.out _ HB0.out).mono ?_; rintro e w1 ⟨rfl, hb1⟩; have HB1 := zH (HB0.out.trans (hb1.mono HB0.out.size)); clear hb1)
   go_ret
   exact ⟨by rw [HE.out]; rfl, HB1.out⟩
 have HE := zH (show arityR l s = (r.params.length : Int) + (if r.con.size = 0 then 0 else 1) by unfold arityR; rw [h3])
 rw [h1] at HC
 have HJ := zH h2
 have hj := (List.getElem?_eq_some_iff.1 h2).1
 have hjm : (j : Int) < (m : Int) := by have := HM.out; omega
 have hcz := empty_str r.con
 clear h1 h2 h3
 go_enter Tryz.func20, Tryz.ntmps20
 go_wp2_with fail
 go_at_call 44
 refine (HC.out _ HB0.out).mono ?_
 rintro e w1 ⟨rfl, hb1⟩
 have hbx := pbox hb1
 have HB1 := zH (HB0.out.trans (hb1.mono HB0.out.size))
 obtain ⟨g, o, r2, v1, v2, y, b, hA⟩ := (HU.out w1 HB1.out).get j hj
 obtain rfl := hA.eq
 obtain rfl : r = r2 := Option.some.inj (HJ.out.symm.trans hA.get)
 have hsz := rusTot_mem hA.mem
 obtain ⟨b1, b2, b3, -, -, -, -, hp2, -⟩ := hA.is.parts
 obtain ⟨A2, c2', rfl⟩ := hp2.slice
 have c1 := hA.cells.c1
 have c3 := hA.cells.c3
 have hpl : r.params.length ≤ 1048576 := by unfold ruTot ssTot at hsz; omega
 clear hA hb1 hj hp2 hsz
 obtain ⟨q, hq⟩ : ∃ q, q = r.params.length := ⟨_, rfl⟩
 rw [← hq] at hpl HE c3
 have h0j : (0 : Int) ≤ (j : Int) := by omega
 clear hq
 have HBT := zH (fun (b : Bool) (W : World) => bitR b W)
 by_cases hz : r.con.size = 0
 · rw [decide_eq_true hz] at hcz
   rw [if_pos hz] at HE
   have hadd : IntKind.i64.wrap ((q : Int) + 0) = (q : Int) := by rw [Int.add_zero]; exact IntWalk.i64_in _ (by omega)
   have hneg : (!r.con.toList.isEmpty) = false := by rw [hcz]; rfl
   clear hz
   go_wp2_with fail
   go_quiet (first | (go_at_call 45; refine Calls.quiet_of_same (HBT.out _ _)))
   go_wp2
   go_ret
   exact ⟨by rw [HE.out]; simp, HB1.out.trans ⟨rfl, rfl, rfl, nR _, fun _ _ => rfl⟩⟩
 rw [decide_eq_false hz] at hcz
 rw [if_neg hz] at HE
 have hadd : IntKind.i64.wrap ((q : Int) + 1) = (q : Int) + 1 := IntWalk.i64_in _ (by omega)
 have hneg : (!r.con.toList.isEmpty) = true := by rw [hcz]; rfl
 clear hz
 go_wp2_with fail
 go_quiet (first | (go_at_call 45; refine Calls.quiet_of_same (HBT.out _ _)))
 go_wp2
 go_ret
 exact ⟨by rw [HE.out]; rfl, HB1.out.trans ⟨rfl, rfl, rfl, nR _, fun _ _ => rfl⟩⟩
def isNm (s : ByteArray) : Bool := nameL 97 122 s.data.toList
def allNm (xs : List ByteArray) : Bool := xs.all isNm
def within (xs all : List ByteArray) : Bool := xs.all (fun s => decide (0 ≤ idx all s))
theorem allNm_here {xs : List ByteArray} {k : Nat} {x : ByteArray} (h : xs[k]? = some x) : allNm (xs.drop k) = (isNm x && allNm (xs.drop (k + 1))) := by
 obtain ⟨h1, h2⟩ := List.getElem?_eq_some_iff.1 h
 rw [List.drop_eq_getElem_cons h1, h2, allNm, List.all_cons]; rfl
theorem within_here {xs all : List ByteArray} {k : Nat} {x : ByteArray} (h : xs[k]? = some x) : within (xs.drop k) all = (decide (0 ≤ idx all x) && within (xs.drop (k + 1)) all) := by
 obtain ⟨h1, h2⟩ := List.getElem?_eq_some_iff.1 h
 rw [List.drop_eq_getElem_cons h1, h2, within, List.all_cons]; rfl
theorem names_any (A : Option Addr) (xs : List ByteArray) (cap : Nat) (w : World) (hs : Strs w A xs) (hn : xs.length ≤ 1099511627776) (hz : ∀ x ∈ xs, x.size ≤ 1048576) :
 Calls Tryz.prog 77 #[.slice A xs.length cap] w fun e w' => e = .returned (.bool (allNm xs)) ∧ w = w' := by
 obtain ⟨n, hm⟩ : ∃ n, n = xs.length := ⟨_, rfl⟩
 rw [← hm] at hn ⊢
 have HN := zH hm
 have HS := zH hs
 have HZ := zH hz
 clear hs hm hz
 go_enter Tryz.func77, Tryz.ntmps77
 go_wp2_with fail
 go_loopw [3] (fun i wr => ∃ (k : Nat), k ≤ n ∧ i = .int .i64 (k : Int) ∧ Hid (allNm xs = allNm (xs.drop k)) ∧ wr = w) (fun i _ => n - (intOf i).toNat)
 case atStart => exact ⟨0, Nat.zero_le _, rfl, zH rfl, rfl⟩
 case round =>
  obtain ⟨k, hk, rfl, HK, rfl⟩ := hrel
  by_cases hlt : k < n
  · obtain ⟨a, e1, hca, hla⟩ := HS.out.at_ k (by rw [← HN.out]; exact hlt)
    have HG := zH (allNm_here (xs := xs) (k := k) (List.getElem?_eq_getElem (by rw [← HN.out]; exact hlt)))
    have hzx := HZ.out (xs[k]'(by rw [← HN.out]; exact hlt)) (List.getElem_mem _)
    subst e1
    generalize xs[k]'(by rw [← HN.out]; exact hlt) = x at *
    have HC := zH (isname_any x wr hzx)
    have hk0 : (0 : Int) ≤ (k : Int) := by omega
    have hkn : (k : Int) < (n : Int) := by omega
    cases hnm : isNm x
    · have HE := zH (show allNm xs = false by rw [HK.out, HG.out, hnm, Bool.false_and])
      have HNM := zH (show nameL 97 122 x.data.toList = false from hnm)
      clear hnm
      go_wp2_with (go_at_call 75; refine HC.out.mono ?_; rintro r w2 ⟨rfl, rfl⟩; rw [HNM.out])
      go_ret
      exact ⟨by rw [HE.out]; rfl, rfl⟩
    have HE := zH (show allNm xs = allNm (xs.drop (k + 1)) by rw [HK.out, HG.out, hnm, Bool.true_and])
    have HNM := zH (show nameL 97 122 x.data.toList = true from hnm)
    clear hnm
    go_wp2_with (go_at_call 75; refine HC.out.mono ?_; rintro r w2 ⟨rfl, rfl⟩; rw [HNM.out])
    go_roundw
    case rel => exact ⟨k + 1, by omega, by go_num, HE, trivial⟩
    case measure => simp [intOf]; omega
  have HE := zH (show allNm xs = true by rw [HK.out, List.drop_eq_nil_of_le (by rw [← HN.out]; omega)]; rfl)
  go_wp2
  go_ret
  exact ⟨by rw [HE.out]; rfl, rfl⟩
theorem within_any (A B : Option Addr) (xs ys : List ByteArray) (cap cap2 : Nat) (w : World) (hs : Strs w A xs) (hs2 : Strs w B ys) (hn : xs.length ≤ 1099511627776) (hm : ys.length ≤ 1099511627776) :
 Calls Tryz.prog 54 #[.slice A xs.length cap, .slice B ys.length cap2] w fun e w' => e = .returned (.bool (within xs ys)) ∧ w = w' := by
 obtain ⟨n, hl⟩ : ∃ n, n = xs.length := ⟨_, rfl⟩
 rw [← hl] at hn ⊢
 have HN := zH hl
 have HS := zH hs
 have HC := zH (fun (s : ByteArray) => idx_any B ys cap2 s w hs2 (by omega))
 generalize hq : ys.length = q at *
 clear hs hs2 hl hm hq
 go_enter Tryz.func54, Tryz.ntmps54
 go_wp2_with fail
 go_loopw [5] (fun i wr => ∃ (k : Nat), k ≤ n ∧ i = .int .i64 (k : Int) ∧ Hid (within xs ys = within (xs.drop k) ys) ∧ wr = w) (fun i _ => n - (intOf i).toNat)
 case atStart => exact ⟨0, Nat.zero_le _, rfl, zH rfl, rfl⟩
 case round =>
  obtain ⟨k, hk, rfl, HK, rfl⟩ := hrel
  by_cases hlt : k < n
  · obtain ⟨a, e1, hca, hla⟩ := HS.out.at_ k (by rw [← HN.out]; exact hlt)
    have HG := zH (within_here (xs := xs) (all := ys) (k := k) (List.getElem?_eq_getElem (by rw [← HN.out]; exact hlt)))
    subst e1
    generalize xs[k]'(by rw [← HN.out]; exact hlt) = x at *
    have hk0 : (0 : Int) ≤ (k : Int) := by omega
    have hkn : (k : Int) < (n : Int) := by omega
    have HCX := zH (HC.out x)
    by_cases hx : 0 ≤ idx ys x
    · have HE := zH (show within xs ys = within (xs.drop (k + 1)) ys by rw [HK.out, HG.out, decide_eq_true hx, Bool.true_and])
      generalize idx ys x = z at *
      go_wp2_with (go_at_call 78; refine HCX.out.mono ?_; rintro r w2 ⟨rfl, rfl⟩)
      go_roundw
      case rel => exact ⟨k + 1, by omega, by go_num, HE, trivial⟩
      case measure => simp [intOf]; omega
    have HE := zH (show within xs ys = false by rw [HK.out, HG.out, decide_eq_false hx, Bool.false_and])
    generalize idx ys x = z at *
    have hx2 : z < 0 := by omega
    go_wp2_with (go_at_call 78; refine HCX.out.mono ?_; rintro r w2 ⟨rfl, rfl⟩)
    go_ret
    exact ⟨by rw [HE.out]; rfl, rfl⟩
  have HE := zH (show within xs ys = true by rw [HK.out, List.drop_eq_nil_of_le (by rw [← HN.out]; omega)]; rfl)
  go_wp2
  go_ret
  exact ⟨by rw [HE.out]; rfl, rfl⟩
theorem run_append_none {P : Program} (w : World) (t ty e : TypeId) (i : TypeInfo) (ht : P.underlying t = some (.slice e)) (hi : P.info? e = some i) (A A2 : Option Addr) (n c c2 : Nat) (h : n ≤ c) :
 (Builtin.append_ #[t, t] ty #[.slice A n c, .slice A2 0 c2]).run P w = .ok (.slice A n c) w := by
 cases A2 <;> cases A <;> simp [Builtin.append_, run_underlying ht, sizeOf, typeInfo, hi, Builtin.lenOf, Builtin.firstCells, loadCells, loadCellsFrom, h, storeCells]
theorem run_append_strs (w : World) (ty : TypeId) (base : Nat) (v : Value) (xs : List ByteArray) (hown : OwnsL base w v xs) (A : Option Addr) (ys : List ByteArray) (c : Nat) (hys : Strs w A ys) (h63 : xs.length + ys.length ≤ 1099511627776) (hbase : base ≤ w.heap.size) :
 ∃ v' w', (Builtin.append_ #[29, 29] ty #[v, .slice A ys.length c]).run Tryz.prog w = .ok v' w' ∧ OwnsL base w' v' (xs ++ ys) ∧ w.grownBy w' v.ownBlock := by
 have hx := Tryz.info9u
 cases hi : Tryz.prog.info? 9 with
 | none => rw [hi] at hx; cases hx
 | some i =>
  rw [hi] at hx
  simp only [Option.map_some, Option.some.injEq, Prod.mk.injEq] at hx
  obtain ⟨hz, hsz, hby⟩ := hx
  cases ys with
  | nil =>
   have hle : ∃ A0 c0, v = .slice A0 xs.length c0 ∧ xs.length ≤ c0 := by
    obtain ⟨A0, c0, rfl, -⟩ := hown.shape
    refine ⟨A0, c0, rfl, ?_⟩
    rcases hown.2 with ⟨h0, -⟩ | ⟨g, cap, cur, h0, -, -, hn, -⟩
    · simp only [Value.slice.injEq] at h0; omega
    simp only [Value.slice.injEq] at h0; omega
   obtain ⟨A0, c0, rfl, hle⟩ := hle
   refine ⟨_, w, run_append_none w _ ty _ i Tryz.underlying29 hi _ _ _ _ _ hle, by rw [List.append_nil]; exact hown, ?_⟩
   exact ⟨rfl, rfl, rfl, nR _, fun _ _ _ => rfl⟩
  | cons y t =>
   obtain ⟨ad, rfl, -, -⟩ := hys.at_ 0 (by simp)
   obtain ⟨g, cap, w', hr, h2, h3, -, -⟩ := run_append_lies (P := Tryz.prog) (w := w) 29 ty base 9 i (.string ⟨#[]⟩) 1 16 Tryz.underlying29 hi hz hsz hby rfl (by decide) v xs.length (xs.map Value.string) hown ad (y :: t).length c ((y :: t).map Value.string) (by simp)
    (fun j u hj => by
     rw [List.getElem?_map] at hj
     cases hjj : (y :: t)[j]? with
     | none => rw [hjj] at hj; cases hj
     | some s =>
      rw [hjj] at hj
      cases hj
      obtain ⟨h1, h2⟩ := List.getElem?_eq_some_iff.1 hjj
      obtain ⟨a, e, h3, -⟩ := hys.at_ j h1
      cases e
      rw [h3, h2])
    (fun u hu => by
     obtain ⟨s, -, rfl⟩ := List.mem_map.1 hu
     rfl) (by simp) (by unfold maxLen; simp at h63 ⊢; omega) (by simp at h63 ⊢; omega) hbase w.heap.size rfl
   refine ⟨_, w', hr, ?_, h3⟩
   unfold OwnsL
   rw [lA, List.map_append]
   exact h2
theorem step_append_strs {ops : Array Oper} {o : Oper} {a : Act} {w : World} {K : Act → World → Prop} {Q : Exit → Act → World → Prop} {E : Prop} (hgd : o.guard = none) (s x : Operand)
 (ho : o.op = .call { callee := .builtin .append, args := #[s, x], argTypes := #[29, 29] })
 (base : Nat) (v : Value) (xs : List ByteArray) (hs : a.eval s = v) (hown : OwnsL base w v xs) (A : Option Addr) (ys : List ByteArray) (c : Nat) (hx : a.eval x = .slice A ys.length c) (hys : Strs w A ys) (h63 : xs.length + ys.length ≤ 1099511627776) (hbase : base ≤ w.heap.size)
 (h : ∀ v' w', OwnsL base w' v' (xs ++ ys) → w.grownBy w' v.ownBlock → K (a.put o.dst v') w') :
 if Region.wanted o (yielded ops a.tmps) = true then Oper.wp Tryz.prog o a w K Q else E := by
 have hw : Region.wanted o (yielded ops a.tmps) = true := by simp [Region.wanted, hgd]
 rw [if_pos hw]
 obtain ⟨v', w', hr, h2, h3⟩ := run_append_strs w o.type base v xs hown A ys c hys h63 hbase
 unfold Oper.wp execOp
 simp only [ho, resolve, invoke, builtin, Sem.run_bind, Sem.run_pure, Result.andThen_ok, List.map_toArray, List.map_cons, List.map_nil, hs, hx, hr]
 exact h v' w' h2 h3
theorem wpList_append_strs {w : World} {ops : Array Oper} {rest : List Oper} {o : Oper} {a : Act} {Q : Exit → Act → World → Prop} (hgd : o.guard = none) (s x : Operand)
 (ho : o.op = .call { callee := .builtin .append, args := #[s, x], argTypes := #[29, 29] })
 (base : Nat) (v : Value) (xs : List ByteArray) (hs : a.eval s = v) (hown : OwnsL base w v xs) (A : Option Addr) (ys : List ByteArray) (c : Nat) (hx : a.eval x = .slice A ys.length c) (hys : Strs w A ys) (h63 : xs.length + ys.length ≤ 1099511627776) (hbase : base ≤ w.heap.size)
 (h : ∀ v' w', OwnsL base w' v' (xs ++ ys) → w.grownBy w' v.ownBlock → wpList Tryz.prog ops Q rest (a.put o.dst v') w') : wpList Tryz.prog ops Q (o :: rest) a w := by
 refine wpList_plain hgd fun K hK => ?_
 obtain ⟨v', w', hr, h2, h3⟩ := run_append_strs w o.type base v xs hown A ys c hys h63 hbase
 unfold Oper.wp execOp
 simp only [ho, resolve, invoke, builtin, Sem.run_bind, Sem.run_pure, Result.andThen_ok, List.map_toArray, List.map_cons, List.map_nil, hs, hx, hr]
 exact hK _ _ (h v' w' h2 h3)
theorem strs_one (W : World) (x : ByteArray) : Strs (W.alloc (.cells #[.string x] 9)) (some ⟨W.heap.size, 0, none⟩) [x] := by
 intro i y hy
 refine ⟨_, rfl, ?_, by simp⟩
 have hi : i = 0 := by
  rcases i with _ | i
  · rfl
  simp at hy
 subst hi
 simp at hy
 rw [← hy]; simp [go_sem]
end Go.Proofs.YtiaknfnhmoinpaaGreat
