/- The contracts of the model's l5First, FunctionKind, FunctionArity and FindRule. Condition: the rules are fewer than 2^40. -/
import Derived.Test.YtmndlhbgacgnlaaGreatRuSz
import Derived.Test.YtmndlhbgacgnlaaGreatSpecNames
import Derived.Deep.RegionHeld3
import Derived.Deep.QuietTactic
import Derived.BigQuiet
import Derived.Lib.Strings
namespace Go.Proofs.YtmndlhbgacgnlaaGreat
open Go Go.RowKit

/-- The number of the first rule for which p holds, counted from k on. -/
def ruIdx (p : Ru → Bool) : Nat → List Ru → Int
  | _, [] => -1
  | k, r :: l => if p r then (k : Int) else ruIdx p (k + 1) l
theorem ruIdx_here {p : Ru → Bool} {l : List Ru} {k : Nat} {r : Ru} (h : l[k]? = some r) : ruIdx p k (l.drop k) = if p r then (k : Int) else ruIdx p (k + 1) (l.drop (k + 1)) := by
  obtain ⟨h1, h2⟩ := List.getElem?_eq_some_iff.1 h
  rw [List.drop_eq_getElem_cons h1, h2, ruIdx]
theorem ruIdx_spec (p : Ru → Bool) : ∀ (l : List Ru) (k : Nat), (ruIdx p k l = -1 ∧ l.find? p = none) ∨ ∃ j r, ruIdx p k l = ((k + j : Nat) : Int) ∧ l[j]? = some r ∧ l.find? p = some r ∧ p r = true := by
  intro l
  induction l with
  | nil => intro k; exact Or.inl ⟨rfl, rfl⟩
  | cons x t ih =>
    intro k
    cases hx : p x with
    | true => exact Or.inr ⟨0, x, by rw [ruIdx, hx]; simp, rfl, by rw [List.find?_cons, hx], hx⟩
    | false =>
      rcases ih (k + 1) with ⟨h1, h2⟩ | ⟨j, r, h1, h2, h3, h4⟩
      · exact Or.inl ⟨by rw [ruIdx, hx]; exact h1, by rw [List.find?_cons, hx]; exact h2⟩
      · exact Or.inr ⟨j + 1, r, by rw [ruIdx, hx]; simp only [Bool.false_eq_true, if_false]; rw [h1]; congr 1; omega, by simpa using h2, by rw [List.find?_cons, hx]; exact h3, h4⟩
def named (s : ByteArray) (r : Ru) : Bool := decide (r.name = s)
def namedC (s c : ByteArray) (r : Ru) : Bool := decide (r.name = s) && decide (r.con = c)
/-- What the model's l5First, FindRule, FunctionKind and FunctionArity answer. -/
def firstR (l : List Ru) (s : ByteArray) : Int := ruIdx (named s) 0 l
def findR (l : List Ru) (s c : ByteArray) : Int := ruIdx (namedC s c) 0 l
def kindR (l : List Ru) (s : ByteArray) : Int := match l.find? (named s) with
  | none => 0
  | some r => if r.con.size = 0 then 1 else 2
def arityR (l : List Ru) (s : ByteArray) : Int := match l.find? (named s) with
  | none => -1
  | some r => (r.params.length : Int) + (if r.con.size = 0 then 0 else 1)
theorem firstR_le (l : List Ru) (s : ByteArray) : -1 ≤ firstR l s ∧ firstR l s ≤ (l.length : Int) := by
  unfold firstR
  rcases ruIdx_spec (named s) l 0 with ⟨h, -⟩ | ⟨j, r, h1, h2, -, -⟩
  · rw [h]; omega
  · have := (List.getElem?_eq_some_iff.1 h2).1
    rw [h1]; omega

/-- The box of a program in a world. -/
theorem pbox {w W : World} {u : Value} (hb : Below (w.alloc (.cells #[u] 26)).heap.size (w.alloc (.cells #[u] 26)) W) : W.cell? ⟨w.heap.size, 0, none⟩ = some u := by
  have h : W.heap[w.heap.size]? = some (.cells #[u] 26 (0, 0)) := (hb.block _ (by simp)).trans (by show (w.heap.push _)[w.heap.size]? = _; simp)
  rw [World.cell?, h]; rfl

set_option maxHeartbeats 2000000 in
theorem first_any (l : List Ru) (v : Value) (bs : List Nat) (s : ByteArray) (w : World) (hv : PrIs w v l bs) (hn : l.length ≤ 1099511627776) :
    Calls Tryz.prog 50 #[v, .string s] w (RetPost (.int .i64 (firstR l s)) w) := by
  obtain ⟨u, rfl, hu⟩ := hv
  obtain ⟨A, c, rfl, hc1, hc2, -⟩ := id hu
  have HU := Lib.hid (hu.below ((Below.refl w.heap.size w).alloc (Nat.le_refl _) (.cells #[.slice A l.length c] 26)))
  obtain ⟨m, hm⟩ : ∃ m, m = l.length := ⟨_, rfl⟩
  rw [← hm] at hc1 HU hn ⊢
  have HM := Lib.hid hm
  have HB0 := Lib.hid ((Below.refl w.heap.size w).alloc (Nat.le_refl _) (.cells #[.slice A m c] 26))
  have HF := Lib.hid (show firstR l s = ruIdx (named s) 0 (l.drop 0) from rfl)
  have hbx := pbox (w := w) (u := .slice A m c) (Below.refl _ _)
  clear hu hm
  obtain ⟨W0, hW0⟩ : ∃ W0, W0 = w.alloc (.cells #[.slice A m c] 26) := ⟨_, rfl⟩
  rw [← hW0] at HU HB0 hbx
  have HW0 := Lib.hid hW0
  clear hW0
  go_enter Tryz.func50, Tryz.ntmps50
  go_wp2_with fail
  rw [← HW0.out]
  go_loopw [5] (fun i wr => ∃ (k : Nat), k ≤ m ∧ i = .int .i64 (k : Int) ∧ wr = W0 ∧ Hid (firstR l s = ruIdx (named s) k (l.drop k))) (fun i _ => m - (intOf i).toNat)
  case atStart => exact ⟨0, Nat.zero_le _, rfl, rfl, HF⟩
  case round =>
    obtain ⟨k, hk, rfl, rfl, HK⟩ := hrel
    by_cases hlt : k < m
    · obtain ⟨g, o, r, v1, v2, y, b, hA⟩ := HU.out.get k (by rw [← HM.out]; exact hlt)
      obtain rfl := hA.eq
      have c0 := hA.cells.c0
      have HG := Lib.hid (ruIdx_here (p := named s) hA.get)
      clear hA
      by_cases hx : r.name = s
      · have hbe := beq_yes hx
        have HE := Lib.hid (show firstR l s = (k : Int) by rw [HK.out, HG.out]; unfold named; rw [decide_eq_true hx]; rfl)
        clear hx
        go_wp2
        go_ret
        exact ⟨by rw [HE.out]; rfl, HB0.out⟩
      · have hbe := beq_no hx
        have HE := Lib.hid (show firstR l s = ruIdx (named s) (k + 1) (l.drop (k + 1)) by rw [HK.out, HG.out]; unfold named; rw [decide_eq_false hx]; rfl)
        clear hx
        go_wp2
        go_roundw
        case rel => exact ⟨k + 1, by omega, by go_num, by trivial, HE⟩
        case measure => simp [intOf]; omega
    · have HE := Lib.hid (show firstR l s = -1 by rw [HK.out, List.drop_eq_nil_of_le (by rw [← HM.out]; omega)]; rfl)
      go_wp2
      go_ret
      exact ⟨by rw [HE.out]; rfl, HB0.out⟩

set_option maxHeartbeats 2000000 in
theorem find_any (l : List Ru) (v : Value) (bs : List Nat) (s t : ByteArray) (w : World) (hv : PrIs w v l bs) (hn : l.length ≤ 1099511627776) :
    Calls Tryz.prog 19 #[v, .string s, .string t] w (RetPost (.int .i64 (findR l s t)) w) := by
  obtain ⟨u, rfl, hu⟩ := hv
  obtain ⟨A, c, rfl, hc1, hc2, -⟩ := id hu
  have HU := Lib.hid (hu.below ((Below.refl w.heap.size w).alloc (Nat.le_refl _) (.cells #[.slice A l.length c] 26)))
  obtain ⟨m, hm⟩ : ∃ m, m = l.length := ⟨_, rfl⟩
  rw [← hm] at hc1 HU hn ⊢
  have HM := Lib.hid hm
  have HB0 := Lib.hid ((Below.refl w.heap.size w).alloc (Nat.le_refl _) (.cells #[.slice A m c] 26))
  have HF := Lib.hid (show findR l s t = ruIdx (namedC s t) 0 (l.drop 0) from rfl)
  have hbx := pbox (w := w) (u := .slice A m c) (Below.refl _ _)
  clear hu hm
  obtain ⟨W0, hW0⟩ : ∃ W0, W0 = w.alloc (.cells #[.slice A m c] 26) := ⟨_, rfl⟩
  rw [← hW0] at HU HB0 hbx
  have HW0 := Lib.hid hW0
  clear hW0
  go_enter Tryz.func19, Tryz.ntmps19
  go_wp2_with fail
  rw [← HW0.out]
  go_loopw [7] (fun i wr => ∃ (k : Nat), k ≤ m ∧ i = .int .i64 (k : Int) ∧ wr = W0 ∧ Hid (findR l s t = ruIdx (namedC s t) k (l.drop k))) (fun i _ => m - (intOf i).toNat)
  case atStart => exact ⟨0, Nat.zero_le _, rfl, rfl, HF⟩
  case round =>
    obtain ⟨k, hk, rfl, rfl, HK⟩ := hrel
    by_cases hlt : k < m
    · obtain ⟨g, o, r, v1, v2, y, b, hA⟩ := HU.out.get k (by rw [← HM.out]; exact hlt)
      obtain rfl := hA.eq
      have c0 := hA.cells.c0
      have c1 := hA.cells.c1
      have HG := Lib.hid (ruIdx_here (p := namedC s t) hA.get)
      clear hA
      by_cases hx : r.name = s
      · have hbe := beq_yes hx
        by_cases hy : r.con = t
        · have hbc := beq_yes hy
          have HE := Lib.hid (show findR l s t = (k : Int) by rw [HK.out, HG.out]; unfold namedC; rw [decide_eq_true hx, decide_eq_true hy]; rfl)
          clear hx hy
          go_wp2
          go_ret
          exact ⟨by rw [HE.out]; rfl, HB0.out⟩
        · have hbc := beq_no hy
          have HE := Lib.hid (show findR l s t = ruIdx (namedC s t) (k + 1) (l.drop (k + 1)) by rw [HK.out, HG.out]; unfold namedC; rw [decide_eq_false hy, Bool.and_false]; rfl)
          clear hx hy
          go_wp2
          go_roundw
          case rel => exact ⟨k + 1, by omega, by go_num, by trivial, HE⟩
          case measure => simp [intOf]; omega
      · have hbe := beq_no hx
        have HE := Lib.hid (show findR l s t = ruIdx (namedC s t) (k + 1) (l.drop (k + 1)) by rw [HK.out, HG.out]; unfold namedC; rw [decide_eq_false hx, Bool.false_and]; rfl)
        clear hx
        go_wp2
        go_roundw
        case rel => exact ⟨k + 1, by omega, by go_num, by trivial, HE⟩
        case measure => simp [intOf]; omega
    · have HE := Lib.hid (show findR l s t = -1 by rw [HK.out, List.drop_eq_nil_of_le (by rw [← HM.out]; omega)]; rfl)
      go_wp2
      go_ret
      exact ⟨by rw [HE.out]; rfl, HB0.out⟩

theorem first_at (l : List Ru) (s : ByteArray) : (firstR l s = -1 ∧ l.find? (named s) = none) ∨ ∃ (j : Nat) (r : Ru), firstR l s = (j : Int) ∧ l[j]? = some r ∧ l.find? (named s) = some r := by
  unfold firstR
  rcases ruIdx_spec (named s) l 0 with ⟨h1, h2⟩ | ⟨j, r, h1, h2, h3, -⟩
  · exact Or.inl ⟨h1, h2⟩
  · exact Or.inr ⟨j, r, by rw [h1, Nat.zero_add], h2, h3⟩
theorem empty_str (x : ByteArray) : x.toList.isEmpty = decide (x.size = 0) := by
  rw [Lib.toList_data]
  have h : x.data.toList.length = x.size := Array.length_toList
  cases hx : x.data.toList with
  | nil => rw [hx] at h; simp at h; simp [← h]
  | cons a t => rw [hx] at h; simp at h; simp [← h]

set_option maxHeartbeats 2000000 in
theorem kind_any (l : List Ru) (v : Value) (bs : List Nat) (s : ByteArray) (w : World) (hv : PrIs w v l bs) (hn : l.length ≤ 1099511627776) :
    Calls Tryz.prog 20 #[v, .string s] w (RetPost (.int .i64 (kindR l s)) w) := by
  have HC := Lib.hid (fun (W : World) (hb : Below w.heap.size w W) => first_any l v bs s W (hv.below hb) hn)
  obtain ⟨u, rfl, hu⟩ := hv
  obtain ⟨A, c, rfl, hc1, hc2, -⟩ := id hu
  have HU := Lib.hid (fun (W : World) (hb : Below w.heap.size w W) => hu.below hb)
  obtain ⟨m, hm⟩ : ∃ m, m = l.length := ⟨_, rfl⟩
  rw [← hm] at hc1 HU HC hn ⊢
  have HM := Lib.hid hm
  have HB0 := Lib.hid ((Below.refl w.heap.size w).alloc (Nat.le_refl _) (.cells #[.slice A m c] 26))
  clear hu hm
  rcases first_at l s with ⟨h1, h2⟩ | ⟨j, r, h1, h2, h3⟩
  · have HE := Lib.hid (show kindR l s = 0 by unfold kindR; rw [h2])
    rw [h1] at HC
    clear h1 h2
    go_enter Tryz.func20, Tryz.ntmps20
    go_wp2_with (go_at_call 50; refine (HC.out _ HB0.out).mono ?_; rintro e w1 ⟨rfl, hb1⟩; have HB1 := Lib.hid (HB0.out.trans (hb1.mono HB0.out.size)); clear hb1)
    go_ret
    exact ⟨by rw [HE.out]; rfl, HB1.out⟩
  · have HE := Lib.hid (show kindR l s = if r.con.size = 0 then 1 else 2 by unfold kindR; rw [h3])
    rw [h1] at HC
    have HJ := Lib.hid h2
    have hj := (List.getElem?_eq_some_iff.1 h2).1
    have hjm : (j : Int) < (m : Int) := by have := HM.out; omega
    have hcz := empty_str r.con
    clear h1 h2 h3
    go_enter Tryz.func20, Tryz.ntmps20
    go_wp2_with fail
    go_at_call 50
    refine (HC.out _ HB0.out).mono ?_
    rintro e w1 ⟨rfl, hb1⟩
    have hbx := pbox hb1
    have HB1 := Lib.hid (HB0.out.trans (hb1.mono HB0.out.size))
    obtain ⟨g, o, r2, v1, v2, y, b, hA⟩ := (HU.out w1 HB1.out).get j hj
    obtain rfl := hA.eq
    obtain rfl : r = r2 := Option.some.inj (HJ.out.symm.trans hA.get)
    have c1 := hA.cells.c1
    clear hA hb1 hj
    by_cases hz : r.con.size = 0
    · rw [decide_eq_true hz] at hcz
      rw [if_pos hz] at HE
      clear hz
      go_wp2_with fail
      go_ret
      exact ⟨by rw [HE.out]; rfl, HB1.out⟩
    · rw [decide_eq_false hz] at hcz
      rw [if_neg hz] at HE
      clear hz
      go_wp2_with fail
      go_ret
      exact ⟨by rw [HE.out]; rfl, HB1.out⟩

theorem bitR (b : Bool) (w : World) : Calls Tryz.prog 51 #[.bool b] w fun e w' => e = .returned (.int .i64 (if b then 1 else 0)) ∧ w' = w := by
  cases b
  · go_enter Tryz.func51, Tryz.ntmps51
    go_wp2
    go_ret
    exact ⟨rfl, rfl⟩
  · go_enter Tryz.func51, Tryz.ntmps51
    go_wp2
    go_ret
    exact ⟨rfl, rfl⟩

set_option maxHeartbeats 4000000 in
theorem arity_any (l : List Ru) (v : Value) (bs : List Nat) (s : ByteArray) (w : World) (hv : PrIs w v l bs) (hn : rusTot l ≤ 1048576) :
    Calls Tryz.prog 21 #[v, .string s] w (RetPost (.int .i64 (arityR l s)) w) := by
  have hll := rusTot_ge l
  have HC := Lib.hid (fun (W : World) (hb : Below w.heap.size w W) => first_any l v bs s W (hv.below hb) (by omega))
  obtain ⟨u, rfl, hu⟩ := hv
  obtain ⟨A, c, rfl, hc1, hc2, -⟩ := id hu
  have HU := Lib.hid (fun (W : World) (hb : Below w.heap.size w W) => hu.below hb)
  obtain ⟨m, hm⟩ : ∃ m, m = l.length := ⟨_, rfl⟩
  rw [← hm] at hc1 HU HC hll ⊢
  have HM := Lib.hid hm
  have HB0 := Lib.hid ((Below.refl w.heap.size w).alloc (Nat.le_refl _) (.cells #[.slice A m c] 26))
  clear hu hm
  rcases first_at l s with ⟨h1, h2⟩ | ⟨j, r, h1, h2, h3⟩
  · have HE := Lib.hid (show arityR l s = -1 by unfold arityR; rw [h2])
    rw [h1] at HC
    clear h1 h2
    go_enter Tryz.func21, Tryz.ntmps21
    go_wp2_with (go_at_call 50; refine (HC.out _ HB0.out).mono ?_; rintro e w1 ⟨rfl, hb1⟩; have HB1 := Lib.hid (HB0.out.trans (hb1.mono HB0.out.size)); clear hb1)
    go_ret
    exact ⟨by rw [HE.out]; rfl, HB1.out⟩
  · have HE := Lib.hid (show arityR l s = (r.params.length : Int) + (if r.con.size = 0 then 0 else 1) by unfold arityR; rw [h3])
    rw [h1] at HC
    have HJ := Lib.hid h2
    have hj := (List.getElem?_eq_some_iff.1 h2).1
    have hjm : (j : Int) < (m : Int) := by have := HM.out; omega
    have hcz := empty_str r.con
    clear h1 h2 h3
    go_enter Tryz.func21, Tryz.ntmps21
    go_wp2_with fail
    go_at_call 50
    refine (HC.out _ HB0.out).mono ?_
    rintro e w1 ⟨rfl, hb1⟩
    have hbx := pbox hb1
    have HB1 := Lib.hid (HB0.out.trans (hb1.mono HB0.out.size))
    obtain ⟨g, o, r2, v1, v2, y, b, hA⟩ := (HU.out w1 HB1.out).get j hj
    obtain rfl := hA.eq
    obtain rfl : r = r2 := Option.some.inj (HJ.out.symm.trans hA.get)
    have hsz := rusTot_mem hA.mem
    obtain ⟨b1, b2, b3, -, -, -, -, hp2, -⟩ := hA.is.parts
    obtain ⟨A2, c2', rfl⟩ := hp2.slice
    have c1 := hA.cells.c1
    have c3 := hA.cells.c3
    have hpl : r.params.length ≤ 1048576 := by unfold ruTot ssTot at hsz; omega
    clear hA hb1 hj hp2 hsz
    obtain ⟨q, hq⟩ : ∃ q, q = r.params.length := ⟨_, rfl⟩
    rw [← hq] at hpl HE c3
    have h0j : (0 : Int) ≤ (j : Int) := by omega
    clear hq
    have HBT := Lib.hid (fun (b : Bool) (W : World) => bitR b W)
    by_cases hz : r.con.size = 0
    · rw [decide_eq_true hz] at hcz
      rw [if_pos hz] at HE
      have hadd : IntKind.i64.wrap ((q : Int) + 0) = (q : Int) := by rw [Int.add_zero]; exact IntWalk.i64_in _ (by omega)
      have hneg : (!r.con.toList.isEmpty) = false := by rw [hcz]; rfl
      clear hz
      go_wp2_with fail
      go_quiet (first | (go_at_call 51; refine Calls.quiet_of_same (HBT.out _ _)))
      go_wp2
      go_ret
      exact ⟨by rw [HE.out]; simp, HB1.out.trans ⟨rfl, rfl, rfl, Nat.le_refl _, fun _ _ => rfl⟩⟩
    · rw [decide_eq_false hz] at hcz
      rw [if_neg hz] at HE
      have hadd : IntKind.i64.wrap ((q : Int) + 1) = (q : Int) + 1 := IntWalk.i64_in _ (by omega)
      have hneg : (!r.con.toList.isEmpty) = true := by rw [hcz]; rfl
      clear hz
      go_wp2_with fail
      go_quiet (first | (go_at_call 51; refine Calls.quiet_of_same (HBT.out _ _)))
      go_wp2
      go_ret
      exact ⟨by rw [HE.out]; rfl, HB1.out.trans ⟨rfl, rfl, rfl, Nat.le_refl _, fun _ _ => rfl⟩⟩
end Go.Proofs.YtmndlhbgacgnlaaGreat
