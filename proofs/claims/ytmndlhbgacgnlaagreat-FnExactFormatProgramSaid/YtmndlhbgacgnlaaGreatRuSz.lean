/- The contracts of the laws' size of a slice of strings, a rule and a program. Condition: what is left is at most 1048576. -/
import Derived.Test.YtmndlhbgacgnlaaGreatRu
import Derived.Test.YtmndlhbgacgnlaaGreatExSz
namespace Go.Proofs.YtmndlhbgacgnlaaGreat
open Go Go.RowKit

def totN (l : List ByteArray) : Nat := (l.map (·.size)).sum
theorem totN_snoc (l : List ByteArray) (x : ByteArray) : totN (l ++ [x]) = totN l + x.size := by simp [totN]
theorem totN_take (xs : List ByteArray) : ∀ k, totN (xs.take k) ≤ totN xs := by
  induction xs with
  | nil => intro k; simp [totN]
  | cons x r ih =>
    intro k
    cases k with
    | zero => simp [totN]
    | succ k =>
      have := ih k
      simp only [totN, List.take_succ_cons, List.map_cons, List.sum_cons] at this ⊢
      omega
def ssTot (xs : List ByteArray) : Nat := xs.length + totN xs
def ruTot (r : Ru) : Nat := r.name.size + (r.con.size + (ssTot r.vars + (ssTot r.params + exTot r.body)))
def rusTot : List Ru → Nat
  | [] => 0
  | r :: l => ruTot r + 1 + rusTot l
theorem rusTot_ge : ∀ l : List Ru, l.length ≤ rusTot l := by
  intro l
  induction l with
  | nil => simp
  | cons e r ih => rw [rusTot, List.length_cons]; omega
theorem rusTot_app : ∀ (a b : List Ru), rusTot (a ++ b) = rusTot a + rusTot b := by
  intro a
  induction a with
  | nil => intro b; simp [rusTot]
  | cons x r ih => intro b; rw [List.cons_append, rusTot, rusTot, ih]; omega
theorem take_ru (l : List Ru) (k : Nat) (e : Ru) (h : l[k]? = some e) : l.take (k + 1) = l.take k ++ [e] := by
  obtain ⟨h1, h2⟩ := List.getElem?_eq_some_iff.1 h
  rw [List.take_succ_eq_append_getElem h1, h2]
theorem rusTot_snoc (l : List Ru) (k : Nat) (e : Ru) (h : l[k]? = some e) : rusTot (l.take (k + 1)) = rusTot (l.take k) + (ruTot e + 1) := by
  rw [take_ru l k e h, rusTot_app]; simp [rusTot]
theorem rusTot_rest (l : List Ru) (k : Nat) : rusTot (l.take k) + (l.length - k) ≤ rusTot l := by
  have h : rusTot l = rusTot (l.take k) + rusTot (l.drop k) := by rw [← rusTot_app, List.take_append_drop]
  have h2 := rusTot_ge (l.drop k)
  rw [List.length_drop] at h2
  omega
theorem rusTot_mem : ∀ {l : List Ru} {e : Ru}, e ∈ l → ruTot e + 1 ≤ rusTot l := by
  intro l
  induction l with
  | nil => intro e h; cases h
  | cons x r ih =>
    intro e h
    rw [rusTot]
    rcases List.mem_cons.1 h with rfl | h
    · omega
    · have := ih h; omega

set_option maxHeartbeats 1000000 in
theorem sz_strs (xs : List ByteArray) (v : Value) (bs : List Nat) (w : World) (L : Int) (hv : SsIs w v xs bs) (hL0 : 0 ≤ L) (hL1 : L ≤ 1048576) :
    Calls Tryz.prog 107 #[v, .int .i64 L] w (SzEnd L (ssTot xs) w) := by
  obtain ⟨A, c, rfl⟩ := hv.slice
  obtain ⟨-, hc1, hc2, hs, hx⟩ := hv.strs
  obtain ⟨n, hnn⟩ : ∃ n, n = xs.length := ⟨_, rfl⟩
  have HN := Lib.hid hnn
  have HS := Lib.hid hs
  have HX := Lib.hid hx
  rw [← hnn] at hc1 ⊢
  clear hs hx hnn hv
  by_cases hlow : L - (n : Int) < 0
  · go_enter Tryz.func107, Tryz.ntmps107
    go_wp2
    go_ret
    exact ⟨-1, rfl, Below.refl _ _, Or.inl ⟨rfl, by have := HN.out; unfold ssTot; omega⟩⟩
  · go_enter Tryz.func107, Tryz.ntmps107
    go_wp2
    have HLOW := Lib.hid (show 0 ≤ L - (n : Int) by omega)
    have HL1 := Lib.hid hL1
    clear hlow hL0 hL1
    go_loop [1, 5] (fun v i => ∃ (k : Nat) (r : Int), k ≤ n ∧ i = .int .i64 (k : Int) ∧ v = .int .i64 r ∧ 0 ≤ r ∧ r ≤ 1048576 ∧ Hid (r = L - (n : Int) - (totN (xs.take k) : Int))) (fun _ i => n - (intOf i).toNat)
    case atStart => exact ⟨0, _, Nat.zero_le _, rfl, rfl, HLOW.out, by have := HL1.out; omega, Lib.hid (by simp [totN])⟩
    case round =>
      obtain ⟨k, r, hk, rfl, rfl, hr0, hr1, HR⟩ := hrel
      by_cases hlt : k < n
      · obtain ⟨a, x, rfl, hc, hmem, -, htake, -⟩ := HS.out.get k (by rw [← HN.out]; exact hlt)
        have hsz := HX.out _ hmem
        have HT := Lib.hid (show totN (xs.take (k + 1)) = totN (xs.take k) + x.size by rw [htake, totN_snoc])
        have HT2 := Lib.hid (totN_take xs (k + 1))
        clear hmem htake
        by_cases hneg : r - (x.size : Int) < 0
        · go_wp2
          go_ret
          exact ⟨-1, rfl, Below.refl _ _, Or.inl ⟨rfl, by have := HN.out; have := HT.out; have := HT2.out; have := HR.out; unfold ssTot; omega⟩⟩
        · have HPOS := Lib.hid (show 0 ≤ r - (x.size : Int) by omega)
          go_wp2
          go_round
          case rel => exact ⟨k + 1, _, by omega, by go_num, rfl, HPOS.out, by omega, Lib.hid (by rw [HT.out]; have := HR.out; omega)⟩
          case measure => simp [intOf]; omega
      · have HE := Lib.hid (show xs.take k = xs from List.take_of_length_le (by rw [← HN.out]; omega))
        go_wp2
        go_ret
        refine ⟨r, rfl, Below.refl _ _, Or.inr ⟨hr0, ?_⟩⟩
        have h1 := HR.out
        rw [HE.out] at h1
        have h2 := HN.out
        unfold ssTot
        omega

/-- A box of seven cells. -/
def Box7 (W : World) (B : Nat) (T : TypeId) (x0 x1 x2 x3 x4 x5 x6 : Value) : Prop := W.heap[B]? = some (.cells #[x0, x1, x2, x3, x4, x5, x6] T (0, 0))
theorem Box7.cells {W : World} {B : Nat} {T : TypeId} {x0 x1 x2 x3 x4 x5 x6 : Value} (h : Box7 W B T x0 x1 x2 x3 x4 x5 x6) :
    W.cell? ⟨B, 0, none⟩ = some x0 ∧ W.cell? ⟨B, 1, none⟩ = some x1 ∧ W.cell? ⟨B, 2, none⟩ = some x2 ∧ W.cell? ⟨B, 3, none⟩ = some x3 ∧ W.cell? ⟨B, 4, none⟩ = some x4 ∧ W.cell? ⟨B, 5, none⟩ = some x5 ∧ W.cell? ⟨B, 6, none⟩ = some x6 := by
  unfold Box7 at h
  refine ⟨?_, ?_, ?_, ?_, ?_, ?_, ?_⟩ <;> (rw [World.cell?, h]; rfl)
theorem Box7.lt {W : World} {B : Nat} {T : TypeId} {x0 x1 x2 x3 x4 x5 x6 : Value} (h : Box7 W B T x0 x1 x2 x3 x4 x5 x6) : B < W.heap.size := (Array.getElem?_eq_some_iff.1 h).1
theorem Box7.thaw {W : World} {B : Nat} {T : TypeId} {x0 x1 x2 x3 x4 x5 x6 : Value} (h : Box7 W B T x0 x1 x2 x3 x4 x5 x6) (j : Nat) : W.frozen? ⟨B, j, none⟩ = false := by
  unfold Box7 at h
  simp [World.frozen?, h]
theorem box7_new {w W : World} {T : TypeId} {x0 x1 x2 x3 x4 x5 x6 : Value} (hb : Below (w.alloc (.cells #[x0, x1, x2, x3, x4, x5, x6] T)).heap.size (w.alloc (.cells #[x0, x1, x2, x3, x4, x5, x6] T)) W) : Box7 W w.heap.size T x0 x1 x2 x3 x4 x5 x6 :=
  (hb.block _ (by simp)).trans (by show (w.heap.push _)[w.heap.size]? = _; simp)
theorem box_low {w W : World} {o : Obj} (hb : Below (w.alloc o).heap.size (w.alloc o) W) : Below w.heap.size w W := ((Below.refl w.heap.size w).alloc (Nat.le_refl _) o).trans (hb.mono (by simp))

set_option maxRecDepth 100000 in
set_option maxHeartbeats 2000000 in
theorem sz_rule (r : Ru) (v : Value) (bs : List Nat) (w : World) (L : Int) (hv : RuIs w v r bs) (hL0 : 0 ≤ L) (hL1 : L ≤ 1048576) :
    Calls Tryz.prog 77 #[v, .int .i64 L] w (SzEnd L (ruTot r) w) := by
  obtain ⟨v1, v2, u, b1, b2, b3, rfl, hn, hc, -, h1, h2, h3⟩ := hv
  have HT := Lib.hid (show ruTot r = r.name.size + (r.con.size + (ssTot r.vars + (ssTot r.params + exTot r.body))) from rfl)
  have H1 := Lib.hid (fun (W : World) (l : Int) (hb : Below w.heap.size w W) (h0 : 0 ≤ l) (hl : l ≤ 1048576) => sz_strs r.vars v1 b1 W l (h1.below hb) h0 hl)
  have H2 := Lib.hid (fun (W : World) (l : Int) (hb : Below w.heap.size w W) (h0 : 0 ≤ l) (hl : l ≤ 1048576) => sz_strs r.params v2 b2 W l (h2.below hb) h0 hl)
  have H3 := Lib.hid (fun (W : World) (l : Int) (hb : Below w.heap.size w W) (h0 : 0 ≤ l) (hl : l ≤ 1048576) => sz_expr r.body _ b3 W l (h3.below hb) h0 hl)
  obtain ⟨A1, c1, rfl⟩ := h1.slice
  obtain ⟨A2, c2, rfl⟩ := h2.slice
  obtain ⟨u', e3, -, hu⟩ := h3
  obtain ⟨A3, c3, e4, -⟩ := hu
  simp only [Value.agg.injEq, Array.mk.injEq, List.cons.injEq, and_true, true_and] at e3
  subst e3; subst e4
  clear h1 h2 
  obtain ⟨N, hN⟩ : ∃ N, N = r.name := ⟨_, rfl⟩
  obtain ⟨C, hC⟩ : ∃ C, C = r.con := ⟨_, rfl⟩
  obtain ⟨K, hK⟩ : ∃ K, K = r.body.kind := ⟨_, rfl⟩
  obtain ⟨S, hS⟩ : ∃ S, S = r.body.name := ⟨_, rfl⟩
  rw [← hN] at hn HT
  rw [← hC] at hc HT
  rw [← hK, ← hS] at H3
  rw [← hN, ← hC, ← hK, ← hS]
  clear hN hC hK hS
  have HBX := Lib.hid (fun (W : World) => box7_new (w := w) (W := W) (T := 120) (x0 := .string N) (x1 := .string C) (x2 := .slice A1 r.vars.length c1) (x3 := .slice A2 r.params.length c2) (x4 := .int .i64 K) (x5 := .string S) (x6 := .slice A3 r.body.args.length c3))
  generalize r.vars.length = n1 at *
  generalize r.params.length = n2 at *
  generalize r.body.args.length = n3 at *
  obtain ⟨l1, hl1⟩ : ∃ l1 : Int, l1 = L - (N.size : Int) := ⟨_, rfl⟩
  obtain ⟨l2, hl2⟩ : ∃ l2 : Int, l2 = l1 - (C.size : Int) := ⟨_, rfl⟩
  have HL1 := Lib.hid hl1
  have HL2 := Lib.hid hl2
  have w1 : IntKind.i64.wrap (L - (N.size : Int)) = l1 := by rw [hl1]; exact IntWalk.i64_in _ (by omega)
  by_cases g1 : l1 < 0
  · clear hl1 hl2
    go_enter Tryz.func77, Tryz.ntmps77
    go_wp2_with fail
    go_ret
    exact ⟨-1, rfl, (Below.refl _ _).alloc (Nat.le_refl _) _, Or.inl ⟨rfl, by have := HT.out; have := HL1.out; omega⟩⟩
  have w2 : IntKind.i64.wrap (l1 - (C.size : Int)) = l2 := by rw [hl2]; exact IntWalk.i64_in _ (by omega)
  by_cases g2 : l2 < 0
  · clear hl1 hl2
    go_enter Tryz.func77, Tryz.ntmps77
    go_wp2_with fail
    go_ret
    exact ⟨-1, rfl, (Below.refl _ _).alloc (Nat.le_refl _) _, Or.inl ⟨rfl, by have := HT.out; have := HL1.out; have := HL2.out; omega⟩⟩
  have g3 : l2 ≤ 1048576 := by omega
  have g4 : 0 ≤ l2 := by omega
  clear hl1 hl2
  go_enter Tryz.func77, Tryz.ntmps77
  go_wp2_with fail
  go_at_call 107
  refine (H1.out _ _ ((Below.refl _ _).alloc (Nat.le_refl _) _) g4 g3).mono ?_
  rintro e x1 ⟨z1, rfl, hb1, hz⟩
  have HB1 := Lib.hid hb1
  obtain ⟨-, -, -, d3, d4, d5, d6⟩ := (HBX.out x1 hb1).cells
  clear hb1
  rcases hz with ⟨rfl, hz⟩ | ⟨hz0, hz⟩
  · have HZ := Lib.hid hz
    clear hz
    go_wp2_with fail
    go_ret
    exact ⟨-1, rfl, box_low HB1.out, Or.inl ⟨rfl, by have := HT.out; have := HL1.out; have := HL2.out; have := HZ.out; omega⟩⟩
  have hz1 : z1 ≤ 1048576 := by omega
  have HZ1 := Lib.hid hz
  clear hz
  go_wp2_with fail
  go_at_call 107
  refine (H2.out _ _ (box_low HB1.out) hz0 hz1).mono ?_
  rintro e x2 ⟨z2, rfl, hb2, hz⟩
  have HB2 := Lib.hid (HB1.out.trans (hb2.mono HB1.out.size))
  obtain ⟨-, -, -, -, k4, k5, k6⟩ := (HBX.out x2 HB2.out).cells
  clear hb2
  rcases hz with ⟨rfl, hz⟩ | ⟨hz0', hz⟩
  · have HZ := Lib.hid hz
    clear hz
    go_wp2_with fail
    go_ret
    exact ⟨-1, rfl, box_low HB2.out, Or.inl ⟨rfl, by have := HT.out; have := HL1.out; have := HL2.out; have := HZ1.out; have := HZ.out; omega⟩⟩
  have hz2 : z2 ≤ 1048576 := by omega
  have HZ2 := Lib.hid hz
  clear hz
  go_wp2_with fail
  go_at_call 108
  refine (H3.out _ _ (box_low HB2.out) hz0' hz2).mono ?_
  rintro e x3 ⟨z3, rfl, hb3, hz⟩
  have HB3 := Lib.hid (HB2.out.trans (hb3.mono HB2.out.size))
  clear hb3
  rcases hz with ⟨rfl, hz⟩ | ⟨hz0'', hz⟩
  · have HZ := Lib.hid hz
    clear hz
    go_wp2_with fail
    go_ret
    exact ⟨-1, rfl, box_low HB3.out, Or.inl ⟨rfl, by have := HT.out; have := HL1.out; have := HL2.out; have := HZ1.out; have := HZ2.out; have := HZ.out; omega⟩⟩
  have HZ3 := Lib.hid hz
  clear hz
  go_wp2_with fail
  go_ret
  exact ⟨z3, rfl, box_low HB3.out, Or.inr ⟨hz0'', by have := HT.out; have := HL1.out; have := HL2.out; have := HZ1.out; have := HZ2.out; have := HZ3.out; omega⟩⟩

set_option maxHeartbeats 2000000 in
theorem sz_rules (l : List Ru) (v : Value) (bs : List Nat) (w : World) (L : Int) (hv : RsIs w v l bs) (hL0 : 0 ≤ L) (hL1 : L ≤ 1048576) :
    Calls Tryz.prog 52 #[v, .int .i64 L] w (SzEnd L (rusTot l) w) := by
  obtain ⟨A, c, rfl, hc1, hc2, -⟩ := id hv
  have HU := Lib.hid hv
  obtain ⟨m, hm⟩ : ∃ m, m = l.length := ⟨_, rfl⟩
  rw [← hm] at hc1 HU ⊢
  have HM := Lib.hid hm
  have HT := Lib.hid (rusTot_ge l)
  clear hm hv
  by_cases h0 : L - (m : Int) < 0
  · go_enter Tryz.func52, Tryz.ntmps52
    go_wp2_with fail
    go_ret
    exact ⟨-1, rfl, Below.refl _ _, Or.inl ⟨rfl, by have := HT.out; have := HM.out; omega⟩⟩
  · have HLOW := Lib.hid (show (L - (m : Int) = L - (m : Int) - (((rusTot (l.take 0) : Nat) : Int) - ((0 : Nat) : Int))) by simp [rusTot])
    have h0' : 0 ≤ L - (m : Int) := by omega
    go_enter Tryz.func52, Tryz.ntmps52
    go_wp2_with fail
    go_loopw [1, 5] (fun t i wr => ∃ (k : Nat) (z : Int), k ≤ m ∧ i = .int .i64 (k : Int) ∧ t = .int .i64 z ∧ 0 ≤ z ∧ z ≤ 1048576 ∧ Hid (z = L - (m : Int) - (((rusTot (l.take k) : Nat) : Int) - (k : Int))) ∧ Hid (Below w.heap.size w wr)) (fun _ i _ => m - (intOf i).toNat)
    case atStart => exact ⟨0, _, Nat.zero_le _, rfl, rfl, h0', by omega, HLOW, Lib.hid (Below.refl _ _)⟩
    case round =>
      obtain ⟨k, z, hk, rfl, rfl, hz0, hz1, HZ, HB⟩ := hrel
      by_cases hlt : k < m
      · obtain ⟨g, o, r, v1, v2, u, b, hA⟩ := (HU.out.below HB.out).get k (by rw [← HM.out]; exact hlt)
        obtain rfl := hA.eq
        obtain ⟨c0, c1, c2, c3, c4, c5, c6⟩ := hA.cells
        have HG := Lib.hid (rusTot_snoc l k r hA.get)
        have HTK := Lib.hid (rusTot_rest l (k + 1))
        have HKM := Lib.hid (show (k : Int) + 1 ≤ m by omega)
        have HCALL := Lib.hid (sz_rule r _ b wr z hA.is hz0 hz1)
        clear hA
        go_wp2_with (go_at_call 77; refine HCALL.out.mono ?_; rintro r w1 ⟨z1, rfl, hb1, hz⟩; have HB1 := Lib.hid (HB.out.trans (hb1.mono HB.out.size)); clear hb1; rcases hz with ⟨rfl, hz⟩ | ⟨hq0, hz⟩ <;> (have HQ := Lib.hid hz; clear hz))
        · go_ret
          refine ⟨-1, rfl, HB1.out, Or.inl ⟨rfl, ?_⟩⟩
          have h1 := HQ.out
          have h2 := HZ.out
          have h3 := HG.out
          have h4 := HTK.out
          have h5 := HKM.out
          have h7 := HM.out
          omega
        · have hq1 : z1 ≤ 1048576 := by have := HQ.out; omega
          go_roundw
          case rel => exact ⟨k + 1, _, by omega, by go_num, rfl, hq0, hq1, Lib.hid (by have := HQ.out; have := HZ.out; have := HG.out; omega), HB1⟩
          case measure => simp [intOf]; omega
      · have HE2 := Lib.hid (show z = L - (rusTot l : Int) by
          have h := HZ.out
          rw [List.take_of_length_le (by rw [← HM.out]; omega)] at h
          omega)
        go_wp2_with fail
        go_ret
        exact ⟨z, rfl, HB.out, Or.inr ⟨hz0, HE2.out⟩⟩

set_option maxHeartbeats 1000000 in
theorem sz_prog (l : List Ru) (v : Value) (bs : List Nat) (w : World) (L : Int) (hv : PrIs w v l bs) (hL0 : 0 ≤ L) (hL1 : L ≤ 1048576) :
    Calls Tryz.prog 22 #[v, .int .i64 L] w (SzEnd L (rusTot l) w) := by
  obtain ⟨u, rfl, hu⟩ := hv
  have HC := Lib.hid (fun (W : World) (hb : Below w.heap.size w W) => sz_rules l u bs W L (hu.below hb) hL0 hL1)
  obtain ⟨A, c, rfl, -⟩ := id hu
  clear hu
  go_enter Tryz.func22, Tryz.ntmps22
  go_wp2_with (go_at_call 52; refine (HC.out _ ((Below.refl _ _).alloc (Nat.le_refl _) _)).mono ?_; rintro r w1 ⟨z, rfl, hb1, hz⟩; have HB1 := Lib.hid (box_low hb1); clear hb1; rcases hz with ⟨rfl, hz⟩ | ⟨hz0, hz⟩ <;> (have HZ := Lib.hid hz; clear hz))
  · go_ret
    exact ⟨-1, rfl, HB1.out, Or.inl ⟨rfl, HZ.out⟩⟩
  · go_ret
    exact ⟨z, rfl, HB1.out, Or.inr ⟨hz0, HZ.out⟩⟩
end Go.Proofs.YtmndlhbgacgnlaaGreat
