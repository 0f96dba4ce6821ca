/- The laws' sizes of bindings. No condition. -/
import Derived.Test.YtegigjnlecpplaaBi
import Derived.Test.YtegigjnlecpplaaExSz
import Derived.IntWalk
namespace Go.Proofs.Ytegigjnlecpplaa
open Go Go.RowKit

def biTot (b : Bi) : Nat := b.name.size + exTot b.val
def bisTot : List Bi → Nat
  | [] => 0
  | r :: l => biTot r + 1 + bisTot l
theorem bisTot_ge : ∀ l : List Bi, l.length ≤ bisTot l := by
  intro l
  induction l with
  | nil => simp
  | cons e r ih => rw [bisTot, List.length_cons]; omega
theorem bisTot_app : ∀ (a b : List Bi), bisTot (a ++ b) = bisTot a + bisTot b := by
  intro a
  induction a with
  | nil => intro b; simp [bisTot]
  | cons x r ih => intro b; rw [List.cons_append, bisTot, bisTot, ih]; omega
theorem take_bi (l : List Bi) (k : Nat) (e : Bi) (h : l[k]? = some e) : l.take (k + 1) = l.take k ++ [e] := by
  obtain ⟨h1, h2⟩ := List.getElem?_eq_some_iff.1 h
  rw [List.take_succ_eq_append_getElem h1, h2]
theorem bisTot_snoc (l : List Bi) (k : Nat) (e : Bi) (h : l[k]? = some e) : bisTot (l.take (k + 1)) = bisTot (l.take k) + (biTot e + 1) := by
  rw [take_bi l k e h, bisTot_app]; simp [bisTot]
theorem bisTot_rest (l : List Bi) (k : Nat) : bisTot (l.take k) + (l.length - k) ≤ bisTot l := by
  have h : bisTot l = bisTot (l.take k) + bisTot (l.drop k) := by rw [← bisTot_app, List.take_append_drop]
  have h2 := bisTot_ge (l.drop k)
  rw [List.length_drop] at h2
  omega
theorem bisTot_mem : ∀ {l : List Bi} {e : Bi}, e ∈ l → biTot e + 1 ≤ bisTot l := by
  intro l
  induction l with
  | nil => intro e h; cases h
  | cons x r ih =>
    intro e h
    rw [bisTot]
    rcases List.mem_cons.1 h with rfl | h
    · omega
    · have := ih h; omega

/-- A box of four cells. -/
def Box4 (W : World) (B : Nat) (T : TypeId) (x0 x1 x2 x3 : Value) : Prop := W.heap[B]? = some (.cells #[x0, x1, x2, x3] T (0, 0))
theorem Box4.cells {W : World} {B : Nat} {T : TypeId} {x0 x1 x2 x3 : Value} (h : Box4 W B T x0 x1 x2 x3) : W.cell? ⟨B, 0, none⟩ = some x0 ∧ W.cell? ⟨B, 1, none⟩ = some x1 ∧ W.cell? ⟨B, 2, none⟩ = some x2 ∧ W.cell? ⟨B, 3, none⟩ = some x3 := by
  unfold Box4 at h
  refine ⟨?_, ?_, ?_, ?_⟩ <;> (rw [World.cell?, h]; rfl)
theorem Box4.lt {W : World} {B : Nat} {T : TypeId} {x0 x1 x2 x3 : Value} (h : Box4 W B T x0 x1 x2 x3) : B < W.heap.size := (Array.getElem?_eq_some_iff.1 h).1
theorem Box4.thaw {W : World} {B : Nat} {T : TypeId} {x0 x1 x2 x3 : Value} (h : Box4 W B T x0 x1 x2 x3) (j : Nat) : W.frozen? ⟨B, j, none⟩ = false := by
  unfold Box4 at h
  simp [World.frozen?, h]
theorem box4_new {w W : World} {T : TypeId} {x0 x1 x2 x3 : Value} (hb : Below (w.alloc (.cells #[x0, x1, x2, x3] T)).heap.size (w.alloc (.cells #[x0, x1, x2, x3] T)) W) : Box4 W w.heap.size T x0 x1 x2 x3 :=
  (hb.block _ (by simp)).trans (by show (w.heap.push _)[w.heap.size]? = _; simp)
theorem box4_low {w W : World} {o : Obj} (hb : Below (w.alloc o).heap.size (w.alloc o) W) : Below w.heap.size w W := ((Below.refl w.heap.size w).alloc (Nat.le_refl _) o).trans (hb.mono (by simp))

set_option maxRecDepth 100000 in
set_option maxHeartbeats 2000000 in
theorem sz_bind (r : Bi) (v : Value) (bs : List Nat) (w : World) (L : Int) (hv : BiIs w v r bs) (hL0 : 0 ≤ L) (hL1 : L ≤ 1048576) :
    Calls Try.prog 62 #[v, .int .i64 L] w (SzEnd L (biTot r) w) := by
  obtain ⟨u, rfl, hn, h3⟩ := hv
  have HT := Lib.hid (show biTot r = r.name.size + exTot r.val from rfl)
  have H3 := Lib.hid (fun (W : World) (l : Int) (hb : Below w.heap.size w W) (h0 : 0 ≤ l) (hl : l ≤ 1048576) => sz_expr r.val _ bs W l (h3.below hb) h0 hl)
  obtain ⟨u', e3, -, hu⟩ := h3
  obtain ⟨A3, c3, e4, -⟩ := hu
  simp only [Value.agg.injEq, Array.mk.injEq, List.cons.injEq, and_true, true_and] at e3
  subst e3; subst e4
  obtain ⟨N, hN⟩ : ∃ N, N = r.name := ⟨_, rfl⟩
  obtain ⟨K, hK⟩ : ∃ K, K = r.val.kind := ⟨_, rfl⟩
  obtain ⟨S, hS⟩ : ∃ S, S = r.val.name := ⟨_, rfl⟩
  rw [← hN] at hn HT
  rw [← hK, ← hS] at H3
  rw [← hN, ← hK, ← hS]
  clear hN hK hS
  have HBX := Lib.hid (fun (W : World) => box4_new (w := w) (W := W) (T := 87) (x0 := .string N) (x1 := .int .i64 K) (x2 := .string S) (x3 := .slice A3 r.val.args.length c3))
  generalize r.val.args.length = n3 at *
  obtain ⟨l1, hl1⟩ : ∃ l1 : Int, l1 = L - (N.size : Int) := ⟨_, rfl⟩
  have HL1 := Lib.hid hl1
  have w1 : IntKind.i64.wrap (L - (N.size : Int)) = l1 := by rw [hl1]; exact IntWalk.i64_in _ (by omega)
  by_cases g1 : l1 < 0
  · clear hl1
    go_enter Try.func62, Try.ntmps62
    go_wp2_with fail
    go_ret
    exact ⟨-1, rfl, (Below.refl _ _).alloc (Nat.le_refl _) _, Or.inl ⟨rfl, by have := HT.out; have := HL1.out; omega⟩⟩
  have g3 : l1 ≤ 1048576 := by omega
  have g4 : 0 ≤ l1 := by omega
  clear hl1
  go_enter Try.func62, Try.ntmps62
  go_wp2_with fail
  go_at_call 33
  refine (H3.out _ _ ((Below.refl _ _).alloc (Nat.le_refl _) _) g4 g3).mono ?_
  rintro e x3 ⟨z3, rfl, hb3, hz⟩
  have HB3 := Lib.hid hb3
  clear hb3
  rcases hz with ⟨rfl, hz⟩ | ⟨hz0, hz⟩
  · have HZ := Lib.hid hz
    clear hz
    go_wp2_with fail
    go_ret
    exact ⟨-1, rfl, box4_low HB3.out, Or.inl ⟨rfl, by have := HT.out; have := HL1.out; have := HZ.out; omega⟩⟩
  have HZ3 := Lib.hid hz
  clear hz
  go_wp2_with fail
  go_ret
  exact ⟨z3, rfl, box4_low HB3.out, Or.inr ⟨hz0, by have := HT.out; have := HL1.out; have := HZ3.out; omega⟩⟩

set_option maxHeartbeats 2000000 in
theorem sz_binds (l : List Bi) (v : Value) (bs : List Nat) (w : World) (L : Int) (hv : BlIs w v l bs) (hL0 : 0 ≤ L) (hL1 : L ≤ 1048576) :
    Calls Try.prog 26 #[v, .int .i64 L] w (SzEnd L (bisTot l) w) := by
  obtain ⟨A, c, rfl, hc1, hc2, -⟩ := id hv
  have HU := Lib.hid hv
  obtain ⟨m, hm⟩ : ∃ m, m = l.length := ⟨_, rfl⟩
  rw [← hm] at hc1 HU ⊢
  have HM := Lib.hid hm
  have HT := Lib.hid (bisTot_ge l)
  clear hm hv
  by_cases h0 : L - (m : Int) < 0
  · go_enter Try.func26, Try.ntmps26
    go_wp2_with fail
    go_ret
    exact ⟨-1, rfl, Below.refl _ _, Or.inl ⟨rfl, by have := HT.out; have := HM.out; omega⟩⟩
  · have HLOW := Lib.hid (show (L - (m : Int) = L - (m : Int) - (((bisTot (l.take 0) : Nat) : Int) - ((0 : Nat) : Int))) by simp [bisTot])
    have h0' : 0 ≤ L - (m : Int) := by omega
    go_enter Try.func26, Try.ntmps26
    go_wp2_with fail
    go_loopw [1, 5] (fun t i wr => ∃ (k : Nat) (z : Int), k ≤ m ∧ i = .int .i64 (k : Int) ∧ t = .int .i64 z ∧ 0 ≤ z ∧ z ≤ 1048576 ∧ Hid (z = L - (m : Int) - (((bisTot (l.take k) : Nat) : Int) - (k : Int))) ∧ Hid (Below w.heap.size w wr)) (fun _ i _ => m - (intOf i).toNat)
    case atStart => exact ⟨0, _, Nat.zero_le _, rfl, rfl, h0', by omega, HLOW, Lib.hid (Below.refl _ _)⟩
    case round =>
      obtain ⟨k, z, hk, rfl, rfl, hz0, hz1, HZ, HB⟩ := hrel
      by_cases hlt : k < m
      · obtain ⟨g, o, r, u, b, hA⟩ := (HU.out.below HB.out).get k (by rw [← HM.out]; exact hlt)
        obtain rfl := hA.eq
        obtain ⟨c0, c1, c2, c3⟩ := hA.cells
        have HG := Lib.hid (bisTot_snoc l k r hA.get)
        have HTK := Lib.hid (bisTot_rest l (k + 1))
        have HKM := Lib.hid (show (k : Int) + 1 ≤ m by omega)
        have HCALL := Lib.hid (sz_bind r _ b wr z hA.is hz0 hz1)
        clear hA
        go_wp2_with (go_at_call 62; refine HCALL.out.mono ?_; rintro r w1 ⟨z1, rfl, hb1, hz⟩; have HB1 := Lib.hid (HB.out.trans (hb1.mono HB.out.size)); clear hb1; rcases hz with ⟨rfl, hz⟩ | ⟨hq0, hz⟩ <;> (have HQ := Lib.hid hz; clear hz))
        · go_ret
          refine ⟨-1, rfl, HB1.out, Or.inl ⟨rfl, ?_⟩⟩
          have h1 := HQ.out
          have h2 := HZ.out
          have h3 := HG.out
          have h4 := HTK.out
          have h5 := HKM.out
          have h7 := HM.out
          omega
        · have hq1 : z1 ≤ 1048576 := by have := HQ.out; omega
          go_roundw
          case rel => exact ⟨k + 1, _, by omega, by go_num, rfl, hq0, hq1, Lib.hid (by have := HQ.out; have := HZ.out; have := HG.out; omega), HB1⟩
          case measure => simp [intOf]; omega
      · have HE2 := Lib.hid (show z = L - (bisTot l : Int) by
          have h := HZ.out
          rw [List.take_of_length_le (by rw [← HM.out]; omega)] at h
          omega)
        go_wp2_with fail
        go_ret
        exact ⟨z, rfl, HB.out, Or.inr ⟨hz0, HE2.out⟩⟩

end Go.Proofs.Ytegigjnlecpplaa
