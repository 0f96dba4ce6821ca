/- The contracts of the draws' cursor: it is made over the bytes of a code, and gives numbers below a bound. Condition: the code is at most 1048576 bytes long. -/
import Derived.Test.YtmndlhbgacgnlaaRows
import Derived.WalkKit
import Derived.WalkSpells
import Derived.WalkLawsBesides
import Derived.WalkSmall
import Derived.Lib.Hide
import Derived.Deep.QuietTactic
import Derived.BigQuiet
import Derived.Laws.BitsLemmas
import Derived.Deep.Draws
namespace Go.Proofs.Ytmndlhbgacgnlaa
open Go Go.RowKit

/-- The slice at A reads as the bytes zs; it lies below block B. -/
def Bytes (w : World) (B : Nat) (A : Option Addr) (zs : List Int) : Prop :=
  ∀ i z, zs[i]? = some z → ∃ a, A = some a ∧ w.cell? (a.add i) = some (.int .u8 z) ∧ 0 ≤ z ∧ z ≤ 255 ∧ a.block < B
theorem block_addD (a : Addr) (n : Nat) : (a.add n).block = a.block := by unfold Addr.add; split <;> rfl
theorem Bytes.below {w w' : World} {B : Nat} {A : Option Addr} {zs : List Int} (h : Bytes w B A zs) (hb : Below B w w') : Bytes w' B A zs := fun i z hz => by
  obtain ⟨a, e, hc, h0, h1, hl⟩ := h i z hz
  exact ⟨a, e, (hb.cell (p := a.add i) (by rw [block_addD]; exact hl)).trans hc, h0, h1, hl⟩
theorem Bytes.get {w : World} {B : Nat} {A : Option Addr} {zs : List Int} (h : Bytes w B A zs) (k : Nat) (hk : k < zs.length) : ∃ a z, A = some a ∧ w.cell? (a.add k) = some (.int .u8 z) ∧ 0 ≤ z ∧ z ≤ 255 ∧ a.block < B := by
  obtain ⟨a, e, hc, h0, h1, hl⟩ := h k zs[k] (List.getElem?_eq_getElem hk)
  exact ⟨a, zs[k], e, hc, h0, h1, hl⟩

/-- Block g is a cursor over the code. -/
def Cur (w : World) (g : Nat) (A : Option Addr) (n cap : Nat) : Prop :=
  ∃ (k : Nat) (h : Int), k ≤ n ∧ w.heap[g]? = some (.cells #[.slice A n cap, .int .i64 (k : Int), .int .i64 h] 140 (0, 0))

theorem mask_and (n : Int) (j : Nat) (m : Int) (hm : (BitVec.ofInt 64 m).toNat = 2 ^ j - 1) (hj : j ≤ 62) : 0 ≤ bits .and .i64 n m ∧ bits .and .i64 n m < ((2 ^ j : Nat) : Int) := by
  have key : (BitVec.ofInt 64 n &&& BitVec.ofInt 64 m).toNat = (n % ((2 ^ 64 : Nat) : Int)).toNat % 2 ^ j := by
    rw [BitVec.toNat_and, BitVec.toNat_ofInt, hm, Nat.and_two_pow_sub_one_eq_mod]
  have e : bits .and .i64 n m = IntKind.i64.wrap ((BitVec.ofInt 64 n &&& BitVec.ofInt 64 m).toNat : Nat) := rfl
  have hlt := Nat.mod_lt (n % ((2 ^ 64 : Nat) : Int)).toNat (Nat.two_pow_pos j)
  have hp : 2 ^ j ≤ 2 ^ 62 := Nat.pow_le_pow_right (by decide) hj
  have e62 : (2 : Nat) ^ 62 = 4611686018427387904 := by decide
  rw [e, key, IntKind.wrap_i64]
  generalize (n % ((2 ^ 64 : Nat) : Int)).toNat % 2 ^ j = r at *
  generalize 2 ^ j = M at *
  omega
theorem and255 (n : Int) : 0 ≤ bits .and .i64 n 255 ∧ bits .and .i64 n 255 ≤ 255 := by
  have h := mask_and n 8 255 (by decide) (by decide)
  have e : ((2 ^ 8 : Nat) : Int) = 256 := by decide
  rw [e] at h
  omega

def NewPost (B : Nat) (A : Option Addr) (n cap : Nat) (w : World) (e : Ending) (w' : World) : Prop :=
  ∃ g, e = .returned (.pointer (some ⟨g, 0, none⟩)) ∧ Cur w' g A n cap ∧ B ≤ g ∧ Below B w w'

set_option maxHeartbeats 1000000 in
theorem new_any (B : Nat) (A : Option Addr) (zs : List Int) (cap : Nat) (w : World) (hs : Bytes w B A zs) (hB : B ≤ w.heap.size) (hn : zs.length ≤ 1048576) :
    Calls Try.prog 53 #[.slice A zs.length cap] w (NewPost B A zs.length cap w) := by
  obtain ⟨n, hnn⟩ : ∃ n, n = zs.length := ⟨_, rfl⟩
  have HN := Lib.hid hnn
  have HS := Lib.hid hs
  rw [← hnn]
  rw [← hnn] at hn
  have HB := Lib.hid hB
  clear hs hnn hB
  go_enter Try.func53, Try.ntmps53
  go_wp2
  go_loop [3, 4] (fun h i => ∃ (k : Nat) (hh : Int), k ≤ n ∧ i = .int .i64 (k : Int) ∧ h = .int .i64 hh) (fun _ i => n - (intOf i).toNat)
  case atStart => exact ⟨0, _, Nat.zero_le _, rfl, rfl⟩
  case round =>
    obtain ⟨k, hh, hk, rfl, rfl⟩ := hrel
    have HP := Lib.hid (fun (h : Int) => show NewPost B A n cap w (.returned (.pointer (some ⟨w.heap.size, 0, none⟩))) (w.alloc (.cells #[.slice A n cap, .int .i64 0, .int .i64 h] 140)) from
      ⟨w.heap.size, rfl, ⟨0, h, Nat.zero_le _, heap_alloc_new w _⟩, HB.out, (Below.refl B w).alloc HB.out _⟩)
    by_cases hlt : k < n
    · by_cases h4 : (k : Int) < 4000
      · obtain ⟨a, z, rfl, hc, hz0, hz1, -⟩ := HS.out.get k (by rw [← HN.out]; exact hlt)
        go_wp2
        go_round
        case rel => exact ⟨k + 1, _, by omega, by go_num, rfl⟩
        case measure => simp [intOf]; omega
      · go_wp2
        go_ret
        exact HP.out _
    · go_wp2
      go_ret
      exact HP.out _

/-- Only block g, and what is new, has turned. -/
def Only (g : Nat) (w w' : World) : Prop := w.grownBy w' (some g)
theorem Only.refl (g : Nat) (w : World) : Only g w w := World.grownBy.refl w _
theorem Only.trans {g : Nat} {a b c : World} (h : Only g a b) (k : Only g b c) : Only g a c :=
  ⟨k.os.trans h.os, k.tape.trans h.tape, k.output.trans h.output, Nat.le_trans h.size k.size, fun i hi hn => (k.block i (Nat.lt_of_lt_of_le hi h.size) hn).trans (h.block i hi hn)⟩
theorem Only.drewN {g : Nat} {a b : World} (h : Only g a b) (n : Nat) : Only g a (b.drewN n) := ⟨h.os, h.tape, h.output, h.size, h.block⟩
theorem Only.set_ {g : Nat} {a w : World} (h : Only g a w) (k : Nat) (u : Value) : Only g a (w.setCell ⟨g, k, none⟩ u) :=
  ⟨h.os, h.tape, h.output, by simpa [World.setCell] using h.size, fun i hi hne => (Below.heap_setCell w ⟨g, k, none⟩ u i (fun e => hne (by rw [e]))).trans (h.block i hi hne)⟩
theorem Only.below {g B : Nat} {a b : World} (h : Only g a b) (hg : B ≤ g) (hB : B ≤ a.heap.size) : Below B a b :=
  ⟨h.os, h.tape, h.output, h.size, fun k hk => h.block k (Nat.lt_of_lt_of_le hk hB) (fun e => by have := Option.some.inj e; omega)⟩
theorem Cur.lt {w : World} {g n cap : Nat} {A : Option Addr} (h : Cur w g A n cap) : g < w.heap.size := by
  obtain ⟨k, x, -, hr⟩ := h
  rcases Nat.lt_or_ge g w.heap.size with h' | h'
  · exact h'
  · rw [Array.getElem?_eq_none h'] at hr; cases hr
theorem Bytes.only {w w' : World} {B g : Nat} {A : Option Addr} {zs : List Int} (h : Bytes w B A zs) (ho : Only g w w') (hg : B ≤ g) (hB : B ≤ w.heap.size) : Bytes w' B A zs := h.below (ho.below hg hB)

def BytePost (g : Nat) (A : Option Addr) (n cap : Nat) (w : World) (e : Ending) (w' : World) : Prop :=
  ∃ x : Int, e = .returned (.int .i64 x) ∧ 0 ≤ x ∧ x ≤ 255 ∧ Cur w' g A n cap ∧ Only g w w'

theorem row_set {w : World} {g : Nat} {cs : Array Value} {t : TypeId} (h : w.heap[g]? = some (.cells cs t (0, 0))) (i : Nat) (u : Value) : (w.setCell ⟨g, i, none⟩ u).heap[g]? = some (.cells (cs.setIfInBounds i u) t (0, 0)) := by
  simp [World.setCell, Array.getElem?_modify, h]

theorem byte_end {g k n cap : Nat} {A : Option Addr} {h : Int} {w W : World} (hrow : W.heap[g]? = some (.cells #[.slice A n cap, .int .i64 (k : Int), .int .i64 h] 140 (0, 0))) (hb : Only g w W) (hlt : k < n) (y : Int) :
    BytePost g A n cap w (.returned (.int .i64 (bits BinOp.and IntKind.i64 y 255))) (W.setCell ⟨g, 1, none⟩ (.int .i64 ((k : Int) + 1))) := by
  refine ⟨_, rfl, (and255 y).1, (and255 y).2, ⟨k + 1, h, hlt, ?_⟩, hb.set_ 1 _⟩
  have h2 := row_set hrow 1 (.int .i64 ((k : Int) + 1))
  simpa using h2

set_option maxHeartbeats 1000000 in
theorem byte_any (B g : Nat) (A : Option Addr) (zs : List Int) (cap : Nat) (w : World) (hs : Bytes w B A zs) (hg : B ≤ g) (hc : Cur w g A zs.length cap) (hn : zs.length ≤ 1048576) :
    Calls Try.prog 101 #[.pointer (some ⟨g, 0, none⟩)] w (BytePost g A zs.length cap w) := by
  obtain ⟨n, hnn⟩ : ∃ n, n = zs.length := ⟨_, rfl⟩
  rw [← hnn]
  rw [← hnn] at hn hc
  have hlt0 := hc.lt
  obtain ⟨k, h, hk, hrow⟩ := hc
  have hc2 : w.cell? ⟨g, 2, none⟩ = some (.int .i64 h) := cell_of_row w g 2 _ 140 (0, 0) hrow
  have hf2 : w.frozen? ⟨g, 2, none⟩ = false := by simp [World.frozen?, hrow]
  have HN := Lib.hid hnn
  have HROW := Lib.hid hrow
  have HS := Lib.hid hs
  have HG := Lib.hid hg
  have HBS := Lib.hid (Nat.le_trans hg (Nat.le_of_lt hlt0))
  clear hs hnn hrow hg hlt0
  go_enter Try.func101, Try.ntmps101
  go_wp2
  generalize wrap64 (h * 6364136223846793005) = m1
  generalize wrap64 (m1 + 1442695040888963407) = h1
  have hrow1 := row_set HROW.out 2 (.int .i64 h1)
  have hb1 : Only g w (w.setCell ⟨g, 2, none⟩ (.int .i64 h1)) := (Only.refl g w).set_ 2 _
  have hs1 := HS.out.only hb1 HG.out HBS.out
  clear hc2 hf2
  generalize w.setCell ⟨g, 2, none⟩ (.int .i64 h1) = W1 at *
  simp only [List.setIfInBounds_toArray, List.set_cons_succ, List.set_cons_zero] at hrow1
  have c0 : W1.cell? ⟨g, 0, none⟩ = some (.slice A n cap) := cell_of_row W1 g 0 _ 140 (0, 0) hrow1
  have c1 : W1.cell? ⟨g, 1, none⟩ = some (.int .i64 (k : Int)) := cell_of_row W1 g 1 _ 140 (0, 0) hrow1
  have c2 : W1.cell? ⟨g, 2, none⟩ = some (.int .i64 h1) := cell_of_row W1 g 2 _ 140 (0, 0) hrow1
  have f1 : W1.frozen? ⟨g, 1, none⟩ = false := by simp [World.frozen?, hrow1]
  have HROW1 := Lib.hid hrow1
  have HB1 := Lib.hid hb1
  have HS1 := Lib.hid hs1
  clear hrow1 hb1 hs1
  go_quiet (fail)
  go_wp2
  obtain ⟨x0, x1⟩ := and255 (bits BinOp.xor IntKind.i64 (h1 / 8589934592) (h1 / 35184372088832))
  generalize bits BinOp.and IntKind.i64 (bits BinOp.xor IntKind.i64 (h1 / 8589934592) (h1 / 35184372088832)) 255 = x at *
  generalize bits BinOp.xor IntKind.i64 (h1 / 8589934592) (h1 / 35184372088832) = y1
  generalize h1 / 8589934592 = y2
  generalize h1 / 35184372088832 = y3
  by_cases hlt : k < n
  · obtain ⟨a, z, rfl, hcz, hz0, hz1, -⟩ := HS1.out.get k (by rw [← HN.out]; exact hlt)
    have hk0 : 0 ≤ (k : Int) := by omega
    have hkn : (k : Int) < (n : Int) := by omega
    go_quiet (fail)
    go_wp2
    go_quiet (fail)
    go_wp2
    go_ret
    refine byte_end (h := h1) ?_ ?_ hlt (x + z)
    · exact HROW1.out
    · exact HB1.out.drewN _
  · go_quiet (fail)
    go_wp2
    go_ret
    exact ⟨x, rfl, x0, x1, ⟨k, h1, hk, HROW1.out⟩, (HB1.out.drewN _).drewN _⟩

def NumPost (lim : Int) (g : Nat) (A : Option Addr) (n cap : Nat) (w : World) (e : Ending) (w' : World) : Prop :=
  ∃ x : Int, e = .returned (.int .i64 x) ∧ 0 ≤ x ∧ x < lim ∧ Cur w' g A n cap ∧ Only g w w'

set_option maxHeartbeats 1000000 in
/-- l1Below at a bound from 1 to 256. -/
theorem below_small (B g : Nat) (A : Option Addr) (zs : List Int) (cap : Nat) (lim : Int) (w : World) (hs : Bytes w B A zs) (hg : B ≤ g) (hc : Cur w g A zs.length cap) (hn : zs.length ≤ 1048576) (h0 : 1 ≤ lim) (h1 : lim ≤ 256) :
    Calls Try.prog 56 #[.pointer (some ⟨g, 0, none⟩), .int .i64 lim] w (NumPost lim g A zs.length cap w) := by
  have HA := Lib.hid (byte_any B g A zs cap w hs hg hc hn)
  clear hs hg hc hn
  go_enter Try.func56, Try.ntmps56
  go_wp2_with (go_at_call 101; refine HA.out.mono ?_; rintro e w1 ⟨x, rfl, x0, x1, hc1, hb1⟩)
  go_ret
  exact ⟨x % lim, rfl, Int.emod_nonneg _ (by omega), Int.emod_lt_of_pos _ (by omega), hc1, hb1⟩

set_option maxHeartbeats 1000000 in
/-- l1Below at a bound above 256. -/
theorem below_large (B g : Nat) (A : Option Addr) (zs : List Int) (cap : Nat) (lim : Int) (w : World) (hs : Bytes w B A zs) (hg : B ≤ g) (hc : Cur w g A zs.length cap) (hn : zs.length ≤ 1048576) (h0 : 256 < lim) (h1 : lim ≤ 1000000000) :
    Calls Try.prog 56 #[.pointer (some ⟨g, 0, none⟩), .int .i64 lim] w (NumPost lim g A zs.length cap w) := by
  have HA := Lib.hid (fun (W : World) (hb : Only g w W) (hcW : Cur W g A zs.length cap) => byte_any B g A zs cap W (hs.only hb hg (Nat.le_trans hg (Nat.le_of_lt hc.lt))) hg hcW hn)
  have HC := Lib.hid hc
  have HB := Lib.hid (Only.refl g w)
  clear hs hg hc hn
  go_enter Try.func56, Try.ntmps56
  go_wp2_with fail
  go_at_call 101
  refine (HA.out _ HB.out HC.out).mono ?_
  rintro e w1 ⟨x, rfl, x0, x1, hc1, hb1⟩
  have HB1 := Lib.hid (HB.out.trans hb1)
  have HC1 := Lib.hid hc1
  clear hc1 hb1
  go_wp2_with fail
  go_at_call 101
  refine (HA.out _ HB1.out HC1.out).mono ?_
  rintro e w2 ⟨y, rfl, y0, y1, hc2, hb2⟩
  have HB2 := Lib.hid (HB1.out.trans hb2)
  have HC2 := Lib.hid hc2
  clear hc2 hb2
  go_wp2_with fail
  go_at_call 101
  refine (HA.out _ HB2.out HC2.out).mono ?_
  rintro e w3 ⟨z, rfl, z0, z1, hc3, hb3⟩
  have HB3 := Lib.hid (HB2.out.trans hb3)
  have HC3 := Lib.hid hc3
  clear hc3 hb3
  go_wp2_with fail
  go_at_call 101
  refine (HA.out _ HB3.out HC3.out).mono ?_
  rintro e w4 ⟨u, rfl, u0, u1, hc4, hb4⟩
  have HB4 := Lib.hid (HB3.out.trans hb4)
  have HC4 := Lib.hid hc4
  clear hc4 hb4
  go_wp2_with fail
  go_ret
  exact ⟨_, rfl, Int.emod_nonneg _ (by omega), Int.emod_lt_of_pos _ (by omega), HC4.out, HB4.out⟩
end Go.Proofs.Ytmndlhbgacgnlaa
