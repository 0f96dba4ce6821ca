/- Plain mathematics for FormatInt: the decimal digits of a number, taken from its end. No condition. A string of one byte, and the digits of a positive integer. No condition. The contracts of the laws' marks on slices of strings. Conditions: the slice is a row of the call's own; fewer than 2^40 elements. The contract of the laws' marks in an expression's memory. Conditions: the blocks are different and may be written; fewer than 2^38 nodes. -/
import Derived.Lib.ItoaNum
import Derived.Test.YtbnghkgfbjipdaaRows
import Derived.WalkKit
import Derived.WalkSpells
import Derived.WalkLawsBesides
import Derived.Lib.Hide
import Derived.Lib.ItoaLen
import Derived.Test.YtbnghkgfbjipdaaMa02
import Derived.Deep.RegionHeld3
import Derived.Test.YtbnghkgfbjipdaaMa01
namespace Go.Proofs.Ytbnghkgfbjipdaa
open Go

/-- The decimal digits of u; none for 0. -/
def dz (u : Nat) : List UInt8 := if u = 0 then [] else Lib.decDigits u

theorem dz_zero : dz 0 = [] := by simp [dz]
theorem dz_step (u : Nat) (h : u ≠ 0) : dz u = dz (u / 10) ++ [UInt8.ofNat (48 + u % 10)] := by
  unfold dz
  rw [if_neg h]
  by_cases h10 : u < 10
  · rw [if_pos (by omega), Lib.decDigits, dif_pos h10, Nat.mod_eq_of_lt h10]; rfl
  · rw [if_neg (by omega), Lib.decDigits, dif_neg h10]
theorem itoa_pos (u : Nat) (h : u ≠ 0) : Lib.itoa (u : Int) = dz u := by
  unfold Lib.itoa dz; rw [if_neg (by omega), if_neg h]; simp
theorem itoa_minus (u : Nat) (h : u ≠ 0) : Lib.itoa (-(u : Int)) = 45 :: dz u := by
  unfold Lib.itoa dz; rw [if_pos (by omega), if_neg h]; simp
theorem itoa_nil : Lib.itoa 0 = [48] := by decide +kernel
theorem dz_length : ∀ u : Nat, (dz u).length ≤ u := by
  intro u
  induction u using Nat.strongRecOn with
  | _ u ih =>
    by_cases h : u = 0
    · subst h; simp [dz_zero]
    · rw [dz_step u h, List.length_append]
      have := ih (u / 10) (by omega)
      simp only [List.length_cons, List.length_nil]; omega
end Go.Proofs.Ytbnghkgfbjipdaa

namespace Go.Proofs.Ytbnghkgfbjipdaa
open Go Go.RowKit

theorem conv_one (W : World) (v : Int) : (convert 22 9 (.slice (some ⟨W.heap.size, 0, none⟩) 1 1)).run Try.prog (W.alloc (.cells #[.int .u8 v] 5)) = .ok (.string ⟨#[UInt8.ofNat v.toNat]⟩) (W.alloc (.cells #[.int .u8 v] 5)) :=
  run_convert_bytes_arg (P := Try.prog) _ 22 5 Try.underlying22 Try.underlying5 W.heap.size 0 1 1 [v] rfl (fun i hi => by
    obtain rfl : i = 0 := by omega
    exact World.cell?_alloc_new _ _ _ _) 9 Try.underlying9

theorem dz_int (a : Int) (h : 0 < a) : dz a.toNat = dz (a / 10).toNat ++ [UInt8.ofNat (48 + a % 10).toNat] := by
  have e1 : (a / 10).toNat = a.toNat / 10 := by omega
  have e2 : (48 + a % 10).toNat = 48 + a.toNat % 10 := by omega
  rw [e1, e2]; exact dz_step a.toNat (by omega)

theorem dz_len (n : Int) (h0 : 0 < n) (h1 : n ≤ 9223372036854775807) : (dz n.toNat).length ≤ 21 := by
  have h := Lib.itoa_length_le n (by omega) h1
  rw [show n = ((n.toNat : Nat) : Int) by omega, itoa_pos n.toNat (by omega)] at h
  exact h

end Go.Proofs.Ytbnghkgfbjipdaa

namespace Go.Proofs.Ytbnghkgfbjipdaa
open Go Go.RowKit

/-- The text of a mark. -/
def mt (m : Int) : ByteArray := ⟨(109 :: dz m.toNat).toArray⟩

set_option maxHeartbeats 400000 in
theorem mark_text (n : Int) (h0 : 0 < n) (h1 : n ≤ 9223372036854775807) (w : World) :
    Calls Try.prog 87 #[.int .i64 n] w fun e w' => e = .returned (.string (mt n)) ∧ Below w.heap.size w w' := by
  have HN := Lib.hid (dz_len n h0 h1)
  go_enter Try.func87, Try.ntmps87
  go_wp2
  go_loopw [0, 3] (fun m o wr => ∃ a : Int, ∃ l : List UInt8, 0 ≤ a ∧ a ≤ 9223372036854775807 ∧ dz a.toNat ++ l = dz n.toNat ∧ m = .int .i64 a ∧ o = .string ⟨l.toArray⟩ ∧ Below w.heap.size w wr) (fun m _ _ => (intOf m).toNat)
  case atStart => exact ⟨n, [], by omega, h1, by simp, rfl, rfl, Below.refl _ _⟩
  case round =>
    obtain ⟨a, l, hk0, hk1, hl, rfl, rfl, hb⟩ := hrel
    have hlen : l.length ≤ 21 := by
      have e := congrArg List.length hl
      have e2 := HN.out
      rw [List.length_append] at e
      omega
    have HL := Lib.hid hl
    clear hl
    by_cases hz : 0 < a
    · have hz3 : 0 ≤ a % 10 := by omega
      have hz4 : a % 10 < 10 := by omega
      have hs := Lib.hid hb.size
      have kc := fun (W : World) (v : Int) => conv_one W v
      go_wp2
      go_roundw
      case rel =>
        refine ⟨a / 10, UInt8.ofNat (48 + a % 10).toNat :: l, by omega, by omega, ?_, rfl, rfl, hb.alloc hs.out _⟩
        rw [← HL.out, dz_int a hz, List.append_assoc]
        rfl
      case measure => simp [intOf]; omega
    · obtain rfl : a = 0 := by omega
      go_wp2
      go_ret
      have e := HL.out
      simp [dz_zero] at e
      refine ⟨?_, hb⟩
      unfold mt
      rw [← e]; rfl
/-- The marks of n elements, from M on. -/
def mlist (M : Int) (n : Nat) : List ByteArray := (List.range n).map fun (k : Nat) => mt (M + (k : Int))
theorem mlist_length (M : Int) (n : Nat) : (mlist M n).length = n := by simp [mlist]
theorem mlist_at (M : Int) (n k : Nat) (h : k < n) : (mlist M n)[k]? = some (mt (M + (k : Int))) := by simp [mlist, h]
theorem mlist_succ (M : Int) (k : Nat) : mlist M (k + 1) = mlist M k ++ [mt (M + (k : Int))] := by simp [mlist, List.range_succ]

theorem only_below {a w w' : World} {row : Option Nat} (h : a.grownBy w row) (hb : Below w.heap.size w w') : a.grownBy w' row :=
  ⟨hb.os.trans h.os, hb.tape.trans h.tape, hb.output.trans h.output, Nat.le_trans h.size hb.size, fun i hi hn => (hb.block i (Nat.lt_of_lt_of_le hi h.size)).trans (h.block i hi hn)⟩
theorem only_set {a w : World} {g : Nat} (h : a.grownBy w (some g)) (k : Nat) (u : Value) : a.grownBy (w.setCell ⟨g, k, none⟩ u) (some g) :=
  ⟨h.os, h.tape, h.output, by simpa [World.setCell] using h.size, fun i hi hne => (Below.heap_setCell w ⟨g, k, none⟩ u i (fun e => hne (by rw [e]))).trans (h.block i hi hne)⟩
theorem grown_of_below {w w' : World} (h : Below w.heap.size w w') : w.grownBy w' none := ⟨h.os, h.tape, h.output, h.size, fun k hk _ => h.block k hk⟩
theorem own_below {w w' : World} {B n : Nat} {e : TypeId} {v : Value} {xs : List Value} (h : w.ownsRow B e 1 v n xs) (hb : Below w.heap.size w w') : w'.ownsRow B e 1 v n xs :=
  h.kept (grown_of_below hb) (by cases hv : v.ownBlock <;> simp)

theorem mark_step {M : Int} {ys : List Value} {k : Nat} (hk : k < ys.length) (h : ys.take k = (mlist M k).map Value.string) :
    (ys.set k (.string (mt (M + (k : Int))))).take (k + 1) = (mlist M (k + 1)).map Value.string := by
  rw [mlist_succ, List.map_append, ← h, take_nextS _ k (by rw [List.length_set]; exact hk), List.take_set_of_le (Nat.le_refl _), List.getElem_set_self]
  rfl

def MarkPost (M : Int) (B g n cap : Nat) (w : World) (e : Ending) (w' : World) : Prop :=
  e = .returned (.int .i64 (M + (n : Int))) ∧ w'.ownsRow B 9 1 (.slice (some ⟨g, 0, none⟩) n cap) n ((mlist M n).map Value.string) ∧ w.grownBy w' (some g)

theorem add_litS (g k : Nat) : (⟨g, 0, none⟩ : Addr).add k = ⟨g, 0 + k, none⟩ := by
  unfold Addr.add
  split <;> simp_all
theorem below_drew1 {B : Nat} {w w' : World} (h : Below B w w') : Below B w w'.drew := ⟨h.os, h.tape, h.output, h.size, h.block⟩
theorem keep_start {wr : World} {a : Addr} {x : Value} (h : wr.cell? a = some x) : wr.drew.cell? a = some x ∧ Hid (Below wr.heap.size wr wr.drew) := ⟨h, Lib.hid (below_drew1 (Below.refl _ _))⟩
theorem keep_step {wr X w2 : World} {a : Addr} {x : Value} (hg : a.block < wr.heap.size) (hb : Below X.heap.size X w2) (h : X.cell? a = some x ∧ Hid (Below wr.heap.size wr X)) : w2.cell? a = some x ∧ Hid (Below wr.heap.size wr w2) :=
  ⟨(hb.cell (p := a) (Nat.lt_of_lt_of_le hg h.2.out.size)).trans h.1, Lib.hid (h.2.out.trans (hb.mono h.2.out.size))⟩
def HeldPost (M : Int) (n : Nat) (w : World) (e : Ending) (w' : World) : Prop := e = .returned (.int .i64 (M + (n : Int))) ∧ Below w.heap.size w w'

end Go.Proofs.Ytbnghkgfbjipdaa

namespace Go.Proofs.Ytbnghkgfbjipdaa
open Go Go.RowKit

mutual
/-- The expression that a marked one reads as. -/
def mkEx (M : Int) : Ex → Ex
  | .mk _ _ l => .mk M (mt (M + 1)) (mkExs (M + 2) l)
def mkExs (M : Int) : List Ex → List Ex
  | [] => []
  | e :: r => mkEx M e :: mkExs (M + 2 * exSize e) r
end
theorem mkExs_len : ∀ (l : List Ex) (M : Int), (mkExs M l).length = l.length := by
  intro l
  induction l with
  | nil => intro M; rfl
  | cons e r ih => intro M; rw [mkExs, List.length_cons, List.length_cons, ih]
theorem mkExs_snoc : ∀ (l : List Ex) (M : Int) (e : Ex), mkExs M (l ++ [e]) = mkExs M l ++ [mkEx (M + 2 * exSizes l) e] := by
  intro l
  induction l with
  | nil => intro M e; simp [mkExs, exSizes]
  | cons x r ih =>
    intro M e
    rw [List.cons_append, mkExs, mkExs, ih, List.cons_append, exSizes]
    congr 3
    congr 1
    omega
/-- OnlyIn the blocks of bs have turned among those that were there. -/
structure OnlyIn (w w' : World) (bs : List Nat) : Prop where
  os : w'.os = w.os
  tape : w'.tape = w.tape
  output : w'.output = w.output
  size : w.heap.size ≤ w'.heap.size
  block : ∀ k, k < w.heap.size → k ∉ bs → w'.heap[k]? = w.heap[k]?
theorem OnlyIn.refl (w : World) (bs : List Nat) : OnlyIn w w bs := ⟨rfl, rfl, rfl, Nat.le_refl _, fun _ _ _ => rfl⟩
theorem OnlyIn.trans {a b c : World} {bs : List Nat} (h : OnlyIn a b bs) (k : OnlyIn b c bs) : OnlyIn a c bs :=
  ⟨k.os.trans h.os, k.tape.trans h.tape, k.output.trans h.output, Nat.le_trans h.size k.size, fun i hi hn => (k.block i (Nat.lt_of_lt_of_le hi h.size) hn).trans (h.block i hi hn)⟩
theorem OnlyIn.of_below {a b : World} (h : Below a.heap.size a b) (bs : List Nat) : OnlyIn a b bs := ⟨h.os, h.tape, h.output, h.size, fun i hi _ => h.block i hi⟩
theorem OnlyIn.more {a b : World} {bs cs : List Nat} (h : OnlyIn a b bs) (hs : ∀ x ∈ bs, x ∈ cs) : OnlyIn a b cs := ⟨h.os, h.tape, h.output, h.size, fun i hi hn => h.block i hi (fun hm => hn (hs i hm))⟩
theorem OnlyIn.set {a b : World} {bs : List Nat} (h : OnlyIn a b bs) {p : Addr} (hp : p.block ∈ bs) (u : Value) : OnlyIn a (b.setCell p u) bs :=
  h.trans ⟨rfl, rfl, rfl, by simp [World.setCell], fun i _ hn => Below.heap_setCell b p u i (fun e => hn (e ▸ hp))⟩
theorem OnlyIn.keeps {a b : World} {bs cs : List Nat} (h : OnlyIn a b bs) (hd : ∀ x ∈ cs, x ∉ bs) : Keeps a b cs := ⟨h.size, fun x hx hlt => h.block x hlt (hd x hx)⟩
/-- Elements from a place on stay while cells before it are written. -/
theorem ExsAt.from_ {w w' : World} {g o : Nat} : ∀ (l : List Ex) (j : Nat) (bs : List Nat), ExsAt w g o j l bs → (∀ m, o + j * 3 ≤ m → w'.cell? ⟨g, m, none⟩ = w.cell? ⟨g, m, none⟩) → Keeps w w' bs → ExsAt w' g o j l bs := by
  intro l
  induction l with
  | nil => intro j bs h _ _; rw [ExsAt] at h ⊢; exact h
  | cons e r ih =>
    intro j bs h hc hk
    rw [ExsAt] at h ⊢
    obtain ⟨b1, b2, rfl, h1, h2⟩ := h
    exact ⟨b1, b2, rfl, h1.same (fun m hm1 hm2 => hc m (by omega)) ⟨hk.1, fun x hx => hk.2 x (List.mem_append_left _ hx)⟩,
      ih (j + 1) b2 h2 (fun m hm => hc m (by omega)) ⟨hk.1, fun x hx => hk.2 x (List.mem_append_right _ hx)⟩⟩

theorem mt_size (n : Int) (h0 : 0 < n) (h1 : n ≤ 9223372036854775807) : (mt n).size ≤ 9223372036854775807 := by
  have := dz_len n h0 h1
  unfold mt
  simp only [ByteArray.size, List.size_toArray, List.length_cons]
  omega
theorem Mine.set {w : World} {B : Nat} {bs : List Nat} (h : Mine w B bs) (p : Addr) (u : Value) : Mine (w.setCell p u) B bs :=
  ⟨h.nodup, fun x hx => by have := h.range x hx; simp [World.setCell]; omega, fun x hx o => by rw [World.frozen?_setCell]; exact h.free x hx o⟩
theorem Mine.sub {w : World} {B : Nat} {bs cs : List Nat} (h : Mine w B bs) (hs : ∀ x ∈ cs, x ∈ bs) (hn : cs.Nodup) : Mine w B cs := ⟨hn, fun x hx => h.range x (hs x hx), fun x hx => h.free x (hs x hx)⟩

theorem sizes_app : ∀ (a b : List Ex), exSizes (a ++ b) = exSizes a + exSizes b := by
  intro a
  induction a with
  | nil => intro b; simp [exSizes]
  | cons x r ih => intro b; rw [List.cons_append, exSizes, exSizes, ih]; omega
theorem sizes_snoc2 (l : List Ex) (k : Nat) (e : Ex) (h : l[k]? = some e) : exSizes (l.take (k + 1)) = exSizes (l.take k) + exSize e := by
  have hk : k < l.length := (List.getElem?_eq_some_iff.1 h).1
  rw [List.take_succ_eq_append_getElem hk, (List.getElem?_eq_some_iff.1 h).2, sizes_app]
  simp [exSizes]
theorem sizes_take2 (l : List Ex) (k : Nat) : exSizes (l.take k) ≤ exSizes l := by
  have h := sizes_app (l.take k) (l.drop k)
  rw [List.take_append_drop] at h
  omega
theorem mark_apart {g : Nat} {d1 b1 b2 : List Nat} (h : (g :: (d1 ++ (b1 ++ b2))).Nodup) : g ∉ b1 ∧ b1.Nodup := by
  rw [List.nodup_cons, List.nodup_append] at h
  obtain ⟨h1, -, h2, -⟩ := h
  rw [List.nodup_append] at h2
  exact ⟨fun hx => h1 (List.mem_append_right _ (List.mem_append_left _ hx)), h2.1⟩

/-- While a slice is marked: what is marked, and what is still to come. -/
structure Marking (w wr : World) (g o : Nat) (M : Int) (l : List Ex) (k : Nat) (d1 d2 : List Nat) : Prop where
  done : ExsAt wr g o 0 (mkExs M (l.take k)) d1
  todo : ExsAt wr g o k (l.drop k) d2
  only : OnlyIn w wr (g :: (d1 ++ d2))
  mine : Mine wr 0 (g :: (d1 ++ d2))
def MarkEnd (M : Int) (l : List Ex) (v : Value) (bs : List Nat) (w : World) (r : Ending) (w' : World) : Prop := r = .returned (.int .i64 (M + 2 * (exSizes l : Int))) ∧ SlIs w' v (mkExs M l) bs ∧ OnlyIn w w' bs ∧ Mine w' 0 bs

theorem Marking.step {w wr w2 w4 : World} {g o : Nat} {M z : Int} {l : List Ex} {k : Nat} {d1 b1 b2 : List Nat} {e : Ex} {u : Value} {S : ByteArray}
    (h : Marking w wr g o M l k d1 (b1 ++ b2)) (hget : l[k]? = some e) (hz : z = M + 2 * (exSizes (l.take k) : Int)) (hS : S = mt (z + 1)) (hSz : S.size ≤ 9223372036854775807)
    (hk : k < l.length) (c0 : ∃ y, wr.cell? ⟨g, o + k * 3, none⟩ = some y) (c1 : ∃ y, wr.cell? ⟨g, o + k * 3 + 1, none⟩ = some y) (c2 : wr.cell? ⟨g, o + k * 3 + 2, none⟩ = some u)
    (htd : ExsAt wr g o (k + 1) (l.drop (k + 1)) b2)
    (hb2 : Below (wr.setCell ⟨g, o + k * 3, none⟩ (.int .i64 z)).heap.size (wr.setCell ⟨g, o + k * 3, none⟩ (.int .i64 z)) w2)
    (hu : SlIs w4 u (mkExs (z + 2) e.args) b1) (ho : OnlyIn (w2.setCell ⟨g, o + k * 3 + 1, none⟩ (.string S)) w4 b1) (hm : Mine w4 0 b1) : Marking w w4 g o M l (k + 1) (d1 ++ b1) b2 := by
  have hnd := h.mine.nodup
  rw [List.nodup_cons, List.nodup_append] at hnd
  obtain ⟨hg0, hd1, hd2, hdis⟩ := hnd
  rw [List.nodup_append] at hd2
  obtain ⟨hb1n, hb2n, hb12⟩ := hd2
  have hglt := (h.mine.range g (by simp)).2
  have gd1 : g ∉ d1 := fun hx => hg0 (List.mem_append_left _ hx)
  have gb1 : g ∉ b1 := fun hx => hg0 (List.mem_append_right _ (List.mem_append_left _ hx))
  have gb2 : g ∉ b2 := fun hx => hg0 (List.mem_append_right _ (List.mem_append_right _ hx))
  have sz1 : (wr.setCell ⟨g, o + k * 3, none⟩ (.int .i64 z)).heap.size = wr.heap.size := by simp [World.setCell]
  have sz3 : (w2.setCell ⟨g, o + k * 3 + 1, none⟩ (.string S)).heap.size = w2.heap.size := by simp [World.setCell]
  -- cells of g
  have cg : ∀ m, w4.cell? ⟨g, m, none⟩ = (w2.setCell ⟨g, o + k * 3 + 1, none⟩ (.string S)).cell? ⟨g, m, none⟩ := fun m => World.cell?_of_block (w := w2.setCell ⟨g, o + k * 3 + 1, none⟩ (.string S)) (a := ⟨g, m, none⟩) (ho.block g (by rw [sz3]; have := hb2.size; rw [sz1] at this; omega) gb1)
  have cb : ∀ m, w2.cell? ⟨g, m, none⟩ = (wr.setCell ⟨g, o + k * 3, none⟩ (.int .i64 z)).cell? ⟨g, m, none⟩ := fun m => hb2.cell (p := ⟨g, m, none⟩) (by rw [sz1]; exact hglt)
  have other : ∀ m, m ≠ o + k * 3 → m ≠ o + k * 3 + 1 → w4.cell? ⟨g, m, none⟩ = wr.cell? ⟨g, m, none⟩ := fun m h1 h2 => by
    rw [cg, set_other _ _ _ _ _ (fun e => h2 e.symm), cb, set_other _ _ _ _ _ (fun e => h1 e.symm)]
  have q0 : w4.cell? ⟨g, o + k * 3, none⟩ = some (.int .i64 z) := by
    obtain ⟨y, hy⟩ := c0
    rw [cg, set_other _ _ _ _ _ (by omega), cb]
    exact World.cell?_setCell_same _ _ _ hy
  have q1 : w4.cell? ⟨g, o + k * 3 + 1, none⟩ = some (.string S) := by
    obtain ⟨y, hy⟩ := c1
    rw [cg]
    exact World.cell?_setCell_same _ _ _ (u := y) (by rw [cb, set_other _ _ _ _ _ (by omega)]; exact hy)
  have q2 : w4.cell? ⟨g, o + k * 3 + 2, none⟩ = some u := (other _ (by omega) (by omega)).trans c2
  -- blocks that no step has touched
  have keep : ∀ cs : List Nat, g ∉ cs → (∀ x ∈ cs, x ∉ b1) → Keeps wr w4 cs := fun cs hgc hcb =>
    keeps_on (keeps_on (keeps_set (fun x hx e => hgc (by rw [show g = x from e.symm]; exact hx))) (keeps_below hb2 cs)) (keeps_on (keeps_set (fun x hx e => hgc (by rw [show g = x from e.symm]; exact hx))) (ho.keeps hcb))
  have kd1 := keep d1 gd1 (fun x hx hx2 => hdis x hx x (List.mem_append_left _ hx2) rfl)
  have kb2 := keep b2 gb2 (fun x hx hx2 => hb12 x hx2 x hx rfl)
  have htk : l.take (k + 1) = l.take k ++ [e] := by
    rw [List.take_succ_eq_append_getElem hk, (List.getElem?_eq_some_iff.1 hget).2]
  have hlen : (mkExs M (l.take k)).length = k := by rw [mkExs_len, List.length_take]; omega
  refine ⟨?_, ?_, ?_, ?_⟩
  · rw [htk, mkExs_snoc]
    refine ExsAt.snoc _ 0 d1 (ExsAt.same _ 0 d1 h.done (fun m hm2 => other m (by rw [hlen] at hm2; omega) (by rw [hlen] at hm2; omega)) kd1) ?_
    rw [hlen, Nat.zero_add, ← hz]
    have he : mkEx z e = .mk z (mt (z + 1)) (mkExs (z + 2) e.args) := by cases e; rfl
    rw [he]
    exact ExAt.mk (u := u) q0 (by rw [q1, hS]; rfl) q2 ⟨u, rfl, by rw [← hS]; exact hSz, hu⟩
  · exact ExsAt.from_ _ (k + 1) b2 htd (fun m hm2 => other m (by omega) (by omega)) kb2
  · have hperm : ∀ x, x ∈ g :: (d1 ++ (b1 ++ b2)) → x ∈ g :: (d1 ++ b1 ++ b2) := fun x hx => by rw [List.append_assoc]; exact hx
    have o1 := (h.only.more hperm).set (p := ⟨g, o + k * 3, none⟩) (by simp) (.int .i64 z)
    have o2 := (o1.trans (OnlyIn.of_below hb2 _)).set (p := ⟨g, o + k * 3 + 1, none⟩) (by simp) (.string S)
    exact o2.trans (ho.more (fun x hx => by simp [hx]))
  · have hM : Mine w4 0 (g :: d1) := by
      have m1 : Mine wr 0 (g :: d1) := h.mine.sub (fun x hx => by simp only [List.mem_cons, List.mem_append] at hx ⊢; rcases hx with h | h; exact Or.inl h; exact Or.inr (Or.inl h)) (List.nodup_cons.2 ⟨gd1, hd1⟩)
      have m2 := ((m1.set ⟨g, o + k * 3, none⟩ (.int .i64 z)).keeps (keeps_below hb2 _)).set ⟨g, o + k * 3 + 1, none⟩ (.string S)
      exact m2.keeps (ho.keeps (fun x hx hx2 => by
        rcases List.mem_cons.1 hx with rfl | hx
        · exact gb1 hx2
        · exact hdis x hx x (List.mem_append_left _ hx2) rfl))
    have hB : Mine w4 0 b2 := by
      have m1 : Mine wr 0 b2 := h.mine.sub (fun x hx => by simp [hx]) hb2n
      exact m1.keeps kb2
    refine ⟨?_, fun x hx => ?_, fun x hx o => ?_⟩
    · rw [List.append_assoc]; exact h.mine.nodup
    · simp only [List.mem_cons, List.mem_append] at hx
      rcases hx with h | (h | h) | h
      · exact hM.range x (by simp [h])
      · exact hM.range x (by simp [h])
      · exact hm.range x h
      · exact hB.range x h
    · simp only [List.mem_cons, List.mem_append] at hx
      rcases hx with h | (h | h) | h
      · exact hM.free x (by simp [h]) o
      · exact hM.free x (by simp [h]) o
      · exact hm.free x h o
      · exact hB.free x h o

theorem marking_start {w : World} {g o : Nat} {M : Int} {l : List Ex} {bs : List Nat} (h : ExsAt w g o 0 l bs) (hm : Mine w 0 (g :: bs)) : Marking w w g o M l 0 [] bs :=
  ⟨by rw [List.take_zero, mkExs, ExsAt], by rw [List.drop_zero]; exact h, OnlyIn.refl _ _, hm⟩

set_option maxHeartbeats 4000000 in
theorem mark_exs (n : Nat) : ∀ (l : List Ex) (v : Value) (bs : List Nat) (w : World) (M : Int), exSizes l ≤ n → SlIs w v l bs → Mine w 0 bs → 1 ≤ M → M + 2 * (exSizes l : Int) ≤ 4398046511104 →
    Calls Try.prog 86 #[v, .int .i64 M] w (MarkEnd M l v bs w) := by
  induction n with
  | zero =>
    intro l v bs w M hle hv hmi hM0 hM1
    cases l with
    | cons e r => rw [exSizes] at hle; have := exSize_pos e; omega
    | nil =>
      have HV := Lib.hid hv
      have HMI := Lib.hid hmi
      obtain ⟨A, c, rfl, hc1, hc2, -⟩ := hv
      clear hmi
      go_enter Try.func86, Try.ntmps86
      go_wp2_with fail
      go_loopw [1, 5] (fun m i wr => m = .int .i64 M ∧ i = .int .i64 0 ∧ w = wr) (fun _ _ _ => 0)
      case atStart => exact ⟨rfl, rfl, rfl⟩
      case round =>
        obtain ⟨rfl, rfl, rfl⟩ := hrel
        go_wp2_with fail
        go_ret
        exact ⟨by simp [exSizes], HV.out, OnlyIn.refl _ _, HMI.out⟩
  | succ n ih =>
    intro l v bs w M hle hv hmi hM0 hM1
    by_cases hl0 : l = []
    · subst hl0
      have HV := Lib.hid hv
      have HMI := Lib.hid hmi
      obtain ⟨A, c, rfl, hc1, hc2, -⟩ := hv
      clear hmi
      go_enter Try.func86, Try.ntmps86
      go_wp2_with fail
      go_loopw [1, 5] (fun m i wr => m = .int .i64 M ∧ i = .int .i64 0 ∧ w = wr) (fun _ _ _ => 0)
      case atStart => exact ⟨rfl, rfl, rfl⟩
      case round =>
        obtain ⟨rfl, rfl, rfl⟩ := hrel
        go_wp2_with fail
        go_ret
        exact ⟨by simp [exSizes], HV.out, OnlyIn.refl _ _, HMI.out⟩
    · obtain ⟨A, c, rfl, hc1, hc2, h3⟩ := hv
      rcases h3 with ⟨rfl, -⟩ | ⟨g, o, bs', rfl, hg, rfl, hat⟩
      · exact absurd rfl hl0
      obtain ⟨m, hm⟩ : ∃ m, m = l.length := ⟨_, rfl⟩
      rw [← hm] at hc1 ⊢
      have HM := Lib.hid hm
      have HN := Lib.hid hle
      have HIH := Lib.hid ih
      have HB1 := Lib.hid hM1
      have H0 := Lib.hid (marking_start (M := M) hat hmi)
      have hc3 : (m : Int) ≤ 9223372036854775807 := by omega
      clear hm hle ih hat hmi hl0 hg hM1
      go_enter Try.func86, Try.ntmps86
      go_wp2_with fail
      go_loopw [1, 5] (fun mm i wr => ∃ (k : Nat) (z : Int) (d1 d2 : List Nat), k ≤ m ∧ i = .int .i64 (k : Int) ∧ mm = .int .i64 z ∧ 1 ≤ z ∧ z ≤ 4398046511104 ∧ Hid (z = M + 2 * (exSizes (l.take k) : Int)) ∧ Hid (d1 ++ d2 = bs') ∧ Hid (Marking w wr g o M l k d1 d2)) (fun _ i _ => m - (intOf i).toNat)
      case atStart => exact ⟨0, M, [], bs', Nat.zero_le _, rfl, rfl, hM0, by have := HB1.out; omega, Lib.hid (by simp [exSizes]), Lib.hid rfl, H0⟩
      case round =>
        clear H0
        obtain ⟨k, z, d1, d2, hk, rfl, rfl, hz0, hz1, HZ, HD, HK⟩ := hrel
        by_cases hlt : k < m
        · have hkl : k < l.length := by rw [← HM.out]; exact hlt
          obtain ⟨e, hget⟩ : ∃ e, l[k]? = some e := ⟨_, List.getElem?_eq_getElem hkl⟩
          have htodo := HK.out.todo
          rw [List.drop_eq_getElem_cons hkl, (List.getElem?_eq_some_iff.1 hget).2, ExsAt] at htodo
          obtain ⟨b1, b2, rfl, hea, htd⟩ := htodo
          obtain ⟨u, q0, q1, q2, hei⟩ := hea.is
          obtain ⟨u', eu, -, hu⟩ := hei
          obtain rfl : u = u' := by simpa using eu
          obtain ⟨A1, c1, rfl, -⟩ := id hu
          have HSN := Lib.hid (sizes_snoc2 l k e hget)
          have HTK := Lib.hid (sizes_take2 l (k + 1))
          have HES := Lib.hid (show exSize e = exSizes e.args + 1 by cases e; rfl)
          have HEM := Lib.hid (exSizes_mem (List.mem_of_getElem? hget))
          have f0 := HK.out.mine.free g (by simp) (o + k * 3)
          have f1 := HK.out.mine.free g (by simp) (o + k * 3 + 1)
          have hgl := (HK.out.mine.range g (by simp)).2
          have hzb : z + 2 * (exSize e : Int) ≤ 4398046511104 := by
            have h1 := HZ.out
            have h2 := HSN.out
            have h3 := HTK.out
            have h4 := HB1.out
            omega
          have HZB := Lib.hid hzb
          have hp1 := exSize_pos e
          have HC := Lib.hid (fun (W : World) => mark_text (z + 1) (by omega) (by omega) W)
          have HMS := Lib.hid (mt_size (z + 1) (by omega) (by omega))
          generalize hS : mt (z + 1) = S at *
          have HS := Lib.hid hS
          have HST := Lib.hid (fun (w2 w4 : World) (hb2 : Below (wr.setCell ⟨g, o + k * 3, none⟩ (.int .i64 z)).heap.size (wr.setCell ⟨g, o + k * 3, none⟩ (.int .i64 z)) w2) (hu : SlIs w4 (.slice A1 e.args.length c1) (mkExs (z + 2) e.args) b1) (ho : OnlyIn (w2.setCell ⟨g, o + k * 3 + 1, none⟩ (.string S)) w4 b1) (hm : Mine w4 0 b1) =>
            Marking.step HK.out hget HZ.out HS.out.symm HMS.out hkl ⟨_, q0⟩ ⟨_, q1⟩ q2 htd hb2 hu ho hm)
          have HUU := Lib.hid hu
          have HND := Lib.hid (mark_apart HK.out.mine.nodup)
          have HM1 := Lib.hid (show Mine wr 0 b1 from HK.out.mine.sub (fun x hx => by simp [hx]) HND.out.2)
          have HCALL := Lib.hid (fun (W : World) (h1 : SlIs W (.slice A1 e.args.length c1) e.args b1) (h2 : Mine W 0 b1) => HIH.out e.args _ b1 W (z + 1 + 1) (by have := HES.out; have := HEM.out; have := HN.out; omega) h1 h2 (by omega) (by have := HES.out; have := HZB.out; omega))
          clear hu hea eu hget hzb htd hS
          go_wp2_with fail
          go_at_call 87
          refine (HC.out _).mono ?_
          rintro r w2 ⟨rfl, hb2⟩
          obtain ⟨hcc, hff⟩ := bcellE hb2
          have hz2 : wr.heap.size ≤ w2.heap.size := by have := hb2.size; simpa [World.setCell] using this
          have HB2 := Lib.hid hb2
          have HMX := Lib.hid (((HM1.out.set ⟨g, o + k * 3, none⟩ (.int .i64 z)).keeps (keeps_below hb2 b1)).set ⟨g, o + k * 3 + 1, none⟩ (.string S))
          have HUX := Lib.hid (((HUU.out.keeps (keeps_set (a := ⟨g, o + k * 3, none⟩) (v := .int .i64 z) (fun x hx e => HND.out.1 (by rw [show g = x from e.symm]; exact hx)))).keeps (keeps_below hb2 b1)).keeps (keeps_set (a := ⟨g, o + k * 3 + 1, none⟩) (v := .string S) (fun x hx e => HND.out.1 (by rw [show g = x from e.symm]; exact hx))))
          clear hb2
          go_wp2_with fail
          go_at_call 86
          refine (HCALL.out _ HUX.out HMX.out).mono ?_
          rintro r w4 ⟨rfl, hu4, ho4, hm4⟩
          rw [show z + 1 + 1 = z + 2 by omega] at hu4
          have HST4 := Lib.hid (HST.out w2 w4 HB2.out hu4 ho4 hm4)
          clear hu4 ho4 hm4
          obtain ⟨z4, hz4⟩ : ∃ z4, z4 = z + 1 + 1 + 2 * (exSizes e.args : Int) := ⟨_, rfl⟩
          rw [← hz4]
          have HZ4 := Lib.hid (show z4 = M + 2 * (exSizes (l.take (k + 1)) : Int) by
            have h1 := HZ.out
            have h2 := HSN.out
            have h3 := HES.out
            omega)
          have hz41 : 1 ≤ z4 := by omega
          have hz42 : z4 ≤ 4398046511104 := by have := HZB.out; have := HES.out; omega
          clear hz4 hcc hff q0 q1 q2 f0 f1
          go_wp2_with fail
          go_roundw
          case rel => exact ⟨k + 1, z4, d1 ++ b1, b2, by omega, by go_num, rfl, hz41, hz42, HZ4, Lib.hid (by rw [List.append_assoc]; exact HD.out), HST4⟩
          case measure => simp [intOf]; omega
        · have HE := Lib.hid (show l.take k = l from List.take_of_length_le (by rw [← HM.out]; omega))
          have HEND := Lib.hid (show z = M + 2 * (exSizes l : Int) by have := HZ.out; rw [HE.out] at this; exact this)
          go_wp2_with fail
          go_ret
          have hk := HK.out
          have hd2 : d2 = [] := by
            have h := hk.todo
            rw [List.drop_eq_nil_of_le (by rw [← HM.out]; omega), ExsAt] at h
            exact h
          have hd := HD.out
          rw [hd2, List.append_nil] at hd
          have h1 := hk.done
          have h2 := hk.only
          have h3 := hk.mine
          rw [hd2, List.append_nil, hd] at h2 h3
          rw [HE.out, hd] at h1
          refine ⟨by rw [← HEND.out]; rfl, ⟨_, c, by rw [mkExs_len, ← HM.out], by rw [mkExs_len, ← HM.out]; exact hc1, hc2, Or.inr ⟨g, o, bs', rfl, (h3.range g (by simp)).2, rfl, h1⟩⟩, h2, h3⟩

def MarkOne (M : Int) (e : Ex) (v : Value) (bs : List Nat) (w : World) (r : Ending) (w' : World) : Prop :=
  r = .returned (.int .i64 (M + 2 * (exSizes e.args : Int))) ∧ ExIs w' v (.mk e.kind e.name (mkExs M e.args)) bs ∧ OnlyIn w w' bs ∧ Mine w' 0 bs
set_option maxHeartbeats 1000000 in
theorem mark_expr (e : Ex) (v : Value) (bs : List Nat) (w : World) (M : Int) (hv : ExIs w v e bs) (hm : Mine w 0 bs) (h0 : 1 ≤ M) (h1 : M + 2 * (exSizes e.args : Int) ≤ 4398046511104) :
    Calls Try.prog 43 #[v, .int .i64 M] w (MarkOne M e v bs w) := by
  obtain ⟨u, rfl, hsz, hu⟩ := hv
  obtain ⟨A, c, rfl, -⟩ := id hu
  have HB0 := Lib.hid ((Below.refl w.heap.size w).alloc (Nat.le_refl _) (.cells #[.int .i64 e.kind, .string e.name, .slice A e.args.length c] 26))
  have HC := Lib.hid (mark_exs (exSizes e.args) e.args _ bs _ M (Nat.le_refl _) (hu.below HB0.out) (hm.keeps (keeps_below HB0.out bs)) h0 h1)
  have HSZ := Lib.hid hsz
  clear hu hm hsz
  go_enter Try.func43, Try.ntmps43
  go_wp2_with fail
  go_at_call 86
  refine HC.out.mono ?_
  rintro r w1 ⟨rfl, hs1, ho1, hm1⟩
  have HS1 := Lib.hid hs1
  have HO1 := Lib.hid ((OnlyIn.of_below HB0.out bs).trans ho1)
  have HM1 := Lib.hid hm1
  clear hs1 ho1 hm1
  go_wp2_with fail
  go_ret
  exact ⟨rfl, ⟨_, rfl, HSZ.out, HS1.out⟩, HO1.out, HM1.out⟩
end Go.Proofs.Ytbnghkgfbjipdaa
