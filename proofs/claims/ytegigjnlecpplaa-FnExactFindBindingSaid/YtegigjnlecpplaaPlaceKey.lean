/- Places, pointers with a number, as keys of maps and where they are compared. Condition: the memory that they lead to is plain. -/
import Derived.Test.YtegigjnlecpplaaPtrs
namespace Go.Proofs.Ytegigjnlecpplaa
open Go Go.RowKit

/-- A pointer to plain memory with a number. -/
def PlaceK (w : World) (v : Value) : Prop := ∃ (a : Addr) (n : Int), v = .agg #[.pointer (some a), .int .i64 n] ∧ FreeB w a.block
theorem eq_int {w : World} (a b : Int) (d : Nat) : (Op.equalIn (d + 1) 3 (.int .i64 a) (.int .i64 b)).run Try.prog w = .ok (decide (a = b)) w := by
  by_cases h : a = b <;> simp [Op.equalIn, run_underlying Try.underlying3, h]
theorem eq_place (w : World) {a c : Addr} {m n : Int} (ha : FreeB w a.block) (hc : FreeB w c.block) :
    (Op.equal 109 (.agg #[.pointer (some a), .int .i64 m]) (.agg #[.pointer (some c), .int .i64 n])).run Try.prog w = .ok (decide (a = c) && decide (m = n)) w := by
  obtain ⟨j, hj, -, hz, -⟩ := info_parts Try.infoEx
  have hz : j.size ≠ 0 := by omega
  have e1 : (Op.equalIn 9999 104 (.pointer (some a)) (.pointer (some c))).run Try.prog w = .ok (decide (a = c)) w := eq_ptr (P := Try.prog) (w := w) (tp := 104) Try.underlying104 hj hz ha hc 9998
  have e2 : (Op.equalIn 9999 3 (.int .i64 m) (.int .i64 n)).run Try.prog w = .ok (decide (m = n)) w := eq_int m n 9998
  have u := run_underlying (w := w) Try.underlying109
  have st : Try.prog.stoodInHeld 109 = false := by kernel_rfl
  have p0 : ∀ x y : Value, (part 104 #[x, y] 0).run Try.prog w = .ok x w := fun x y => by kernel_rfl
  have p1 : ∀ x y : Value, (part 3 #[x, y] 1).run Try.prog w = .ok y w := fun x y => by kernel_rfl
  rw [Op.equal, show Op.maxDepth = 9999 + 1 from rfl, Op.equalIn]
  by_cases h1 : a = c
  · rw [decide_eq_true h1] at e1 ⊢
    by_cases h2 : m = n
    · rw [decide_eq_true h2] at e2 ⊢
      simp [u, st, p0, p1, e1, e2]
    · rw [decide_eq_false h2] at e2 ⊢
      simp [u, st, p0, p1, e1, e2]
  · rw [decide_eq_false h1] at e1 ⊢
    simp [u, st, p0, e1]
theorem placeT (w : World) : KeyT Try.prog 109 w (PlaceK w) := by
  refine ⟨fun em v ⟨a, n, hv, _⟩ => ?_, fun x es hx hes => ?_, fun v ⟨a, n, hv, _⟩ => ?_⟩
  · subst hv
    have u := run_underlying (w := w) Try.underlying109
    have up := run_underlying (w := w) Try.underlying104
    have ui := run_underlying (w := w) Try.underlying3
    have p0 : ∀ x y : Value, (part 104 #[x, y] 0).run Try.prog w = .ok x w := fun x y => by kernel_rfl
    have p1 : ∀ x y : Value, (part 3 #[x, y] 1).run Try.prog w = .ok y w := fun x y => by kernel_rfl
    have c1 : (Instr.checkKey em 9999 104 (.pointer (some a))).run Try.prog w = .ok () w := by rw [show 9999 = 9998 + 1 from rfl, Instr.checkKey]; simp [up]
    have c2 : (Instr.checkKey em 9999 3 (.int .i64 n)).run Try.prog w = .ok () w := by rw [show 9999 = 9998 + 1 from rfl, Instr.checkKey]; simp [ui]
    rw [show 10000 = 9999 + 1 from rfl, Instr.checkKey]
    simp [u, p0, p1, c1, c2]
  · have h := find_asking (P := Try.prog) (k := 109) (w := w) (K := PlaceK w) (fun x y ⟨a, m, hx, h1⟩ ⟨c, n, hy, h2⟩ => ⟨decide (a = c) && decide (m = n), by rw [hx, hy]; exact eq_place w h1 h2, by rw [hx, hy]; simp⟩) hx es 0 hes
    have e := Go.run_findKey_eq (P := Try.prog) w (k := 109) (by kernel_rfl) x es
    rw [e]
    simpa using h
  · subst hv
    simp [Instr.keyThatStays, Instr.sameBits]

/-- Two addresses of which one leads to plain memory that no string shares. -/
theorem same_half {P : Program} {w : World} {a b : Addr} {v : Value} (ha : FreeB w a.block) (hb : w.cell? ⟨b.block, b.off, none⟩ = some v) : (sameAddr a b).run P w = .ok (decide (a = b)) w := by
  by_cases hbl : a.block = b.block
  · have : (a == b) = decide (a = b) := by by_cases h : a = b <;> simp [h]
    simp [sameAddr, hbl, this]
  · obtain ⟨⟨ca, ta, fa, hca⟩, hfa⟩ := ha
    have hne : a ≠ b := fun e => hbl (by rw [e])
    have h1 : ∀ o p, w.frozen? ⟨a.block, o, p⟩ = false := fun o p => frozen_off hfa _ rfl
    obtain ⟨cb, tb, fb, hcb, hsz⟩ : ∃ cb tb fb, w.heap[b.block]? = some (.cells cb tb fb) ∧ cb.size ≠ 0 := by
      unfold World.cell? at hb
      split at hb
      · rename_i cb tb fb he
        refine ⟨cb, tb, fb, he, fun h0 => ?_⟩
        simp [Array.getElem?_eq_none (xs := cb) (i := b.off) (by omega)] at hb
      · cases hb
    simp [sameAddr, hbl, h1, hca, hcb, noView, viewAt, World.shape?, mayBeOne, stringish, hne, hsz]
theorem eq_ptr_half {P : Program} {w : World} {tp te : TypeId} {j : TypeInfo} {a b : Addr} {v : Value} (hp : P.underlying tp = some (.pointer te)) (hte : P.info? te = some j) (hsz : j.size ≠ 0) (ha : FreeB w a.block) (hb : w.cell? ⟨b.block, b.off, none⟩ = some v) (d : Nat) :
    (Op.equalIn (d + 1) tp (.pointer (some a)) (.pointer (some b))).run P w = .ok (decide (a = b)) w := by
  simp [Op.equalIn, run_underlying hp, sizeOf, typeInfo, hte, hsz, same_half ha hb]
theorem eq_place_half (w : World) {a c : Addr} {m n : Int} {v : Value} (ha : FreeB w a.block) (hc : w.cell? ⟨c.block, c.off, none⟩ = some v) :
    (Op.equal 109 (.agg #[.pointer (some a), .int .i64 m]) (.agg #[.pointer (some c), .int .i64 n])).run Try.prog w = .ok (decide (a = c) && decide (m = n)) w := by
  obtain ⟨j, hj, -, hz, -⟩ := info_parts Try.infoEx
  have hz : j.size ≠ 0 := by omega
  have e1 : (Op.equalIn 9999 104 (.pointer (some a)) (.pointer (some c))).run Try.prog w = .ok (decide (a = c)) w := eq_ptr_half (P := Try.prog) (w := w) (tp := 104) Try.underlying104 hj hz ha hc 9998
  have e2 : (Op.equalIn 9999 3 (.int .i64 m) (.int .i64 n)).run Try.prog w = .ok (decide (m = n)) w := eq_int m n 9998
  have u := run_underlying (w := w) Try.underlying109
  have st : Try.prog.stoodInHeld 109 = false := by kernel_rfl
  have p0 : ∀ x y : Value, (part 104 #[x, y] 0).run Try.prog w = .ok x w := fun x y => by kernel_rfl
  have p1 : ∀ x y : Value, (part 3 #[x, y] 1).run Try.prog w = .ok y w := fun x y => by kernel_rfl
  rw [Op.equal, show Op.maxDepth = 9999 + 1 from rfl, Op.equalIn]
  by_cases h1 : a = c
  · rw [decide_eq_true h1] at e1 ⊢
    by_cases h2 : m = n
    · rw [decide_eq_true h2] at e2 ⊢
      simp [u, st, p0, p1, e1, e2]
    · rw [decide_eq_false h2] at e2 ⊢
      simp [u, st, p0, p1, e1, e2]
  · rw [decide_eq_false h1] at e1 ⊢
    simp [u, st, p0, e1]
end Go.Proofs.Ytegigjnlecpplaa
