/- Pairs of pointers, and pointers with a number, as keys of maps: told apart where the memory that they lead to is plain. No condition. -/
import Derived.Test.YtegigjnlecpplaaAsc
import Derived.Test.YtegigjnlecpplaaExCopy
import Derived.LaidEql
namespace Go.Proofs.Ytegigjnlecpplaa
open Go Go.RowKit

/-- A block of cells none of which a string shares. -/
def FreeB (w : World) (b : Nat) : Prop := (∃ c t f, w.heap[b]? = some (.cells c t f)) ∧ ∀ o, w.frozen? ⟨b, o, none⟩ = false
theorem FreeB.lt {w : World} {b : Nat} (h : FreeB w b) : b < w.heap.size := by
  obtain ⟨⟨c, t, f, h⟩, -⟩ := h
  exact (Array.getElem?_eq_some_iff.1 h).1
theorem FreeB.on {w w2 : World} {b : Nat} (h : FreeB w b) (hk : w2.heap[b]? = w.heap[b]?) : FreeB w2 b := by
  obtain ⟨⟨c, t, f, h1⟩, h2⟩ := h
  exact ⟨⟨c, t, f, hk.trans h1⟩, fun o => (World.frozen?_of_block (w := w) (a := ⟨b, o, none⟩) hk).trans (h2 o)⟩
theorem FreeB.of_box {w : World} {b : Nat} {cs : Array Value} {t : TypeId} (h : w.heap[b]? = some (.cells cs t (0, 0))) : FreeB w b :=
  ⟨⟨_, _, _, h⟩, fun o => by simp [World.frozen?, h]⟩
theorem FreeB.of_cell {w : World} {b o : Nat} {v : Value} (h : w.cell? ⟨b, o, none⟩ = some v) (hf : ∀ o, w.frozen? ⟨b, o, none⟩ = false) : FreeB w b := by
  refine ⟨?_, hf⟩
  unfold World.cell? at h
  split at h
  · exact ⟨_, _, _, ‹_›⟩
  · cases h
theorem frozen_off {w : World} {b : Nat} (h : ∀ o, w.frozen? ⟨b, o, none⟩ = false) (a : Addr) (ha : a.block = b) : w.frozen? a = false := by
  have := h a.off
  unfold World.frozen? at this ⊢
  rw [ha]; exact this
theorem same_free {P : Program} {w : World} {a b : Addr} (ha : FreeB w a.block) (hb : FreeB w b.block) : (sameAddr a b).run P w = .ok (decide (a = b)) w := by
  by_cases hbl : a.block = b.block
  · have : (a == b) = decide (a = b) := by by_cases h : a = b <;> simp [h]
    simp [sameAddr, hbl, this]
  · obtain ⟨⟨ca, ta, fa, hca⟩, hfa⟩ := ha
    obtain ⟨⟨cb, tb, fb, hcb⟩, hfb⟩ := hb
    have hne : a ≠ b := fun e => hbl (by rw [e])
    have h1 : ∀ o p, w.frozen? ⟨a.block, o, p⟩ = false := fun o p => frozen_off hfa _ rfl
    have h2 : ∀ o p, w.frozen? ⟨b.block, o, p⟩ = false := fun o p => frozen_off hfb _ rfl
    simp [sameAddr, hbl, h1, h2, hca, hcb, noView, viewAt, World.shape?, mayBeOne, stringish, hne]
theorem eq_ptr {P : Program} {w : World} {tp te : TypeId} {j : TypeInfo} {a b : Addr} (hp : P.underlying tp = some (.pointer te)) (hte : P.info? te = some j) (hsz : j.size ≠ 0) (ha : FreeB w a.block) (hb : FreeB w b.block) (d : Nat) :
    (Op.equalIn (d + 1) tp (.pointer (some a)) (.pointer (some b))).run P w = .ok (decide (a = b)) w := by
  simp [Op.equalIn, run_underlying hp, sizeOf, typeInfo, hte, hsz, same_free ha hb]
theorem check_ptr {P : Program} {w : World} {tp te : TypeId} {v : Value} (hp : P.underlying tp = some (.pointer te)) (em : Bool) (d : Nat) : (Instr.checkKey em (d + 1) tp v).run P w = .ok () w := by
  simp [Instr.checkKey, run_underlying hp]

/-- A pair of pointers to plain memory. -/
def PairK (w : World) (v : Value) : Prop := ∃ a b : Addr, v = .agg #[.pointer (some a), .pointer (some b)] ∧ FreeB w a.block ∧ FreeB w b.block
theorem eq_pair (w : World) {a b c d : Addr} (ha : FreeB w a.block) (hb : FreeB w b.block) (hc : FreeB w c.block) (hd : FreeB w d.block) :
    (Op.equal 105 (.agg #[.pointer (some a), .pointer (some b)]) (.agg #[.pointer (some c), .pointer (some d)])).run Try.prog w = .ok (decide (a = c) && decide (b = d)) w := by
  obtain ⟨j, hj, -, hz, -⟩ := info_parts Try.infoEx
  have hz : j.size ≠ 0 := by omega
  have e1 := eq_ptr (P := Try.prog) (w := w) (tp := 104) Try.underlying104 hj hz ha hc 9998
  have e2 := eq_ptr (P := Try.prog) (w := w) (tp := 104) Try.underlying104 hj hz hb hd 9998
  have u129 := run_underlying (w := w) Try.underlying105
  have z : (sizeOf 104).run Try.prog w = .ok 1 w := by kernel_rfl
  have p0 : ∀ x y : Value, (part 104 #[x, y] 0).run Try.prog w = .ok x w := fun x y => by kernel_rfl
  have p1 : ∀ x y : Value, (part 104 #[x, y] 1).run Try.prog w = .ok y w := fun x y => by kernel_rfl
  rw [Op.equal, show Op.maxDepth = 9999 + 1 from rfl, Op.equalIn]
  simp only [Sem.run_bind, u129, Result.andThen_ok, z]
  simp only [Std.Legacy.Range.forIn_eq_forIn_range', Std.Legacy.Range.size, Nat.sub_zero, Nat.add_one_sub_one, Nat.div_one]
  simp only [List.range'_succ, List.range'_zero, List.forIn_cons, Sem.run_bind, Result.andThen_ok, Nat.zero_mul, Nat.one_mul, Nat.zero_add, p0, e1]
  by_cases h1 : a = c
  · by_cases h2 : b = d
    · simp [h1, h2, p1] at e2 ⊢
      simp [e2]
    · simp [h1, h2, p1] at e2 ⊢
      simp [e2]
  · simp [h1]
theorem pairT (w : World) : KeyT Try.prog 105 w (PairK w) := by
  refine ⟨fun em v ⟨a, b, hv, _, _⟩ => ?_, fun x es hx hes => ?_, fun v ⟨a, b, hv, _, _⟩ => ?_⟩
  · subst hv
    have u129 := run_underlying (w := w) Try.underlying105
    have z : (sizeOf 104).run Try.prog w = .ok 1 w := by kernel_rfl
    have p0 : ∀ x y : Value, (part 104 #[x, y] 0).run Try.prog w = .ok x w := fun x y => by kernel_rfl
    have p1 : ∀ x y : Value, (part 104 #[x, y] 1).run Try.prog w = .ok y w := fun x y => by kernel_rfl
    have c := fun v : Value => check_ptr (P := Try.prog) (w := w) (v := v) Try.underlying104 em 9998
    rw [show 10000 = 9999 + 1 from rfl, Instr.checkKey]
    simp only [Sem.run_bind, u129, Result.andThen_ok]
    simp only [Std.Legacy.Range.forIn_eq_forIn_range', Std.Legacy.Range.size, Nat.sub_zero, Nat.add_one_sub_one, Nat.div_one]
    simp only [List.range'_succ, List.range'_zero, List.forIn_cons, Sem.run_bind, Result.andThen_ok, Nat.zero_mul, Nat.one_mul, Nat.zero_add, z, p0, c]
    simp [z, p1, c]
  · have h := find_asking (P := Try.prog) (k := 105) (w := w) (K := PairK w) (fun x y ⟨a, b, hx, h1, h2⟩ ⟨c, d, hy, h3, h4⟩ => ⟨decide (a = c) && decide (b = d), by rw [hx, hy]; exact eq_pair w h1 h2 h3 h4, by rw [hx, hy]; simp⟩) hx es 0 hes
    have e := Go.run_findKey_eq (P := Try.prog) w (k := 105) (by kernel_rfl) x es
    rw [e]
    simpa using h
  · subst hv
    simp [Instr.keyThatStays, Instr.sameBits]
end Go.Proofs.Ytegigjnlecpplaa
