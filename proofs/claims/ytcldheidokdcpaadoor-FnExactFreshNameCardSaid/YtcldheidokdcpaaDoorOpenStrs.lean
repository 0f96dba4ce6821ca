/- A slice of strings among the arguments: what it reads as. Condition: the reach of the form. -/
import Derived.Test.YtcldheidokdcpaaDoorRows
import Derived.Test.YtcldheidokdcpaaDoorStrs
import Derived.ProofKit
import Derived.SizedLaws
import Derived.OpenShut
import Derived.SliceStrings
namespace Go.Proofs.YtcldheidokdcpaaDoor
open Go Go.ChangeShapes Go.WideShapes Go.ChangeAt Go.RowKit

theorem own : ownKnob Tryd.prog.godebug = none := by kernel_rfl
theorem laidOut : laidOutB Tryd.prog = true := by kernel_rfl
theorem cellsStr : Tryd.prog.cellsOf 9 = 1 := by kernel_rfl
theorem bytesStr : Tryd.prog.bytesOf 9 = 16 := by kernel_rfl
theorem cell_ltO {w : World} {a : Addr} {v : Value} (h : w.cell? a = some v) : a.block < w.heap.size := by
  rcases Nat.lt_or_ge a.block w.heap.size with h' | h'
  · exact h'
  · simp [World.cell?, Array.getElem?_eq_none h'] at h
theorem strs_of (W : World) (a : Addr) (ss : List ByteArray) (len : Nat) (hcell : ∀ i, i < ss.length → W.cell? (a.add i) = some (.string (ss.getD i ByteArray.empty))) : Strs W (some a) (ss.take len) := by
  intro i x hx
  rw [List.getElem?_take] at hx
  split at hx
  · have hi : i < ss.length := (List.getElem?_eq_some_iff.1 hx).1
    have h := hcell i hi
    have e : ss.getD i ByteArray.empty = x := by rw [List.getD, hx]; rfl
    rw [e] at h
    exact ⟨a, rfl, h, by have := cell_ltO h; rw [block_add] at this; exact this⟩
  · cases hx

structure SliceIn (W : World) (v : Value) (A : Option Addr) (xs : List ByteArray) (cap : Nat) : Prop where
  eq : v = .slice A xs.length cap
  strs : Strs W A xs
  len : xs.length ≤ 8796093022208
  sizes : ∀ x ∈ xs, x.size ≤ 9223372036854775807
theorem slice_in {H : Type} {enc : TypeId × Value → H} {W : World} {base : Nat} {v : Value} {d : DataW H} {p : List MemPlace} {ts : List TypeId} {ds : List (DataW H)} {j : Nat} (hok : Value.okWide Tryd.prog W .any base 24 v)
    (h0 : DataW.Trod enc Tryd.prog W 0 (fun _ => true) true 24 v d p) (hsz : (DataW.weightsEach Tryd.prog ts ds).all (· ≤ reachBytes) = true) (ht : ts[j]? = some 24) (hd : ds[j]? = some d) : ∃ A xs cap, SliceIn W v A xs cap := by
  obtain ⟨a0, len, cap, rfl⟩ := okWide_slice Tryd.underlying24 hok
  obtain ⟨fuel, hf⟩ := h0
  rcases open_strings Tryd.underlying24 Tryd.underlying9 cellsStr hf with ⟨hcs, hx⟩ | ⟨a, len', cap', ss, hcs, _, hl, hm, hz, hx, hcell, hws⟩
  · simp [Value.cells] at hcs
    obtain ⟨rfl, rfl, rfl⟩ := hcs
    exact ⟨none, [], 0, rfl, fun i x hx => by simp at hx, by decide, fun x hx => by cases hx⟩
  · simp [Value.cells] at hcs
    obtain ⟨rfl, rfl, rfl⟩ := hcs
    simp only [Prod.mk.injEq] at hx
    obtain ⟨rfl, rfl⟩ := hx
    simp only [if_true] at hz
    have hreach : len * 16 ≤ 140737488351232 := by
      have := sized_slice hsz (j := j) (t := 24) (e := 9) ht hd Tryd.underlying24
      rw [bytesStr] at this
      simp only [strs, List.length_map, List.length_take, List.length_drop, reachBytes] at this
      omega
    have hxl : (ss.take len).length = len := by rw [List.length_take]; omega
    refine ⟨some a, ss.take len, cap, by rw [hxl], strs_of W a ss len hcell, by rw [hxl]; omega, fun x hx => ?_⟩
    have := hws x (List.mem_of_mem_take hx)
    unfold maxLen at this
    omega
end Go.Proofs.YtcldheidokdcpaaDoor
