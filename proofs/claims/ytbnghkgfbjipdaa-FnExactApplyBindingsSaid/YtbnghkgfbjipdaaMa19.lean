/- Ranging over a map that the program made for itself: the entries come each once, in some order. No condition. The contract of the program's own firstValues: a map that holds the first value at each name. Condition: fewer than 2^40 bindings. The contracts of the library's maps.Values over the program's maps of expressions: each value comes once, in some order. No condition. As Push, at the library's slices.AppendSeq. Condition: fewer than 2^40 elements. -/
import Derived.Test.YtbnghkgfbjipdaaMa18
import Derived.Maps.RangeRun
import Derived.Sort.MapsRangeIn
import Derived.Test.YtbnghkgfbjipdaaMa13
import Derived.Test.YtbnghkgfbjipdaaMa14
import Derived.Test.YtbnghkgfbjipdaaMa05
import Derived.Test.YtbnghkgfbjipdaaMa16
import Derived.Shelf.Abstract
import Derived.WalkKit
import Derived.OwnWalkIn
import Derived.TacticsInMore
import Derived.LoopNIn
import Derived.LoopIn
import Derived.Shelf.RegionOpen
import Derived.Test.YtbnghkgfbjipdaaMa15
namespace Go.Proofs.Ytbnghkgfbjipdaa
open Go Go.RowKit Go.ChangeMaps Go.WideMaps Go.WideElems Go.MapKept

def pairOf (e : MapEntry) : Value × Value := (e.key, e.val)
/-- Block r is an iterator over the map of block b with the entries L; xs have come. -/
def RangeSt (W : World) (b r : Nat) (L xs : List (Value × Value)) : Prop :=
  ∃ (es : Array MapEntry) (clock since : Nat) (seen : Array Nat) (c0 : Nat) (ys rs : List MapEntry), W.heap[b]? = some (.map es clock) ∧ es.toList.map pairOf = L ∧ (es.toList.map (·.born)).Nodup ∧ W.heap[r]? = some (.mapIter (some b) since seen c0) ∧ (∀ x ∈ es.toList, x.born < since) ∧ since ≤ c0 ∧ since ≤ clock ∧
    ys.map pairOf = xs ∧ (ys ++ rs).Perm es.toList ∧ ∀ y ∈ es.toList, seen.contains y.born = true ↔ y ∈ ys
theorem RangeSt.on {W W2 : World} {b r : Nat} {L xs : List (Value × Value)} (h : RangeSt W b r L xs) (h1 : W2.heap[b]? = W.heap[b]?) (h2 : W2.heap[r]? = W.heap[r]?) : RangeSt W2 b r L xs := by
  obtain ⟨es, clock, since, seen, c0, ys, rs, e1, e2, e3, e4, e5⟩ := h
  exact ⟨es, clock, since, seen, c0, ys, rs, h1.trans e1, e2, e3, h2.trans e4, e5⟩
theorem RangeSt.lt {W : World} {b r : Nat} {L xs : List (Value × Value)} (h : RangeSt W b r L xs) : b < W.heap.size ∧ r < W.heap.size ∧ b ≠ r := by
  obtain ⟨es, clock, since, seen, c0, ys, rs, e1, -, -, e4, -⟩ := h
  refine ⟨(Array.getElem?_eq_some_iff.1 e1).1, (Array.getElem?_eq_some_iff.1 e4).1, fun e => ?_⟩
  rw [e, e4] at e1
  cases e1
theorem RangeSt.len {W : World} {b r : Nat} {L xs : List (Value × Value)} (h : RangeSt W b r L xs) : xs.length ≤ L.length := by
  obtain ⟨es, clock, since, seen, c0, ys, rs, -, rfl, -, -, -, -, -, rfl, hp, -⟩ := h
  have := hp.length_eq
  simp at this ⊢
  omega
theorem RangeSt.left {W : World} {b r : Nat} {L xs : List (Value × Value)} (h : RangeSt W b r L xs) : W.rangeLeft b r + xs.length = L.length := by
  obtain ⟨es, clock, since, seen, c0, ys, rs, e1, rfl, hst, e4, -, -, -, rfl, hp, hseen⟩ := h
  have hnd : ((ys ++ rs).map (·.born)).Nodup := (hp.map _).nodup_iff.2 hst
  simp only [World.rangeLeft, e1, e4]
  have h1 : (leftOf es seen).size = ((ys ++ rs).filter (fun e => !seen.contains e.born)).length := by
    unfold leftOf
    rw [← Array.length_toList, Array.toList_filter]
    exact ((hp.filter _).length_eq).symm
  have h2 : ys.filter (fun e => !seen.contains e.born) = [] := by
    rw [List.filter_eq_nil_iff]
    intro y hy
    rw [(hseen y (hp.subset (List.mem_append_left _ hy))).2 hy]
    simp
  have h3 : rs.filter (fun e => !seen.contains e.born) = rs := by
    rw [List.filter_eq_self]
    intro y hy
    cases hc : seen.contains y.born with
    | false => rfl
    | true =>
      have := (hseen y (hp.subset (List.mem_append_right _ hy))).1 hc
      rw [List.map_append, List.nodup_append] at hnd
      exact absurd rfl (hnd.2.2 _ (List.mem_map_of_mem this) _ (List.mem_map_of_mem hy))
  rw [h1, List.filter_append, h2, h3]
  have := hp.length_eq
  simp at this ⊢
  omega
section
variable {P : Program} {W : World} {b r : Nat} {L xs : List (Value × Value)}
theorem MapSt.range {t k e : TypeId} (h : MapSt W b L) (ht : P.underlying t = some (.map k e)) :
    ∃ o, (Instr.range t (.map (some b))).run P W = .ok (.pointer (some ⟨W.heap.size, 0, none⟩)) (W.alloc o) ∧ RangeSt (W.alloc o) b W.heap.size L [] := by
  have hlt := h.is.lt
  obtain ⟨es, clock, hb, hl, hs⟩ := h
  exact ⟨_, run_range_map W t k e b es clock ht hb, es, clock, clock, #[], clock, [], es.toList, (heap_alloc_old W _ hlt).trans hb, hl, hs.2.1, heap_alloc_new W _, hs.1, Nat.le_refl _, Nat.le_refl _, rfl, List.Perm.refl _, fun y _ => by simp⟩
theorem RangeSt.next (h : RangeSt W b r L xs) (ty : TypeId) :
    (xs.Perm L ∧ (Instr.next (.pointer (some ⟨r, 0, none⟩)) false ty).run P W = .ok (.tuple #[.bool false]) W) ∨
    ∃ (p : Value × Value) (W2 : World), p ∈ L ∧ (Instr.next (.pointer (some ⟨r, 0, none⟩)) false ty).run P W = .ok (.tuple #[.bool true, p.1, p.2]) W2 ∧ RangeSt W2 b r L (xs ++ [p]) ∧ W.grownBy W2 (some r) ∧ W2.heap.size = W.heap.size ∧ (Instr.entry (.pointer (some ⟨r, 0, none⟩))).run P W2 = .ok (.tuple #[p.1, p.2]) W2 := by
  have hne := h.lt.2.2
  obtain ⟨es, clock, since, seen, c0, ys, rs, hb, rfl, hst, hr, hold, hsc, hck, rfl, hp, hseen⟩ := h
  have hnd : ((ys ++ rs).map (·.born)).Nodup := (hp.map _).nodup_iff.2 hst
  rcases run_next_at (P := P) W ty r b since c0 seen es clock hr hb hold hsc with ⟨h0, hrun⟩ | ⟨e, he, w1, hal, hrun⟩
  · refine Or.inl ⟨?_, hrun⟩
    have hrs : rs = [] := by
      cases rs with
      | nil => rfl
      | cons x t =>
        have hx : x ∈ es.toList := hp.subset (by simp)
        have hy := (hseen x hx).1 (all_seen es seen h0 x hx)
        rw [List.map_append, List.nodup_append] at hnd
        exact absurd rfl (hnd.2.2 _ (List.mem_map_of_mem hy) _ (List.mem_map_of_mem (List.mem_cons_self ..)))
    subst hrs
    rw [List.append_nil] at hp
    exact hp.map _
  · obtain ⟨hem, hes⟩ := mem_left he
    have hers : e ∈ rs := by
      rcases List.mem_append.1 (hp.symm.subset hem) with h1 | h1
      · have := (hseen e hem).2 h1
        rw [hes] at this
        cases this
      · exact h1
    obtain ⟨A, B, rfl⟩ := List.append_of_mem hers
    have hr1 : w1.heap[r]? = some (.mapIter (some b) since seen c0) := by rcases hal with rfl | rfl <;> exact hr
    have hb1 : w1.heap[b]? = some (.map es clock) := by rcases hal with rfl | rfl <;> exact hb
    have hset := heap_set (o' := .mapIter (some b) since (seen.push e.born) clock) hr1
    have hb' : (setBlock w1 r (.mapIter (some b) since (seen.push e.born) clock)).heap[b]? = some (.map es clock) := (hset.2 b hne).trans hb1
    refine Or.inr ⟨pairOf e, _, List.mem_map_of_mem hem, hrun, ⟨es, clock, since, seen.push e.born, clock, ys ++ [e], A ++ B, hb', rfl, hst, hset.1, hold, hck, hck, by simp, ?_, fun y hy => ?_⟩, ?_, ?_, run_entry_at _ r b since seen es clock e hset.1 hb' hem hst⟩
    · refine List.Perm.trans ?_ hp
      rw [List.append_assoc]
      exact List.Perm.append_left _ (show (e :: (A ++ B)).Perm _ from List.perm_middle.symm)
    · rw [contains_push, Bool.or_eq_true, hseen y hy, List.mem_append, List.mem_singleton, beq_iff_eq]
      exact or_congr Iff.rfl ⟨fun h => born_inj hst hy hem h, fun h => by rw [h]⟩
    · rcases hal with rfl | rfl <;> exact ⟨rfl, rfl, rfl, by simp [setBlock], fun i _ hi => hset.2 i (fun e1 => hi (by rw [e1]))⟩
    · rcases hal with rfl | rfl <;> simp [setBlock]
end
section
variable {F : Fence} {n : Nat} {P : Program} (w : World) {ops : Array Oper} {rest : List Oper} {o : Oper} {a : Act} {Q : Exit → Act → World → Prop}
/-- 'range m' at the operation. -/
theorem range_st_in (hg : o.guard = none) (m : Operand) (t : TypeId) (hop : o.op = Op.range t m) (k e : TypeId) (ht : P.underlying t = some (.map k e)) (b : Nat) (L : List (Value × Value)) (hm : a.eval m = .map (some b)) (h : MapSt w b L)
    (hK : ∀ ob, RangeSt (w.alloc ob) b w.heap.size L [] → wpListIn F n P ops Q rest (a.put o.dst (.pointer (some ⟨w.heap.size, 0, none⟩))) (w.alloc ob)) :
    wpListIn F n P ops Q (o :: rest) a w := by
  refine wpListIn_plain hg fun K' hK' => ?_
  obtain ⟨ob, hrun, r1⟩ := h.range ht
  unfold Oper.wpIn
  refine ⟨by simp [Oper.about, hop], ?_⟩
  rw [Oper.semAt_plain F _ _ (by rw [hop]; intro c hc'; cases hc')]
  simp [execOp, hop, hm, hrun, Result.andThen]
  exact hK' _ _ (hK ob r1)
/-- The step. -/
theorem next_st_in (hg : o.guard = none) (it : Operand) (hop : o.op = Op.next it false) (b r : Nat) (L xs : List (Value × Value)) (hit : a.eval it = .pointer (some ⟨r, 0, none⟩)) (h : RangeSt w b r L xs)
    (hDone : xs.Perm L → wpListIn F n P ops Q rest (a.put o.dst (.tuple #[.bool false])) w)
    (hMore : ∀ (p : Value × Value) (w2 : World), p ∈ L → RangeSt w2 b r L (xs ++ [p]) → w.grownBy w2 (some r) → w2.heap.size = w.heap.size → (Instr.entry (.pointer (some ⟨r, 0, none⟩))).run P w2 = .ok (.tuple #[p.1, p.2]) w2 → wpListIn F n P ops Q rest (a.put o.dst (.tuple #[.bool true, p.1, p.2])) w2) :
    wpListIn F n P ops Q (o :: rest) a w := by
  refine wpListIn_plain hg fun K' hK' => ?_
  unfold Oper.wpIn
  refine ⟨by simp [Oper.about, hop], ?_⟩
  rw [Oper.semAt_plain F _ _ (by rw [hop]; intro c hc'; cases hc')]
  rcases h.next (P := P) o.type with ⟨h0, hrun⟩ | ⟨p, w2, h1, hrun, h2, h3, h4, h5⟩
  · simp [execOp, hop, hit, hrun, Result.andThen]
    exact hK' _ _ (hDone h0)
  · simp [execOp, hop, hit, hrun, Result.andThen]
    exact hK' _ _ (hMore p w2 h1 h2 h3 h4 h5)
/-- 'm[k] = v' at the operation, with stamps. -/
theorem st_put_in (hg : o.guard = none) (m x v : Operand) (t : TypeId) (hop : o.op = Op.mapUpdate t m x v) (k e : TypeId) (ht : P.underlying t = some (.map k e)) (K : Value → Prop) (hK : KeyT P k w K) (b : Nat) (L : List (Value × Value)) (hm : a.eval m = .map (some b)) (h : MapSt w b L) (key val : Value) (hx : a.eval x = key) (hv : a.eval v = val) (hkey : K key) (hL : ∀ x ∈ L, K x.1)
    (hQ : ∀ w' L2, MapSt w' b L2 → Put L key val L2 → w.grownBy w' (some b) → wpListIn F n P ops Q rest (a.put o.dst undef) w') : wpListIn F n P ops Q (o :: rest) a w := by
  refine wpListIn_plain hg fun K' hK' => ?_
  obtain ⟨w', L2, hrun, r1, r2, r3⟩ := h.update (val := val) hK ht hkey hL
  unfold Oper.wpIn
  refine ⟨by simp [Oper.about, hop], ?_⟩
  rw [Oper.semAt_plain F _ _ (by rw [hop]; intro c hc'; cases hc')]
  simp [execOp, hop, hm, hx, hv, hrun, Result.andThen]
  exact hK' _ _ (hQ w' L2 r1 r2 r3)
end
end Go.Proofs.Ytbnghkgfbjipdaa

namespace Go.Proofs.Ytbnghkgfbjipdaa
open Go Go.RowKit Go.Shelf
attribute [local go_sem] Oper.semAt_some

theorem binds_stops (F : Fence) (n : Nat) (hro : F.round = none) (hF : ∀ k, F.fn k) (hn : 1 ≤ n) (wo : World) (A : Option Addr) (m c : Nat) (L : List Bi) (bs : List Nat) (hsl : BlIs wo (.slice A m c) L bs) (b : Nat) (w : World) (hb : w.cell? ⟨b, 0, none⟩ = some (.slice A m c)) (hW : Below wo.heap.size wo w) :
    SeqF F n Try.prog 115 #[.pointer (some ⟨b, 0, none⟩)] (fun x : Bw wo => #[.int .i64 (x.1.1 : Int), x.val]) wo.heap.size (fun xs => xs.map Bw.pair = (bnumd 0 L).reverse ∧ KidW bs xs) (fun _ => True) L.length [b] w := by
  intro l J Jx W hwW hJ hJx hY h0
  exact bback_in F n (hF _) hro hn l b wo A m c L bs hsl J Jx hY W ((hwW.cell (p := ⟨b, 0, none⟩) (World.block_lt_of_cell? w _ hb)).trans hb) (hW.trans (hwW.mono hW.size)) h0

theorem run_makeVals (n : Int) (w : World) : (Instr.makeMap 76 (some (.int .i64 n))).run Try.prog w = .ok (.map (some w.heap.size)) (w.alloc (.map #[] 0)) := by
  simp [Instr.makeMap, run_underlying Try.underlying76, asInt, asIntOf, Result.andThen]
section
variable {wo : World}
def bname (x : Bw wo) : Value := .string x.bi.name
def bval (x : Bw wo) : Value := .agg #[.int .i64 x.1.2.1.val.kind, .string x.1.2.1.val.name, x.1.2.2.1]
/-- The map under way: its box, its block. -/
def MapB (B mb : Nat) (bt : TypeId) (K : Value → Prop) (key val : Bw wo → Value) (pre : List (Bw wo)) (Fp : List Nat) (W : World) : Prop :=
  Fp = [B, mb] ∧ B ≠ mb ∧ Boxed W B bt (.map (some mb)) ∧ ∃ M, MapSt W mb M ∧ (∀ x ∈ M, K x.1) ∧ Firsts key val pre.reverse M
theorem mapb_foot (B mb : Nat) (bt : TypeId) (K : Value → Prop) (key val : Bw wo → Value) (pre : List (Bw wo)) : Foot (MapB B mb bt K key val pre) := by
  rintro Fp X Y ⟨rfl, hne, h1, M, h2, h3⟩ _ hk
  exact ⟨rfl, hne, box_on h1 (hk B (by simp)), M, h2.on (hk mb (by simp)), h3⟩
/-- The rule of a round lies in a box of its own. -/
def Binded (I : List (Bw wo) → List Nat → World → Prop) (tm : Nat → Bw wo → Array Value) (ks : List (Bw wo)) (x : Bw wo) (a : Act) (Fp : List Nat) (X : World) : Prop := ∃ nb Fp0, Fp = nb :: Fp0 ∧ X.heap[nb]? = some (.cells #[.string x.1.2.1.name, .int .i64 x.1.2.1.val.kind, .string x.1.2.1.val.name, x.1.2.2.1] 74 (0, 0)) ∧ nb ∉ Fp0 ∧ I ks Fp0 X ∧ a = { tmps := tm nb x, defers := [] }
theorem binded_foot {I : List (Bw wo) → List Nat → World → Prop} (hI : ∀ ks, Foot (I ks)) (tm : Nat → Bw wo → Array Value) (ks : List (Bw wo)) (x : Bw wo) (a : Act) : Foot (Binded I tm ks x a) := by
  rintro Fp X Y ⟨nb, Fp0, rfl, h1, h2, h3, h4⟩ hs hk
  exact ⟨nb, Fp0, rfl, (hk nb (by simp)).trans h1, h2, hI ks Fp0 X Y h3 hs (fun k h => hk k (by simp [h])), h4⟩
theorem Bw.slice (x : Bw wo) : ∃ A c, x.1.2.2.1 = .slice A x.bi.val.args.length c ∧ (c : Int) ≤ 9223372036854775807 := by
  obtain ⟨u, e, -, ⟨u', e3, -, A3, c3, e4, -, k3, -⟩⟩ := x.2
  simp only [Value.agg.injEq, Array.mk.injEq, List.cons.injEq, and_true, true_and] at e e3
  rw [e, e3, e4]
  exact ⟨A3, c3, rfl, by omega⟩
theorem binded_new {I : List (Bw wo) → List Nat → World → Prop} (hI : ∀ ks, Foot (I ks)) {tm : Nat → Bw wo → Array Value} {ks : List (Bw wo)} {x : Bw wo} {Fp : List Nat} {X : World} (h : I ks Fp X) (hFp : ∀ k ∈ Fp, k < X.heap.size) {u : Value} (hu : x.1.2.2.1 = u) {a : Act} (ha : a = { tmps := tm X.heap.size x, defers := [] }) :
    Fr Fp X (X.alloc (.cells #[.string x.1.2.1.name, .int .i64 x.1.2.1.val.kind, .string x.1.2.1.val.name, u] 74)) ∧ (∀ k ∈ X.heap.size :: Fp, (k ∈ Fp ∨ X.heap.size ≤ k) ∧ k < (X.alloc (.cells #[.string x.1.2.1.name, .int .i64 x.1.2.1.val.kind, .string x.1.2.1.val.name, u] 74)).heap.size) ∧ Binded I tm ks x a (X.heap.size :: Fp) (X.alloc (.cells #[.string x.1.2.1.name, .int .i64 x.1.2.1.val.kind, .string x.1.2.1.val.name, u] 74)) := by
  subst hu
  refine ⟨Fr.alloc _ _, fun k hk => ?_, X.heap.size, Fp, rfl, World.alloc_heap_new X _, fun hm => by have := hFp _ hm; omega, hI ks Fp X _ h (by simp) (fun k hk => Below.heap_alloc X _ k (hFp k hk)), ha⟩
  rcases List.mem_cons.1 hk with rfl | hk
  · exact ⟨Or.inr (Nat.le_refl _), by simp⟩
  · exact ⟨Or.inl hk, by have := hFp k hk; simp; omega⟩
theorem bmap_step {B mb nb : Nat} {bt : TypeId} {K : Value → Prop} {key val : Bw wo → Value} {pre : List (Bw wo)} {x : Bw wo} {M L2 : List (Value × Value)} {X W5 : World} (hne : B ≠ mb) (hB : Boxed X B bt (.map (some mb))) (hmi : MapSt X mb M) (hK : ∀ x ∈ M, K x.1) (hF : Firsts key val pre.reverse M) (hk : K (key x))
    (h2 : MapSt W5 mb L2) (hp : Put M (key x) (val x) L2) (hg : X.grownBy W5 (some mb)) :
    ∃ Fp2, Fr [nb, B, mb] X W5 ∧ (∀ k ∈ Fp2, (k ∈ [nb, B, mb] ∨ X.heap.size ≤ k) ∧ k < W5.heap.size) ∧ MapB B mb bt K key val (pre ++ [x]) Fp2 W5 := by
  refine ⟨[B, mb], Fr.grown hg (fun k e => by cases e; simp), fun k hk => ?_, rfl, hne, box_on hB (hg.block B hB.lt (fun e => hne (Option.some.inj e))), L2, h2, hp.nodup_keys hK hk, ?_⟩
  · simp at hk
    rcases hk with rfl | rfl
    · exact ⟨Or.inl (by simp), Nat.lt_of_lt_of_le hB.lt hg.size⟩
    · exact ⟨Or.inl (by simp), h2.is.lt⟩
  · have hn := hmi.nodup
    rw [List.reverse_append]
    exact hF.cons hn hp
end
/-- Where the loop begins: the map and its box. -/
theorem start_vals (w W0 : World) (bt st : TypeId) (sl : Value) (h : W0 = ((w.alloc (.map #[] 0)).alloc (.cells #[.map (some w.heap.size)] bt)).alloc (.cells #[sl] st)) :
    W0.heap.size = w.heap.size + 3 ∧ Below w.heap.size w W0 ∧ Boxed W0 (w.heap.size + 1) bt (.map (some w.heap.size)) ∧ MapSt W0 w.heap.size [] ∧ W0.cell? ⟨w.heap.size + 1 + 1, 0, none⟩ = some sl := by
  subst h
  have b1 := MapSt.made w
  have b2 := Boxed.new (w.alloc (.map #[] 0)) bt (.map (some w.heap.size))
  have b3 := Boxed.new ((w.alloc (.map #[] 0)).alloc (.cells #[.map (some w.heap.size)] bt)) st sl
  simp only [World.size_alloc] at b2 b3
  refine ⟨by simp, (((Below.refl _ w).alloc (Nat.le_refl _) _).alloc (by simp) _).alloc (by simp; omega) _, b2.alloc _, ?_, b3.cell⟩
  exact b1.on ((Below.heap_alloc _ _ _ (by simp; omega)).trans (Below.heap_alloc _ _ _ (by simp)))
/-- What firstValues hands back. -/
def ValsPost (l : List Bi) (bs : List Nat) (w : World) (e : Ending) (w2 : World) : Prop :=
  ∃ (mb : Nat) (M : List (Value × Value)) (xs : List (Bw w)), e = .returned (.map (some mb)) ∧ MapSt w2 mb M ∧ (∀ x ∈ M, StrK x.1) ∧ xs.map Bw.pair = bnumd 0 l ∧ KidW bs xs.reverse ∧ Firsts bname bval xs M ∧ w.heap.size ≤ mb ∧ Below w.heap.size w w2

set_option maxRecDepth 100000 in
set_option maxHeartbeats 2000000 in
theorem vals_in (F : Fence) (n : Nat) (hFw : F = Fence.wide) (hro : F.round = none) (hF : ∀ k, F.fn k) (hn : 9 ≤ n) (l : List Bi) (v : Value) (bs : List Nat) (w : World) (hv : BlIs w v l bs) (hb : l.length ≤ 1099511627776) :
    CallsIn F n Try.prog 63 #[v] w (ValsPost l bs w) := by
  obtain ⟨A, c, rfl, hc1, hc2, -⟩ := id hv
  have HU := Lib.hid hv
  have h1 : 1 ≤ n := by omega
  have HFW := Lib.hid hFw
  obtain ⟨m, hm⟩ : ∃ m, m = l.length := ⟨_, rfl⟩
  rw [← hm] at HU hc1 hb ⊢
  have HM := Lib.hid hm
  have hm2 : (m : Int) ≤ 1099511627776 := by omega
  have hmk := run_makeVals
  clear hv hFw hm
  refine callsIn_of_wp_marks Try.func63 rfl (hF _) ?_ hro
  simp only [Try.ntmps63, List.size_toArray, List.length_cons, List.length_nil, Nat.reduceAdd, Nat.reduceSub, Array.replicate_succ, Array.replicate_zero, List.push_toArray, List.append_toArray, List.nil_append, List.cons_append]
  gi_wp2_with (gi_at_call 93; refine (bbackward_in F (n - 1) (hF _) hro _ _ _ _).mono ?_; rintro r w4 ⟨rfl, rfl⟩)
  obtain ⟨W0, hW0⟩ : ∃ W0, W0 = ((w.alloc (.map #[] 0)).alloc (.cells #[.map (some w.heap.size)] 76)).alloc (.cells #[.slice A m c] 29) := ⟨_, rfl⟩
  rw [← hW0]
  have HX := Lib.hid (start_vals w W0 _ _ _ hW0)
  clear hW0 hmk
  have hx1 := HX.out.1
  refine wpIn_rangeFunc_frame hro h1 (gf := 115) (lb := #[.pointer (some ⟨w.heap.size + 1 + 1, 0, none⟩)]) rfl (hF _) (enters_of Try.func115 (by kernel_rfl) rfl)
    (binds_stops F (n - 1) hro hF (by omega) w A m c l bs HU.out (w.heap.size + 1 + 1) W0 HX.out.2.2.2.2 HX.out.2.1) (Below.refl _ _) (by omega) (by simp; omega) (fun _ => rfl)
    (MapB (w.heap.size + 1) w.heap.size 76 StrK bname bval) (fun _ _ _ _ => False) (mapb_foot (w.heap.size + 1) w.heap.size 76 StrK bname bval) (fun _ _ _ _ _ h _ _ => h) [w.heap.size + 1, w.heap.size] (fun k hk => by simp at hk; rcases hk with rfl | rfl <;> simp <;> omega) ⟨rfl, by omega, HX.out.2.2.1, [], HX.out.2.2.2.1, (fun x hx => by cases hx), firsts_nil⟩
    (Binded (MapB (w.heap.size + 1) w.heap.size 76 StrK bname bval) (fun nb x => #[.slice A m c, undef, .map none, .pointer (some ⟨w.heap.size + 1, 0, none⟩), undef, .pointer (some ⟨nb, 0, none⟩), .slice A m c, .int .i64 (m : Int), .map (some w.heap.size), .slice A m c, .func (.func 115) #[] #[.pointer (some ⟨w.heap.size + 1 + 1, 0, none⟩)], .int .i64 (x.1.1 : Int), x.val, undef, undef, undef, undef, undef, undef])) (binded_foot (mapb_foot (w.heap.size + 1) w.heap.size 76 StrK bname bval) _) ?assign ?body ?done ?stop
  case assign =>
    intro l2 pre x Fp X KX hI hFp hFr hK
    have HI := Lib.hid hI
    have HFP := Lib.hid hFp
    have HKX := Lib.hid hK
    obtain ⟨A1, d1, hv1, -⟩ := x.slice
    have hv : x.val = .agg #[.string x.1.2.1.name, .int .i64 x.1.2.1.val.kind, .string x.1.2.1.val.name, .slice A1 x.bi.val.args.length d1] := by rw [← hv1]; rfl
    have HV1 := Lib.hid hv1
    have HV := Lib.hid hv
    dsimp only
    rw [hv]
    clear hI hFp hFr hK hv hv1
    gi_wp2
    obtain ⟨q1, q2, q3⟩ := binded_new (mapb_foot (w.heap.size + 1) w.heap.size 76 StrK bname bval) (tm := (fun nb x => #[.slice A m c, undef, .map none, .pointer (some ⟨w.heap.size + 1, 0, none⟩), undef, .pointer (some ⟨nb, 0, none⟩), .slice A m c, .int .i64 (m : Int), .map (some w.heap.size), .slice A m c, .func (.func 115) #[] #[.pointer (some ⟨w.heap.size + 1 + 1, 0, none⟩)], .int .i64 (x.1.1 : Int), x.val, undef, undef, undef, undef, undef, undef])) HI.out (fun k hk => (HFP.out k hk).2) HV1.out rfl
    refine HKX.out _ _ _ q1 q2 ?_
    exact (by simpa only [HV.out] using q3)
  case body =>
    rintro l2 pre x _ Fp X ⟨nb, _, rfl, hnx, hnb, ⟨rfl, hne, hB, M, hmi, hKM, hFs⟩, rfl⟩ hFp hFr hlen
    have hn3 : 1 ≤ n - 1 - 1 := by omega
    have hn0 : X.cell? ⟨nb, 0, none⟩ = some (.string x.1.2.1.name) := by simp [World.cell?, hnx]
    have hn1 : X.cell? ⟨nb, 1, none⟩ = some (.int .i64 x.1.2.1.val.kind) := by simp [World.cell?, hnx]
    have hn2 : X.cell? ⟨nb, 2, none⟩ = some (.string x.1.2.1.val.name) := by simp [World.cell?, hnx]
    have hn4 : X.cell? ⟨nb, 3, none⟩ = some (x.1.2.2.1) := by simp [World.cell?, hnx]
    have hc := hB.cell
    have HB := Lib.hid hB
    have HMI := Lib.hid hmi
    have HKM := Lib.hid hKM
    have HFS := Lib.hid hFs
    have HNE := Lib.hid hne
    clear hB hmi hKM hFs hne hnx hFp hFr hnb
    gi_wp2_with (gi_at_mapUpdate; refine st_put_in _ rfl _ _ _ 76 rfl 9 26 Try.underlying76 StrK (strT X) w.heap.size M rfl HMI.out _ _ rfl rfl ⟨_, rfl⟩ HKM.out ?_; intro W5 L2 hmi5 hput5 hgr5; have HM5 := Lib.hid hmi5; have HP5 := Lib.hid hput5; have HG5 := Lib.hid hgr5; clear hmi5 hput5 hgr5)
    exact bmap_step HNE.out HB.out HMI.out HKM.out HFS.out ⟨_, rfl⟩ HM5.out HP5.out HG5.out
  case done =>
    rintro D ks Fp X hD hDF hFl hS ⟨rfl, hne, hB, M, hmi, hKM, hFs⟩ hFr hK
    have hc := hB.cell
    have HMI := Lib.hid hmi
    have HKM := Lib.hid hKM
    have HFS := Lib.hid hFs
    have HS := Lib.hid (show ks.reverse.map Bw.pair = bnumd 0 l by rw [List.map_reverse, hS.1, List.reverse_reverse])
    have HSK := Lib.hid (show KidW bs ks.reverse.reverse by rw [List.reverse_reverse]; exact hS.2)
    have HK := Lib.hid hK
    have HFR := Lib.hid hFr
    clear hB hmi hKM hFs hne hK hFr hS hFl hDF
    gi_wp2
    refine ⟨by simp, .inl ⟨_, _, rfl, run_takeDeferred HK.out, ?_⟩⟩
    refine ⟨_, results_tmp rfl _ _ _, w.heap.size, M, ks.reverse, rfl, HMI.out.on (World.putObj_heap_other (by omega)), HKM.out, HS.out, HSK.out, HFS.out, Nat.le_refl _, ?_⟩
    exact (HX.out.2.1.trans (HFR.out.below (by simp; omega) (by omega))).trans ((Fr.put (S := [D]) X _ _ (by simp)).below (by simp; omega) (by have := HFR.out.size; omega))
  case stop =>
    rintro D c pre Fp X _ _ _ _ h _ _
    exact h.elim

theorem own_vals (l : List Bi) (v : Value) (bs : List Nat) (w : World) (hv : BlIs w v l bs) (hb : l.length ≤ 1099511627776) : Calls Try.prog 63 #[v] w (ValsPost l bs w) :=
  callsIn_wide.1 (vals_in Fence.wide 9 rfl rfl (fun _ => trivial) (Nat.le_refl _) l v bs w hv hb)
theorem vals_first {w : World} {s : ByteArray} : ∀ (xs : List (Bw w)) (k : Nat) (l : List Bi), xs.map Bw.pair = bnumd k l →
    (∀ p, FirstAt bname xs (.string s) p → valOf l s = some p.bi.val) ∧ ((∀ p ∈ xs, bname p ≠ .string s) → valOf l s = none) := by
  intro xs
  induction xs with
  | nil =>
    intro k l h
    cases l with
    | nil => exact ⟨fun p ⟨A, B, h, _⟩ => by simp at h, fun _ => rfl⟩
    | cons r t => simp [bnumd] at h
  | cons x t ih =>
    intro k l h
    cases l with
    | nil => simp [bnumd] at h
    | cons r u =>
      rw [List.map_cons, bnumd, List.cons.injEq, Bw.pair, Prod.mk.injEq] at h
      obtain ⟨⟨hn, hr⟩, ht⟩ := h
      obtain ⟨h1, h2⟩ := ih (k + 1) u ht
      have hq : bname x = .string s ↔ r.name = s := by simp [bname, hr]
      refine ⟨fun p hp => ?_, fun hp => ?_⟩
      · rcases firstAt_cons.1 hp with ⟨e, rfl⟩ | ⟨e, hf⟩
        · rw [valOf, if_pos (hq.1 e), hr]
        · rw [valOf, if_neg (fun h => e (hq.2 h))]
          exact h1 p hf
      · rw [valOf, if_neg (fun h => hp x (by simp) (hq.2 h))]
        exact h2 (fun p hp2 => hp p (by simp [hp2]))
theorem vals_is {w : World} {l : List Bi} {M : List (Value × Value)} {xs : List (Bw w)} (hK : ∀ x ∈ M, StrK x.1) (hx : xs.map Bw.pair = bnumd 0 l) (hF : Firsts bname bval xs M) (hfr : ∀ x ∈ xs, ∀ z ∈ x.bs, FreeB w z) : ValsIs w M (valOf l) := by
  refine ⟨hK, fun s v hv => ?_, fun s hs => ?_⟩
  · obtain ⟨p, hp, rfl⟩ := (hF.mem _ _).1 hv
    obtain ⟨u, e, -, hi⟩ := p.2
    simp only [Value.agg.injEq, Array.mk.injEq, List.cons.injEq, and_true, true_and] at e
    rw [← e] at hi
    exact ⟨p.bi.val, _, _, rfl, (vals_first xs 0 l hx).1 p hp, hi, hfr p hp.mem.1⟩
  · refine (vals_first xs 0 l hx).2 (fun p hp e => ?_)
    obtain ⟨y, hy, e2⟩ := (hF.keys (.string s)).2 ⟨p, hp, e⟩
    exact hs y hy e2
end Go.Proofs.Ytbnghkgfbjipdaa

namespace Go.Proofs.Ytbnghkgfbjipdaa
open Go Go.RowKit Go.Shelf
attribute [local go_sem] Oper.semAt_some

/-- An entry of the list L. -/
abbrev Ent (L : List (Value × Value)) : Type := { p : Value × Value // p ∈ L }
/-- The shape of an expression's value. -/
def ExV (v : Value) : Prop := ∃ k s A n c, v = .agg #[.int .i64 k, .string s, .slice A n c]

set_option maxRecDepth 100000 in
set_option maxHeartbeats 2000000 in
theorem valsS1_in (F : Fence) (n : Nat) (hF : F.fn 131) (hro : F.round = none) (hn : 1 ≤ n) (l Bm mb n₀ : Nat) (L : List (Value × Value)) (hmb : mb < n₀) (hL : ∀ p ∈ L, ExV p.2)
    (J Jx : List (Ent L) → List Nat → World → Prop) (hJ : Minds J)
    (hY : ∀ pre x M W1, J pre M W1 → (∀ k ∈ M, k < W1.heap.size) → pre.length < L.length → YieldAt F (n - 1) Try.prog l #[x.1.2] W1 fun e W2 =>
      (e = .returned (.bool true) ∧ J (pre ++ [x]) M W2 ∧ Kept n₀ M W1 W2) ∨ (e = .returned (.bool false) ∧ Jx (pre ++ [x]) M W2 ∧ Kept n₀ M W1 W2))
    (W : World) (hm : W.cell? ⟨Bm, 0, none⟩ = some (.map (some mb))) (hown : MapSt W mb L) (h0 : J [] [Bm] W) :
    CallsIn F n Try.prog 131 #[.func (.yield l) #[] #[], .pointer (some ⟨Bm, 0, none⟩)] W fun e W2 => (∃ v, e = .returned v) ∧
      ((∃ (xs : List (Ent L)) (M : List Nat), (xs.map (·.1)).Perm L ∧ J xs M W2) ∨ (∃ (pre : List (Ent L)) (M : List Nat), True ∧ Jx pre M W2)) := by
  have HY := Lib.hid hY
  have HJ := Lib.hid hJ
  have HJ0 := Lib.hid h0
  have hBl : Bm < W.heap.size := World.block_lt_of_cell? W _ hm
  clear hY hJ h0
  refine callsIn_of_wp Try.func131 rfl hF ?_ hro
  simp only [Try.ntmps131, List.size_toArray, List.length_cons, List.length_nil, Nat.reduceAdd, Nat.reduceSub, Array.replicate_succ, Array.replicate_zero, List.push_toArray, List.append_toArray, List.nil_append, List.cons_append]
  gi_wp2_with (first
    | (gi_at_range; refine range_st_in _ rfl _ 76 rfl 9 26 Try.underlying76 mb L rfl hown ?_; intro ob hrg0)
    | gi_in)
  go_frame
  gi_loopw [4] (fun _ wr => Hid (∃ (xs : List (Ent L)), RangeSt wr mb W.heap.size L (xs.map (·.1)) ∧ J xs [W.heap.size, Bm] wr)) (fun _ wr => wr.rangeLeft mb W.heap.size)
  case atStart =>
    exact Lib.hid ⟨[], hrg0, HJ.out _ _ _ _ _ HJ0.out (Fr.alloc W _) (fun k hk => by simp at hk; rcases hk with rfl | rfl <;> simp)⟩
  case round =>
    obtain ⟨xs, hrg, hJs⟩ := hrel.out
    clear hrel hrg0
    gi_wp2_with (first
      | (gi_at_next; refine next_st_in _ rfl _ rfl mb W.heap.size L _ rfl hrg ?_ ?_)
      | gi_in)
    · intro hperm
      gi_wp2
      go_end0
      exact ⟨⟨_, rfl⟩, .inl ⟨xs, _, hperm, hJs⟩⟩
    · intro pk pv w2 hpL hrg2 hg2 hs2 hen
      obtain ⟨kk, ks, kA, kn, kc, hsh⟩ := hL _ hpL
      dsimp only at hsh
      subst hsh
      have hJ2 : J xs [W.heap.size, Bm] (w2.alloc (.cells #[.int .i64 kk, .string ks, .slice kA kn kc] 26)) := HJ.out _ _ _ _ _ hJs ((Fr.grown hg2 (fun k e => by cases e; simp)).trans (Fr.alloc (S := []) w2 _) (by simp)) (fun k hk => Or.inl hk)
      have hrl := hrg2.lt
      have hlen := hrg2.len
      obtain ⟨fn, tmps, assign, body, hy, hR⟩ := HY.out xs ⟨(pk, .agg #[.int .i64 kk, .string ks, .slice kA kn kc]), hpL⟩ [W.heap.size, Bm] _ hJ2 (fun k hk => by simp at hk; rcases hk with rfl | rfl <;> simp <;> omega) (by simp at hlen; omega)
      have HR := Lib.hid hR
      have HRG := Lib.hid hrg
      have HRG2 := Lib.hid hrg2
      clear hR hJ2 hrl hlen hs2 hrg hrg2 hJs hg2
      dsimp only at hy
      gi_wp2
      refine HR.out.mono ?_
      rintro e W3 (⟨rfl, hJ3, hk3, hkm3⟩ | ⟨rfl, hJx3, -⟩)
      · have hrg3 : RangeSt W3 mb W.heap.size L ((xs ++ [(⟨(pk, .agg #[.int .i64 kk, .string ks, .slice kA kn kc]), hpL⟩ : Ent L)]).map (·.1)) := by
          rw [List.map_append]
          exact HRG2.out.on ((hk3.block _ hmb).trans (Below.heap_alloc _ _ _ HRG2.out.lt.1)) ((hkm3 _ (by simp)).trans (Below.heap_alloc _ _ _ HRG2.out.lt.2.1))
        have hJ3' := Lib.hid (And.intro hrg3 hJ3)
        have hms : W3.rangeLeft mb W.heap.size < wr.rangeLeft mb W.heap.size := by
          have h1 := hrg3.left
          have h2 := HRG.out.left
          simp at h1 h2
          omega
        clear hrg3 hJ3 hk3 hkm3
        gi_wp2
        go_roundw
        case rel => exact Lib.hid ⟨_, hJ3'.out.1, hJ3'.out.2⟩
        case measure => exact hms
      · have HJ3 := Lib.hid hJx3
        clear hJx3
        gi_wp2
        refine bodyPost_ret (results_none rfl _ _ _) rfl ?_
        exact ⟨⟨_, rfl⟩, .inr ⟨_, _, trivial, HJ3.out⟩⟩
set_option maxHeartbeats 1000000 in
theorem valsS_in (F : Fence) (n : Nat) (hF : F.fn 118) (hro : F.round = none) (mo : Option Nat) (w : World) :
    CallsIn F n Try.prog 118 #[.map mo] w fun e w2 => e = .returned (.func (.func 131) #[] #[.pointer (some ⟨w.heap.size, 0, none⟩)]) ∧ w2 = w.alloc (.cells #[.map mo] 76) := by
  refine callsIn_of_wp Try.func118 rfl hF ?_ hro
  simp only [Try.ntmps118, List.size_toArray, List.length_cons, List.length_nil, Nat.reduceAdd, Nat.reduceSub, Array.replicate_succ, Array.replicate_zero, List.push_toArray, List.append_toArray, List.nil_append, List.cons_append]
  gi_wp2
  go_ret
  exact ⟨rfl, rfl⟩
theorem valsS_stops (F : Fence) (n : Nat) (hF : ∀ k, F.fn k) (hro : F.round = none) (hn : 1 ≤ n) (Bm mb n₀ : Nat) (L : List (Value × Value)) (hmb : mb < n₀) (hL : ∀ p ∈ L, ExV p.2) (w : World) (hm : w.cell? ⟨Bm, 0, none⟩ = some (.map (some mb))) (hown : MapSt w mb L) :
    SeqF F n Try.prog 131 #[.pointer (some ⟨Bm, 0, none⟩)] (fun x : Ent L => #[x.1.2]) n₀ (fun xs => (xs.map (·.1)).Perm L) (fun _ => True) L.length [Bm] w := by
  intro l J Jx W hwW hJ hJx hY h0
  exact valsS1_in F n (hF _) hro hn l Bm mb n₀ L hmb hL J Jx hJ hY W ((hwW.cell (p := ⟨Bm, 0, none⟩) (World.block_lt_of_cell? w _ hm)).trans hm) (hown.on (hwW.block _ hown.is.lt)) h0

set_option maxRecDepth 100000 in
set_option maxHeartbeats 2000000 in
theorem valsP1_in (F : Fence) (n : Nat) (hF : F.fn 132) (hro : F.round = none) (hn : 1 ≤ n) (l Bm mb n₀ : Nat) (L : List (Value × Value)) (hmb : mb < n₀) (hL : ∀ p ∈ L, ExV p.2)
    (J Jx : List (Ent L) → List Nat → World → Prop) (hJ : Minds J)
    (hY : ∀ pre x M W1, J pre M W1 → (∀ k ∈ M, k < W1.heap.size) → pre.length < L.length → YieldAt F (n - 1) Try.prog l #[x.1.2] W1 fun e W2 =>
      (e = .returned (.bool true) ∧ J (pre ++ [x]) M W2 ∧ Kept n₀ M W1 W2) ∨ (e = .returned (.bool false) ∧ Jx (pre ++ [x]) M W2 ∧ Kept n₀ M W1 W2))
    (W : World) (hm : W.cell? ⟨Bm, 0, none⟩ = some (.map (some mb))) (hown : MapSt W mb L) (h0 : J [] [Bm] W) :
    CallsIn F n Try.prog 132 #[.func (.yield l) #[] #[], .pointer (some ⟨Bm, 0, none⟩)] W fun e W2 => (∃ v, e = .returned v) ∧
      ((∃ (xs : List (Ent L)) (M : List Nat), (xs.map (·.1)).Perm L ∧ J xs M W2) ∨ (∃ (pre : List (Ent L)) (M : List Nat), True ∧ Jx pre M W2)) := by
  have HY := Lib.hid hY
  have HJ := Lib.hid hJ
  have HJ0 := Lib.hid h0
  have hBl : Bm < W.heap.size := World.block_lt_of_cell? W _ hm
  clear hY hJ h0
  refine callsIn_of_wp Try.func132 rfl hF ?_ hro
  simp only [Try.ntmps132, List.size_toArray, List.length_cons, List.length_nil, Nat.reduceAdd, Nat.reduceSub, Array.replicate_succ, Array.replicate_zero, List.push_toArray, List.append_toArray, List.nil_append, List.cons_append]
  gi_wp2_with (first
    | (gi_at_range; refine range_st_in _ rfl _ 169 rfl 129 26 Try.underlying169 mb L rfl hown ?_; intro ob hrg0)
    | gi_in)
  go_frame
  gi_loopw [4] (fun _ wr => Hid (∃ (xs : List (Ent L)), RangeSt wr mb W.heap.size L (xs.map (·.1)) ∧ J xs [W.heap.size, Bm] wr)) (fun _ wr => wr.rangeLeft mb W.heap.size)
  case atStart =>
    exact Lib.hid ⟨[], hrg0, HJ.out _ _ _ _ _ HJ0.out (Fr.alloc W _) (fun k hk => by simp at hk; rcases hk with rfl | rfl <;> simp)⟩
  case round =>
    obtain ⟨xs, hrg, hJs⟩ := hrel.out
    clear hrel hrg0
    gi_wp2_with (first
      | (gi_at_next; refine next_st_in _ rfl _ rfl mb W.heap.size L _ rfl hrg ?_ ?_)
      | gi_in)
    · intro hperm
      gi_wp2
      go_end0
      exact ⟨⟨_, rfl⟩, .inl ⟨xs, _, hperm, hJs⟩⟩
    · intro pk pv w2 hpL hrg2 hg2 hs2 hen
      obtain ⟨kk, ks, kA, kn, kc, hsh⟩ := hL _ hpL
      dsimp only at hsh
      subst hsh
      have hJ2 : J xs [W.heap.size, Bm] (w2.alloc (.cells #[.int .i64 kk, .string ks, .slice kA kn kc] 26)) := HJ.out _ _ _ _ _ hJs ((Fr.grown hg2 (fun k e => by cases e; simp)).trans (Fr.alloc (S := []) w2 _) (by simp)) (fun k hk => Or.inl hk)
      have hrl := hrg2.lt
      have hlen := hrg2.len
      obtain ⟨fn, tmps, assign, body, hy, hR⟩ := HY.out xs ⟨(pk, .agg #[.int .i64 kk, .string ks, .slice kA kn kc]), hpL⟩ [W.heap.size, Bm] _ hJ2 (fun k hk => by simp at hk; rcases hk with rfl | rfl <;> simp <;> omega) (by simp at hlen; omega)
      have HR := Lib.hid hR
      have HRG := Lib.hid hrg
      have HRG2 := Lib.hid hrg2
      clear hR hJ2 hrl hlen hs2 hrg hrg2 hJs hg2
      dsimp only at hy
      gi_wp2
      refine HR.out.mono ?_
      rintro e W3 (⟨rfl, hJ3, hk3, hkm3⟩ | ⟨rfl, hJx3, -⟩)
      · have hrg3 : RangeSt W3 mb W.heap.size L ((xs ++ [(⟨(pk, .agg #[.int .i64 kk, .string ks, .slice kA kn kc]), hpL⟩ : Ent L)]).map (·.1)) := by
          rw [List.map_append]
          exact HRG2.out.on ((hk3.block _ hmb).trans (Below.heap_alloc _ _ _ HRG2.out.lt.1)) ((hkm3 _ (by simp)).trans (Below.heap_alloc _ _ _ HRG2.out.lt.2.1))
        have hJ3' := Lib.hid (And.intro hrg3 hJ3)
        have hms : W3.rangeLeft mb W.heap.size < wr.rangeLeft mb W.heap.size := by
          have h1 := hrg3.left
          have h2 := HRG.out.left
          simp at h1 h2
          omega
        clear hrg3 hJ3 hk3 hkm3
        gi_wp2
        go_roundw
        case rel => exact Lib.hid ⟨_, hJ3'.out.1, hJ3'.out.2⟩
        case measure => exact hms
      · have HJ3 := Lib.hid hJx3
        clear hJx3
        gi_wp2
        refine bodyPost_ret (results_none rfl _ _ _) rfl ?_
        exact ⟨⟨_, rfl⟩, .inr ⟨_, _, trivial, HJ3.out⟩⟩
set_option maxHeartbeats 1000000 in
theorem valsP_in (F : Fence) (n : Nat) (hF : F.fn 119) (hro : F.round = none) (mo : Option Nat) (w : World) :
    CallsIn F n Try.prog 119 #[.map mo] w fun e w2 => e = .returned (.func (.func 132) #[] #[.pointer (some ⟨w.heap.size, 0, none⟩)]) ∧ w2 = w.alloc (.cells #[.map mo] 169) := by
  refine callsIn_of_wp Try.func119 rfl hF ?_ hro
  simp only [Try.ntmps119, List.size_toArray, List.length_cons, List.length_nil, Nat.reduceAdd, Nat.reduceSub, Array.replicate_succ, Array.replicate_zero, List.push_toArray, List.append_toArray, List.nil_append, List.cons_append]
  gi_wp2
  go_ret
  exact ⟨rfl, rfl⟩
theorem valsP_stops (F : Fence) (n : Nat) (hF : ∀ k, F.fn k) (hro : F.round = none) (hn : 1 ≤ n) (Bm mb n₀ : Nat) (L : List (Value × Value)) (hmb : mb < n₀) (hL : ∀ p ∈ L, ExV p.2) (w : World) (hm : w.cell? ⟨Bm, 0, none⟩ = some (.map (some mb))) (hown : MapSt w mb L) :
    SeqF F n Try.prog 132 #[.pointer (some ⟨Bm, 0, none⟩)] (fun x : Ent L => #[x.1.2]) n₀ (fun xs => (xs.map (·.1)).Perm L) (fun _ => True) L.length [Bm] w := by
  intro l J Jx W hwW hJ hJx hY h0
  exact valsP1_in F n (hF _) hro hn l Bm mb n₀ L hmb hL J Jx hJ hY W ((hwW.cell (p := ⟨Bm, 0, none⟩) (World.block_lt_of_cell? w _ hm)).trans hm) (hown.on (hwW.block _ hown.is.lt)) h0
end Go.Proofs.Ytbnghkgfbjipdaa

namespace Go.Proofs.Ytbnghkgfbjipdaa
open Go Go.RowKit

set_option maxRecDepth 100000 in
set_option maxHeartbeats 4000000 in
theorem pushC_any {R : World → Prop} (p : String) (ds : List Deferred) (n₀ B pb k co q c : Nat) (AO A : Option Addr) (K0 : Int) (S0 : ByteArray) (xs : List Value) (W : World) (v0 v1 v3 v4 v6 v7 v8 v9 v10 v11 v12 v13 v14 : Value)
    (hB : Boxed W B 24 (.slice AO k co)) (hR : W.ownsRow n₀ 26 3 (.slice AO k co) k xs) (hBW : B ≠ pb ∧ Value.ownBlock (.slice AO k co) ≠ some pb) (hP : W.heap[pb]? = some (.cells #[.int .i64 K0, .string S0, .slice A q c] 26 (0, 0)))
    (hn : n₀ ≤ W.heap.size) (hk : k ≤ 1099511627776) (hRR : ∀ X, PushEnd n₀ B k (.slice AO k co) xs [.int .i64 K0, .string S0, .slice A q c] W X → R X) :
    wpAny Try.prog .any (#[{ dst := some 8, op := Op.load 24 (Operand.tmp 2), type := 24, pos := p, after := #[], guard := none },
    { dst := some 9, op := Op.load 26 (Operand.tmp 5), type := 26, pos := p, after := #[], guard := none },
    { dst := some 10, op := Op.call { callee := Callee.builtin Builtin.len, args := #[Operand.tmp 8], argTypes := #[24] }, type := 3, pos := p, after := #[{ on := 0, ground := Ground.data }], guard := none },
    { dst := some 11, op := Op.buildSlice 24 1 #[(0, Operand.const (Value.agg #[Value.int IntKind.i64 0, Value.string ⟨#[]⟩, Value.slice none 0 0]))], type := 24, pos := p, after := #[], guard := none },
    { dst := some 12, op := Op.call { callee := Callee.builtin Builtin.append, args := #[Operand.tmp 8, Operand.tmp 11], argTypes := #[24, 24] }, type := 24, pos := p, after := #[{ on := 0, ground := Ground.data }, { on := 3, ground := Ground.data }, { on := 0, ground := Ground.phase }, { on := 1, ground := Ground.phase }, { on := 2, ground := Ground.phase }, { on := 3, ground := Ground.phase }], guard := none },
    { dst := some 13, op := Op.indexAddr 24 (Operand.tmp 12) (Operand.tmp 10), type := 0, pos := p, after := #[{ on := 4, ground := Ground.data }, { on := 2, ground := Ground.data }, { on := 0, ground := Ground.phase }, { on := 1, ground := Ground.phase }, { on := 2, ground := Ground.phase }, { on := 3, ground := Ground.phase }, { on := 4, ground := Ground.phase }, { on := 7, ground := Ground.gcOnly Departure.appendInPlace }], guard := none },
    { dst := none, op := Op.store 26 (Operand.tmp 13) (Operand.tmp 9), type := 0, pos := p, after := #[{ on := 5, ground := Ground.data }, { on := 1, ground := Ground.data }, { on := 4, ground := Ground.chain }, { on := 0, ground := Ground.phase }, { on := 1, ground := Ground.phase }, { on := 2, ground := Ground.phase }, { on := 3, ground := Ground.phase }, { on := 4, ground := Ground.phase }, { on := 7, ground := Ground.gcOnly Departure.appendInPlace }], guard := none },
    { dst := none, op := Op.store 24 (Operand.tmp 2) (Operand.tmp 12), type := 0, pos := p, after := #[{ on := 4, ground := Ground.data }, { on := 4, ground := Ground.chain }, { on := 6, ground := Ground.textOnly Departure.appendInPlace }, { on := 0, ground := Ground.phase }, { on := 1, ground := Ground.phase }, { on := 2, ground := Ground.phase }, { on := 3, ground := Ground.phase }, { on := 4, ground := Ground.phase }, { on := 5, ground := Ground.textOnly Departure.appendInPlace }, { on := 6, ground := Ground.textOnly Departure.appendInPlace }], guard := none }] : Array Oper) (onlyN R) 8 (Array.replicate 8 false) { tmps := #[v0, v1, .pointer (some ⟨B, 0, none⟩), v3, v4, .pointer (some ⟨pb, 0, none⟩), v6, v7, v8, v9, v10, v11, v12, v13, v14], defers := ds } W.drew := by
  obtain ⟨i0, hi, hz0, hz1, hz2⟩ := info_parts Try.infoEx
  have HI := Lib.hid (And.intro hi (And.intro hz0 (And.intro hz1 hz2)))
  clear hi hz0 hz1 hz2
  have hbc : W.cell? ⟨B, 0, none⟩ = some (.slice AO k co) := hB.cell
  have hbl : B < W.heap.size := hB.lt
  have hpl : pb < W.heap.size := (Array.getElem?_eq_some_iff.1 hP).1
  have hP1 : (W.drew.alloc (.cells #[.int .i64 0, .string ⟨#[]⟩, .slice none 0 0] 26)).heap[pb]? = some (.cells #[.int .i64 K0, .string S0, .slice A q c] 26 (0, 0)) := (Below.heap_alloc W.drew _ pb hpl).trans hP
  have HS0 := Lib.hid (show W.drew.cell? ⟨pb, 0, none⟩ = some (.int .i64 K0) ∧ W.drew.cell? ⟨pb, 1, none⟩ = some (.string S0) ∧ W.drew.cell? ⟨pb, 2, none⟩ = some (.slice A q c) from by
    have e : W.drew.heap[pb]? = some (.cells #[.int .i64 K0, .string S0, .slice A q c] 26 (0, 0)) := hP
    simp [World.cell?, e])
  have HS1 := Lib.hid (show (W.drew.alloc (.cells #[.int .i64 0, .string ⟨#[]⟩, .slice none 0 0] 26)).cell? ⟨pb, 0, none⟩ = some (.int .i64 K0) ∧ (W.drew.alloc (.cells #[.int .i64 0, .string ⟨#[]⟩, .slice none 0 0] 26)).cell? ⟨pb, 1, none⟩ = some (.string S0) ∧ (W.drew.alloc (.cells #[.int .i64 0, .string ⟨#[]⟩, .slice none 0 0] 26)).cell? ⟨pb, 2, none⟩ = some (.slice A q c) from by
    simp only [World.cell?, hP1]
    simp)
  have HO1 := Lib.hid (show (W.drew.alloc (.cells #[.int .i64 0, .string ⟨#[]⟩, .slice none 0 0] 26)).ownsRow n₀ 26 3 (.slice AO k co) k xs from World.ownsRow.alloc (w := W.drew) hR _)
  have HB := Lib.hid hB
  have HR := Lib.hid hR
  have HBW := Lib.hid hBW
  have HPB := Lib.hid hP
  have HRR := Lib.hid hRR
  have CM := Lib.hid (show k + 1 ≤ maxLen by unfold maxLen; omega)
  have CB := Lib.hid (show (k + 1) * 48 ≤ 140737488355328 by omega)
  have CS := Lib.hid (show n₀ ≤ (W.drew.alloc (.cells #[.int .i64 0, .string ⟨#[]⟩, .slice none 0 0] 26)).heap.size by simp; omega)
  have hk0 : (0 : Int) ≤ (k : Int) := by omega
  have hk1 : (k : Int) < (k : Int) + 1 := by omega
  have hk2 : (k : Int) ≤ 1099511627776 := by omega
  clear hB hR hBW hP hRR hP1 hn
  refine wpAny_of_held (S := (fun X => X.cell? ⟨pb, 0, none⟩ = some (.int .i64 K0) ∧ X.cell? ⟨pb, 1, none⟩ = some (.string S0) ∧ X.cell? ⟨pb, 2, none⟩ = some (.slice A q c))) _ _ _ _ ?_
  have hHeld := HS0.out
  refine wpAnyH_take (i := 1) (oi := ({ dst := some 9, op := Op.load 26 (Operand.tmp 5), type := 26, pos := p, after := #[], guard := none } : Oper)) (v := .agg #[.int .i64 K0, .string S0, .slice A q c]) rfl (by kernel_rfl) (by kernel_rfl) (by kernel_rfl) (fun _ _ _ h => h) (Or.inl ⟨by rfl, fun w hSw => ?_⟩) hHeld ?_
  · (try dsimp only at hSw)
    go_simp
  try simp only [Act.put, List.setIfInBounds_toArray, List.set_cons_zero, List.set_cons_succ]
  refine wpAnyH_ready (rs := [0, 3]) (by kernel_rfl) (by simp) ?_
  refine AllReadyH.cons (o := ({ dst := some 8, op := Op.load 24 (Operand.tmp 2), type := 24, pos := p, after := #[], guard := none } : Oper)) rfl (fun K hK => ?_) ?_
  · go_simp
    refine hK.out _ _ HS0.out (fun hHeld => ?_)
    clear hK K
    try simp only [Act.put, List.setIfInBounds_toArray, List.set_cons_zero, List.set_cons_succ]
    refine wpAnyH_take (i := 2) (oi := ({ dst := some 10, op := Op.call { callee := Callee.builtin Builtin.len, args := #[Operand.tmp 8], argTypes := #[24] }, type := 3, pos := p, after := #[{ on := 0, ground := Ground.data }], guard := none } : Oper)) (v := .int .i64 (k : Int)) rfl (by kernel_rfl) (by kernel_rfl) (by kernel_rfl) (fun _ _ _ h => h) (Or.inl ⟨by rfl, fun w hSw => ?_⟩) hHeld ?_
    · (try dsimp only at hSw)
      go_simp
    try simp only [Act.put, List.setIfInBounds_toArray, List.set_cons_zero, List.set_cons_succ]
    refine wpAnyH_ready (rs := [3]) (by kernel_rfl) (by simp) ?_
    refine AllReadyH.cons (o := ({ dst := some 11, op := Op.buildSlice 24 1 #[(0, Operand.const (Value.agg #[Value.int IntKind.i64 0, Value.string ⟨#[]⟩, Value.slice none 0 0]))], type := 24, pos := p, after := #[], guard := none } : Oper)) rfl (fun K hK => ?_) AllReadyH.nil
    go_simp
    refine hK.out _ _ HS1.out (fun hHeld => ?_)
    clear hK K
    try simp only [Act.put, List.setIfInBounds_toArray, List.set_cons_zero, List.set_cons_succ]
    refine wpAnyH_ready (rs := [4]) (by kernel_rfl) (by simp) ?_
    refine AllReadyH.cons (o := ({ dst := some 12, op := Op.call { callee := Callee.builtin Builtin.append, args := #[Operand.tmp 8, Operand.tmp 11], argTypes := #[24, 24] }, type := 24, pos := p, after := #[{ on := 0, ground := Ground.data }, { on := 3, ground := Ground.data }, { on := 0, ground := Ground.phase }, { on := 1, ground := Ground.phase }, { on := 2, ground := Ground.phase }, { on := 3, ground := Ground.phase }], guard := none } : Oper)) rfl (fun K hK => ?_) AllReadyH.nil
    refine step_append_lies _ (by rfl) _ _ _ (by rfl) n₀ 26 i0 _ 3 48 Try.underlying24 HI.out.1 HI.out.2.1 HI.out.2.2.1 HI.out.2.2.2 rfl (by decide) (.slice AO k co) k xs (by rfl) HO1.out ⟨W.heap.size, 0, none⟩ 1 1 [.int .i64 0, .string ⟨#[]⟩, .slice none 0 0] (by rfl) (by rfl) (World.news_of_block (heap_alloc_new W.drew _)) zero_one (by decide) CM.out CB.out CS.out (W.heap.size + 1) (by simp) ?_
    intro g2 cap2 W2 ho2 hg2 hat2 hlt2
    have HP := Lib.hid (push_mid HB.out HR.out HBW.out HPB.out hg2 ho2 hat2 hlt2)
    clear ho2 hg2 hat2 hlt2
    obtain ⟨hb2, hbf2, hbl2, hgb2, hbg2, z0, z1, z2, f0, f1, f2, p0, p1, p2, hgp2, hpg2, hbp2⟩ := HP.out.1
    refine hK.out _ _ ⟨p0, p1, p2⟩ (fun hHeld => ?_)
    clear hK K
    try simp only [Act.put, List.setIfInBounds_toArray, List.set_cons_zero, List.set_cons_succ]
    refine wpAnyH_take (i := 5) (oi := ({ dst := some 13, op := Op.indexAddr 24 (Operand.tmp 12) (Operand.tmp 10), type := 0, pos := p, after := #[{ on := 4, ground := Ground.data }, { on := 2, ground := Ground.data }, { on := 0, ground := Ground.phase }, { on := 1, ground := Ground.phase }, { on := 2, ground := Ground.phase }, { on := 3, ground := Ground.phase }, { on := 4, ground := Ground.phase }, { on := 7, ground := Ground.gcOnly Departure.appendInPlace }], guard := none } : Oper)) (v := .pointer (some ⟨g2, k * 3, none⟩)) rfl (by kernel_rfl) (by kernel_rfl) (by kernel_rfl) (fun _ _ _ h => h) (Or.inl ⟨by rfl, fun w hSw => ?_⟩) hHeld ?_
    · (try dsimp only at hSw)
      go_simp
    try simp only [Act.put, List.setIfInBounds_toArray, List.set_cons_zero, List.set_cons_succ]
    refine wpAnyH_ready (rs := [6, 7]) (by kernel_rfl) (by simp) ?_
    refine AllReadyH.cons (o := ({ dst := none, op := Op.store 26 (Operand.tmp 13) (Operand.tmp 9), type := 0, pos := p, after := #[{ on := 5, ground := Ground.data }, { on := 1, ground := Ground.data }, { on := 4, ground := Ground.chain }, { on := 0, ground := Ground.phase }, { on := 1, ground := Ground.phase }, { on := 2, ground := Ground.phase }, { on := 3, ground := Ground.phase }, { on := 4, ground := Ground.phase }, { on := 7, ground := Ground.gcOnly Departure.appendInPlace }], guard := none } : Oper)) rfl (fun K hK => ?_) ?_
    · go_simp
      refine hK.out _ _ (by simp only [keepS, hpg2, ne_eq, not_false_eq_true, p0, p1, p2, and_self]) (fun hHeld => ?_)
      clear hK K
      try simp only [Act.put, List.setIfInBounds_toArray, List.set_cons_zero, List.set_cons_succ]
      refine wpAnyH_ready (rs := [7]) (by kernel_rfl) (by simp) ?_
      refine AllReadyH.cons (o := ({ dst := none, op := Op.store 24 (Operand.tmp 2) (Operand.tmp 12), type := 0, pos := p, after := #[{ on := 4, ground := Ground.data }, { on := 4, ground := Ground.chain }, { on := 6, ground := Ground.textOnly Departure.appendInPlace }, { on := 0, ground := Ground.phase }, { on := 1, ground := Ground.phase }, { on := 2, ground := Ground.phase }, { on := 3, ground := Ground.phase }, { on := 4, ground := Ground.phase }, { on := 5, ground := Ground.textOnly Departure.appendInPlace }, { on := 6, ground := Ground.textOnly Departure.appendInPlace }], guard := none } : Oper)) rfl (fun K hK => ?_) AllReadyH.nil
      go_simp
      refine hK.out _ _ (by simp only [keepS, hpg2, hbp2, ne_eq, not_false_eq_true, p0, p1, p2, and_self]) (fun hHeld => ?_)
      clear hK K
      refine wpAnyH_done (by kernel_rfl) ?_ _
      exact HP.out.2.1 R HRR.out
    · refine AllReadyH.cons (o := ({ dst := none, op := Op.store 24 (Operand.tmp 2) (Operand.tmp 12), type := 0, pos := p, after := #[{ on := 4, ground := Ground.data }, { on := 4, ground := Ground.chain }, { on := 6, ground := Ground.textOnly Departure.appendInPlace }, { on := 0, ground := Ground.phase }, { on := 1, ground := Ground.phase }, { on := 2, ground := Ground.phase }, { on := 3, ground := Ground.phase }, { on := 4, ground := Ground.phase }, { on := 5, ground := Ground.textOnly Departure.appendInPlace }, { on := 6, ground := Ground.textOnly Departure.appendInPlace }], guard := none } : Oper)) rfl (fun K hK => ?_) AllReadyH.nil
      go_simp
      refine hK.out _ _ (by simp only [keepS, hbp2, ne_eq, not_false_eq_true, p0, p1, p2, and_self]) (fun hHeld => ?_)
      clear hK K
      try simp only [Act.put, List.setIfInBounds_toArray, List.set_cons_zero, List.set_cons_succ]
      refine wpAnyH_ready (rs := [6]) (by kernel_rfl) (by simp) ?_
      refine AllReadyH.cons (o := ({ dst := none, op := Op.store 26 (Operand.tmp 13) (Operand.tmp 9), type := 0, pos := p, after := #[{ on := 5, ground := Ground.data }, { on := 1, ground := Ground.data }, { on := 4, ground := Ground.chain }, { on := 0, ground := Ground.phase }, { on := 1, ground := Ground.phase }, { on := 2, ground := Ground.phase }, { on := 3, ground := Ground.phase }, { on := 4, ground := Ground.phase }, { on := 7, ground := Ground.gcOnly Departure.appendInPlace }], guard := none } : Oper)) rfl (fun K hK => ?_) AllReadyH.nil
      go_simp
      refine hK.out _ _ (by simp only [keepS, hpg2, hbp2, ne_eq, not_false_eq_true, p0, p1, p2, and_self]) (fun hHeld => ?_)
      clear hK K
      refine wpAnyH_done (by kernel_rfl) ?_ _
      exact HP.out.2.2 R HRR.out
  · refine AllReadyH.cons (o := ({ dst := some 11, op := Op.buildSlice 24 1 #[(0, Operand.const (Value.agg #[Value.int IntKind.i64 0, Value.string ⟨#[]⟩, Value.slice none 0 0]))], type := 24, pos := p, after := #[], guard := none } : Oper)) rfl (fun K hK => ?_) AllReadyH.nil
    go_simp
    refine hK.out _ _ HS1.out (fun hHeld => ?_)
    clear hK K
    try simp only [Act.put, List.setIfInBounds_toArray, List.set_cons_zero, List.set_cons_succ]
    refine wpAnyH_ready (rs := [0]) (by kernel_rfl) (by simp) ?_
    refine AllReadyH.cons (o := ({ dst := some 8, op := Op.load 24 (Operand.tmp 2), type := 24, pos := p, after := #[], guard := none } : Oper)) rfl (fun K hK => ?_) AllReadyH.nil
    go_simp
    refine hK.out _ _ HS1.out (fun hHeld => ?_)
    clear hK K
    try simp only [Act.put, List.setIfInBounds_toArray, List.set_cons_zero, List.set_cons_succ]
    refine wpAnyH_take (i := 2) (oi := ({ dst := some 10, op := Op.call { callee := Callee.builtin Builtin.len, args := #[Operand.tmp 8], argTypes := #[24] }, type := 3, pos := p, after := #[{ on := 0, ground := Ground.data }], guard := none } : Oper)) (v := .int .i64 (k : Int)) rfl (by kernel_rfl) (by kernel_rfl) (by kernel_rfl) (fun _ _ _ h => h) (Or.inl ⟨by rfl, fun w hSw => ?_⟩) hHeld ?_
    · (try dsimp only at hSw)
      go_simp
    try simp only [Act.put, List.setIfInBounds_toArray, List.set_cons_zero, List.set_cons_succ]
    refine wpAnyH_ready (rs := [4]) (by kernel_rfl) (by simp) ?_
    refine AllReadyH.cons (o := ({ dst := some 12, op := Op.call { callee := Callee.builtin Builtin.append, args := #[Operand.tmp 8, Operand.tmp 11], argTypes := #[24, 24] }, type := 24, pos := p, after := #[{ on := 0, ground := Ground.data }, { on := 3, ground := Ground.data }, { on := 0, ground := Ground.phase }, { on := 1, ground := Ground.phase }, { on := 2, ground := Ground.phase }, { on := 3, ground := Ground.phase }], guard := none } : Oper)) rfl (fun K hK => ?_) AllReadyH.nil
    refine step_append_lies _ (by rfl) _ _ _ (by rfl) n₀ 26 i0 _ 3 48 Try.underlying24 HI.out.1 HI.out.2.1 HI.out.2.2.1 HI.out.2.2.2 rfl (by decide) (.slice AO k co) k xs (by rfl) HO1.out ⟨W.heap.size, 0, none⟩ 1 1 [.int .i64 0, .string ⟨#[]⟩, .slice none 0 0] (by rfl) (by rfl) (World.news_of_block (heap_alloc_new W.drew _)) zero_one (by decide) CM.out CB.out CS.out (W.heap.size + 1) (by simp) ?_
    intro g2 cap2 W2 ho2 hg2 hat2 hlt2
    have HP := Lib.hid (push_mid HB.out HR.out HBW.out HPB.out hg2 ho2 hat2 hlt2)
    clear ho2 hg2 hat2 hlt2
    obtain ⟨hb2, hbf2, hbl2, hgb2, hbg2, z0, z1, z2, f0, f1, f2, p0, p1, p2, hgp2, hpg2, hbp2⟩ := HP.out.1
    refine hK.out _ _ ⟨p0, p1, p2⟩ (fun hHeld => ?_)
    clear hK K
    try simp only [Act.put, List.setIfInBounds_toArray, List.set_cons_zero, List.set_cons_succ]
    refine wpAnyH_take (i := 5) (oi := ({ dst := some 13, op := Op.indexAddr 24 (Operand.tmp 12) (Operand.tmp 10), type := 0, pos := p, after := #[{ on := 4, ground := Ground.data }, { on := 2, ground := Ground.data }, { on := 0, ground := Ground.phase }, { on := 1, ground := Ground.phase }, { on := 2, ground := Ground.phase }, { on := 3, ground := Ground.phase }, { on := 4, ground := Ground.phase }, { on := 7, ground := Ground.gcOnly Departure.appendInPlace }], guard := none } : Oper)) (v := .pointer (some ⟨g2, k * 3, none⟩)) rfl (by kernel_rfl) (by kernel_rfl) (by kernel_rfl) (fun _ _ _ h => h) (Or.inl ⟨by rfl, fun w hSw => ?_⟩) hHeld ?_
    · (try dsimp only at hSw)
      go_simp
    try simp only [Act.put, List.setIfInBounds_toArray, List.set_cons_zero, List.set_cons_succ]
    refine wpAnyH_ready (rs := [6, 7]) (by kernel_rfl) (by simp) ?_
    refine AllReadyH.cons (o := ({ dst := none, op := Op.store 26 (Operand.tmp 13) (Operand.tmp 9), type := 0, pos := p, after := #[{ on := 5, ground := Ground.data }, { on := 1, ground := Ground.data }, { on := 4, ground := Ground.chain }, { on := 0, ground := Ground.phase }, { on := 1, ground := Ground.phase }, { on := 2, ground := Ground.phase }, { on := 3, ground := Ground.phase }, { on := 4, ground := Ground.phase }, { on := 7, ground := Ground.gcOnly Departure.appendInPlace }], guard := none } : Oper)) rfl (fun K hK => ?_) ?_
    · go_simp
      refine hK.out _ _ (by simp only [keepS, hpg2, ne_eq, not_false_eq_true, p0, p1, p2, and_self]) (fun hHeld => ?_)
      clear hK K
      try simp only [Act.put, List.setIfInBounds_toArray, List.set_cons_zero, List.set_cons_succ]
      refine wpAnyH_ready (rs := [7]) (by kernel_rfl) (by simp) ?_
      refine AllReadyH.cons (o := ({ dst := none, op := Op.store 24 (Operand.tmp 2) (Operand.tmp 12), type := 0, pos := p, after := #[{ on := 4, ground := Ground.data }, { on := 4, ground := Ground.chain }, { on := 6, ground := Ground.textOnly Departure.appendInPlace }, { on := 0, ground := Ground.phase }, { on := 1, ground := Ground.phase }, { on := 2, ground := Ground.phase }, { on := 3, ground := Ground.phase }, { on := 4, ground := Ground.phase }, { on := 5, ground := Ground.textOnly Departure.appendInPlace }, { on := 6, ground := Ground.textOnly Departure.appendInPlace }], guard := none } : Oper)) rfl (fun K hK => ?_) AllReadyH.nil
      go_simp
      refine hK.out _ _ (by simp only [keepS, hpg2, hbp2, ne_eq, not_false_eq_true, p0, p1, p2, and_self]) (fun hHeld => ?_)
      clear hK K
      refine wpAnyH_done (by kernel_rfl) ?_ _
      exact HP.out.2.1 R HRR.out
    · refine AllReadyH.cons (o := ({ dst := none, op := Op.store 24 (Operand.tmp 2) (Operand.tmp 12), type := 0, pos := p, after := #[{ on := 4, ground := Ground.data }, { on := 4, ground := Ground.chain }, { on := 6, ground := Ground.textOnly Departure.appendInPlace }, { on := 0, ground := Ground.phase }, { on := 1, ground := Ground.phase }, { on := 2, ground := Ground.phase }, { on := 3, ground := Ground.phase }, { on := 4, ground := Ground.phase }, { on := 5, ground := Ground.textOnly Departure.appendInPlace }, { on := 6, ground := Ground.textOnly Departure.appendInPlace }], guard := none } : Oper)) rfl (fun K hK => ?_) AllReadyH.nil
      go_simp
      refine hK.out _ _ (by simp only [keepS, hbp2, ne_eq, not_false_eq_true, p0, p1, p2, and_self]) (fun hHeld => ?_)
      clear hK K
      try simp only [Act.put, List.setIfInBounds_toArray, List.set_cons_zero, List.set_cons_succ]
      refine wpAnyH_ready (rs := [6]) (by kernel_rfl) (by simp) ?_
      refine AllReadyH.cons (o := ({ dst := none, op := Op.store 26 (Operand.tmp 13) (Operand.tmp 9), type := 0, pos := p, after := #[{ on := 5, ground := Ground.data }, { on := 1, ground := Ground.data }, { on := 4, ground := Ground.chain }, { on := 0, ground := Ground.phase }, { on := 1, ground := Ground.phase }, { on := 2, ground := Ground.phase }, { on := 3, ground := Ground.phase }, { on := 4, ground := Ground.phase }, { on := 7, ground := Ground.gcOnly Departure.appendInPlace }], guard := none } : Oper)) rfl (fun K hK => ?_) AllReadyH.nil
      go_simp
      refine hK.out _ _ (by simp only [keepS, hpg2, hbp2, ne_eq, not_false_eq_true, p0, p1, p2, and_self]) (fun hHeld => ?_)
      clear hK K
      refine wpAnyH_done (by kernel_rfl) ?_ _
      exact HP.out.2.2 R HRR.out
end Go.Proofs.Ytbnghkgfbjipdaa
