/- The occurrences of constructors as a list, what it says of ConArity; and what a loop outside keeps through a range over a function inside. No condition. The contract of the program's own constructorsOf: it answers every question about a first occurrence as the list of all occurrences does. Conditions: fewer than 2^40 nodes in each body; no string shares the memory of the program. The contracts of the program's own constructorsOf and ConArity. Conditions: fewer than 2^40 nodes in each body; no string shares the memory of the program. The contract of the program's own demandsOf: two maps, of the first rules by their names and of the numbers of arguments by the constructors' names. Conditions: fewer than 2^40 nodes in each body, fewer than 2^40 rules; no string shares the memory of the program. -/
import Derived.Test.YtmndlhbgacgnlaaNest
import Derived.Test.YtmndlhbgacgnlaaOnce
import Derived.Test.YtmndlhbgacgnlaaOwnSize
import Derived.Test.YtmndlhbgacgnlaaRuCon
import Derived.Test.YtmndlhbgacgnlaaOwnRuFind
import Derived.Test.YtmndlhbgacgnlaaRuLight
import Derived.Test.YtmndlhbgacgnlaaRuGet
import Derived.Test.YtmndlhbgacgnlaaHoldsRuFits
import Derived.Deep.RegionLaw
namespace Go.Proofs.Ytmndlhbgacgnlaa
open Go Go.RowKit

abbrev Cn : Type := ByteArray × Nat
def Cn.enc (x : Cn) : Array Value := #[.string x.1, .int .i64 (x.2 : Int)]
def conOf (e : Ex) : Option Cn := if e.kind = 2 then some (e.name, e.args.length) else none
def headOf (r : Ru) : List Cn := if r.con.size = 0 then [] else [(r.con, r.vars.length)]
def bodyOf (e : Ex) : List Cn := (exNodes e).filterMap conOf
def consRu (r : Ru) : List Cn := headOf r ++ bodyOf r.body
def consAll (l : List Ru) : List Cn := l.flatMap consRu
def cntR (l : List Ru) : Nat := (l.map (fun r => exSize r.body + 1)).sum
theorem cntR_snoc (l : List Ru) (r : Ru) : cntR (l ++ [r]) = cntR l + (exSize r.body + 1) := by simp [cntR]
theorem cntR_take (l : List Ru) (k : Nat) : cntR (l.take k) ≤ cntR l := by
  have h : cntR l = cntR (l.take k) + cntR (l.drop k) := by rw [cntR, cntR, cntR, ← List.sum_append, ← List.map_append, List.take_append_drop]
  omega
theorem consAll_snoc (l : List Ru) (r : Ru) : consAll (l ++ [r]) = consAll l ++ consRu r := by simp [consAll]

/-- What an answer is. -/
def arOf : Option Cn → Int
  | some x => (x.2 : Int)
  | none => -1
theorem arOf_none : arOf none = -1 := rfl
theorem arOf_some (x : Cn) : arOf (some x) = (x.2 : Int) := rfl
theorem arOf_app (A B : List Cn) (q : Cn → Bool) : arOf ((A ++ B).find? q) = if 0 ≤ arOf (A.find? q) then arOf (A.find? q) else arOf (B.find? q) := by
  rw [List.find?_append]
  cases h : A.find? q with
  | none => simp [arOf]
  | some x => simp [arOf]
def isC (c : ByteArray) (x : Cn) : Bool := decide (x.1 = c)
theorem conE_find (c : ByteArray) (n : Nat) : (∀ e : Ex, exSize e ≤ n → conE c e = arOf ((bodyOf e).find? (isC c))) ∧ (∀ l : List Ex, exSizes l ≤ n → conL c l = arOf (((exNodesL l).filterMap conOf).find? (isC c))) := by
  induction n with
  | zero =>
    refine ⟨fun e h => by have := exSize_pos e; omega, fun l h => ?_⟩
    cases l with
    | nil => rw [conL]; simp [exNodesL, arOf]
    | cons e r => rw [exSizes] at h; have := exSize_pos e; omega
  | succ n ih =>
    have hE : ∀ e : Ex, exSize e ≤ n + 1 → conE c e = arOf ((bodyOf e).find? (isC c)) := by
      intro e h
      cases e with
      | mk k s l =>
        rw [exSize] at h
        rw [conE, bodyOf, exNodes, ih.2 l (by omega)]
        by_cases hk : k = 2
        · by_cases hs : s = c
          · simp [hk, hs, conOf, Ex.kind, Ex.name, Ex.args, isC, arOf]
          · simp [hk, hs, conOf, Ex.kind, Ex.name, Ex.args, isC]
        · simp [hk, conOf, Ex.kind]
    refine ⟨hE, ?_⟩
    intro l
    induction l with
    | nil => intro _; rw [conL]; simp [exNodesL, arOf]
    | cons e r ihl =>
      intro h
      rw [exSizes] at h
      rw [conL, exNodesL, List.filterMap_append, arOf_app, hE e (by omega), ihl (by omega)]
      rfl
theorem conR_find (c : ByteArray) : ∀ l : List Ru, conR c l = arOf ((consAll l).find? (isC c)) := by
  intro l
  induction l with
  | nil => rfl
  | cons r t ih =>
    rw [conR, show consAll (r :: t) = (headOf r ++ bodyOf r.body) ++ consAll t by simp [consAll, consRu], arOf_app, arOf_app, ih, (conE_find c _).1 r.body (Nat.le_refl _)]
    unfold headOf
    by_cases h0 : r.con.size = 0
    · have : ¬ (r.con = c ∧ c.size ≠ 0) := by rintro ⟨rfl, h⟩; exact h h0
      rw [if_neg this, if_pos h0]
      simp [arOf_none]
    · rw [if_neg h0]
      by_cases hc : r.con = c
      · rw [if_pos ⟨hc, by rw [← hc]; exact h0⟩]; simp [isC, hc, arOf_some]
      · rw [if_neg (fun h => hc h.1)]; simp [isC, hc, arOf_none]
theorem find_map {A B : List Ex} (h : ∀ q : Ex → Bool, A.find? q = B.find? q) (q : Cn → Bool) : (A.filterMap conOf).find? q = (B.filterMap conOf).find? q := by
  rw [List.find?_filterMap, List.find?_filterMap, h]
theorem find_apps {A A2 B B2 : List Cn} (h1 : ∀ q, A.find? q = A2.find? q) (h2 : ∀ q, B.find? q = B2.find? q) (q : Cn → Bool) : (A ++ B).find? q = (A2 ++ B2).find? q := by
  rw [List.find?_append, List.find?_append, h1, h2]

/-- The constructors among what was handed out. -/
def consO {wo : World} (ys : List (It wo)) : List Cn := (ys.map It.ex).filterMap conOf
theorem consO_yes {wo : World} (ys : List (It wo)) (x : It wo) (h : x.ex.kind = 2) : consO (ys ++ [x]) = consO ys ++ [(x.ex.name, x.ex.args.length)] := by simp [consO, conOf, h]
theorem consO_no {wo : World} (ys : List (It wo)) (x : It wo) (h : ¬ x.ex.kind = 2) : consO (ys ++ [x]) = consO ys := by simp [consO, conOf, h]
theorem consO_len {wo : World} (ys : List (It wo)) : (consO ys).length ≤ ys.length := by
  have := List.length_filterMap_le conOf (ys.map It.ex)
  simpa [consO] using this
theorem consAll_split {l : List Ru} {i : Nat} {r : Ru} (h : l[i]? = some r) : consAll l = consAll (l.take i) ++ (headOf r ++ (bodyOf r.body ++ consAll (l.drop (i + 1)))) := by
  obtain ⟨h1, h2⟩ := List.getElem?_eq_some_iff.1 h
  have : l = l.take i ++ (r :: l.drop (i + 1)) := by rw [← h2, ← List.drop_eq_getElem_cons h1, List.take_append_drop]
  conv => lhs; rw [this]
  simp [consAll, consRu]
theorem step_find {wo : World} {pre1 C : List Cn} {r : Ru} {ys : List (It wo)} (h1 : ∀ q, pre1.find? q = (C ++ headOf r).find? q) (h2 : ∀ q : Ex → Bool, (ys.map It.ex).find? q = (exNodes r.body).find? q) (q : Cn → Bool) : (pre1 ++ consO ys).find? q = (C ++ consRu r).find? q := by
  rw [consRu, ← List.append_assoc]
  exact find_apps h1 (find_map h2) q
theorem stop_find {wo : World} {pre1 : List Cn} {l : List Ru} {i : Nat} {r : Ru} {ys : List (It wo)} {rest : List Ex} (hg : l[i]? = some r) (h1 : ∀ q, pre1.find? q = (consAll (l.take i) ++ headOf r).find? q) (h2 : ∀ q : Ex → Bool, (ys.map It.ex ++ rest).find? q = (exNodes r.body).find? q) (q : Cn → Bool) : ((pre1 ++ consO ys) ++ (rest.filterMap conOf ++ consAll (l.drop (i + 1)))).find? q = (consAll l).find? q := by
  rw [consAll_split hg, show (pre1 ++ consO ys) ++ (rest.filterMap conOf ++ consAll (l.drop (i + 1))) = pre1 ++ ((ys.map It.ex ++ rest).filterMap conOf ++ consAll (l.drop (i + 1))) by simp [consO], ← List.append_assoc (consAll _)]
  exact find_apps h1 (find_apps (find_map h2) (fun _ => rfl)) q
theorem head_find {pre C : List Cn} {r : Ru} (h : ∀ q, pre.find? q = C.find? q) (hc : ¬ r.con.size = 0) (q : Cn → Bool) : (pre ++ [(r.con, r.vars.length)]).find? q = (C ++ headOf r).find? q := by
  rw [headOf, if_neg hc]
  exact find_apps h (fun _ => rfl) q
theorem nohead_find {pre C : List Cn} {r : Ru} (h : ∀ q, pre.find? q = C.find? q) (hc : r.con.size = 0) (q : Cn → Bool) : pre.find? q = (C ++ headOf r).find? q := by
  rw [headOf, if_pos hc, List.append_nil]
  exact h q
theorem halt_find {pre : List Cn} {l : List Ru} {i : Nat} {r : Ru} (hg : l[i]? = some r) (h : ∀ q, pre.find? q = (consAll (l.take i)).find? q) (hc : ¬ r.con.size = 0) (q : Cn → Bool) : ((pre ++ [(r.con, r.vars.length)]) ++ (bodyOf r.body ++ consAll (l.drop (i + 1)))).find? q = (consAll l).find? q := by
  rw [consAll_split hg, ← List.append_assoc (consAll _)]
  exact find_apps (head_find h hc) (fun _ => rfl) q
theorem asC_no (k : Int) (hk : ¬ k = 2) (v : Value) (w : World) : (Instr.typeAssert (.iface (formTy k) v) 79 93 true).run Try.prog w = .ok (.tuple #[.agg #[.string ⟨#[]⟩, .slice none 0 0], .bool false]) w := by
  unfold formTy
  by_cases h1 : k = 1
  · rw [if_pos h1]; exact asVC v w
  · by_cases h3 : k = 3
    · rw [if_neg h1, if_neg hk, if_pos h3]; exact asKC v w
    · by_cases h4 : k = 4
      · rw [if_neg h1, if_neg hk, if_neg h3, if_pos h4]; exact asSC v w
      · rw [if_neg h1, if_neg hk, if_neg h3, if_neg h4]; exact asOC v w

section
variable {α : Type} {wo : World}
/-- What the loop outside keeps for itself while an iterator inside is under way: its own blocks K stand as in w1. -/
def Inn (G : List α → List Nat → World → Prop) (n₀ : Nat) (K : List Nat) (w1 : World) (pre : List α) (M : List Nat) (W : World) : Prop :=
  ∃ M', G pre M' W ∧ (∀ k ∈ M, k ∈ M') ∧ (∀ k ∈ K, k ∈ M' ∧ k ∉ M ∧ k < W.heap.size ∧ W.heap[k]? = w1.heap[k]?) ∧ (∀ k ∈ M', n₀ ≤ k ∧ (k ∈ M ∨ k < W.heap.size)) ∧ n₀ ≤ W.heap.size
theorem Inn.minds {G : List α → List Nat → World → Prop} {n₀ : Nat} {K : List Nat} {w1 : World} (hG : Minds G) : Minds (Inn G n₀ K w1) := by
  rintro pre M M2 A B ⟨M', g1, g2, g3, g4, g5⟩ hf hm
  refine ⟨M2 ++ M'.filter (fun k => decide (k < A.heap.size)), hG _ _ _ _ _ g1 (hf.mono (fun k hk => Or.inl (g2 k hk))) (fun k hk => ?_), fun k hk => by simp [hk], fun k hk => ?_, fun k hk => ?_, Nat.le_trans g5 hf.size⟩
  · simp only [List.mem_append, List.mem_filter] at hk
    rcases hk with hk | hk
    · exact (hm k hk).imp (g2 k) id
    · exact Or.inl hk.1
  · obtain ⟨h1, h2, h3, h4⟩ := g3 k hk
    refine ⟨by simp [h1, h3], fun h => (hm k h).elim h2 (fun h => by omega), Nat.lt_of_lt_of_le h3 hf.size, (hf.block k h3 h2).trans h4⟩
  · simp only [List.mem_append, List.mem_filter, decide_eq_true_eq] at hk
    rcases hk with hk | hk
    · refine ⟨(hm k hk).elim (fun h => (g4 k (g2 k h)).1) (fun h => by omega), Or.inl hk⟩
    · exact ⟨(g4 k hk.1).1, Or.inr (Nat.lt_of_lt_of_le hk.2 hf.size)⟩
/-- A round of the loop inside: the loop outside is told, and keeps what is its own. -/
theorem Inn.turn {G2 : List α → List Nat → World → Prop} {n₀ : Nat} {K : List Nat} {w1 : World} {pre2 : List α} {M M' : List Nat} {W W2 : World} (g2 : ∀ k ∈ M, k ∈ M') (g3 : ∀ k ∈ K, k ∈ M' ∧ k ∉ M ∧ k < W.heap.size ∧ W.heap[k]? = w1.heap[k]?) (g4 : ∀ k ∈ M', n₀ ≤ k ∧ (k ∈ M ∨ k < W.heap.size)) (g5 : n₀ ≤ W.heap.size) (h : G2 pre2 M' W2) (hk : Kept n₀ M' W W2) : Inn G2 n₀ K w1 pre2 M W2 ∧ Kept n₀ M W W2 := by
  refine ⟨⟨M', h, g2, fun k hk2 => ?_, fun k hk2 => ⟨(g4 k hk2).1, (g4 k hk2).2.imp id (fun h => Nat.lt_of_lt_of_le h hk.1.size)⟩, Nat.le_trans g5 hk.1.size⟩, hk.1, fun k hk2 => hk.2 k (g2 k hk2)⟩
  obtain ⟨h1, h2, h3, h4⟩ := g3 k hk2
  exact ⟨h1, h2, Nat.lt_of_lt_of_le h3 hk.1.size, (hk.2 k h1).trans h4⟩
end
/-- A call of yield, wherever it stands, where nothing is asked of the depth. -/
theorem yield_wide {F : Fence} {m : Nat} {P : Program} {l : Nat} {args : Array Value} {W : World} {R : Ending → World → Prop} (hF : F = Fence.wide) (h : YieldAt F m P l args W R) (l2 m2 : Nat) : YieldAt (F.inRound l2) m2 P l args W R := by
  subst hF
  obtain ⟨fn, tmps, assign, body, h1, h2, h3⟩ := h
  exact ⟨fn, tmps, assign, body, h1, h2, fun c cs _ => h3 c cs (fun d hd => by simp [Fence.wide] at hd)⟩
end Go.Proofs.Ytmndlhbgacgnlaa

namespace Go.Proofs.Ytmndlhbgacgnlaa
open Go Go.RowKit Go.Shelf
attribute [local go_sem] Oper.semAt_some

/-- What the loop over the rules keeps. -/
structure Ob (J : List Cn → List Nat → World → Prop) (wo : World) (lp By : Nat) (Ds : List Nat) (pre : List Cn) (M : List Nat) (W : World) : Prop where
  j : J pre M W
  lt : ∀ k ∈ M, k < W.heap.size
  n0 : ∀ k ∈ M, wo.heap.size ≤ k
  low : Below wo.heap.size wo W
  byM : By ∈ M
  box : Boxed W By 177 (.func (.yield lp) #[] #[])
  marks : Marks wo.heap.size Ds M W
theorem Ob.grow {J : List Cn → List Nat → World → Prop} {wo : World} {lp By : Nat} {Ds : List Nat} {pre : List Cn} {M : List Nat} {W W2 : World} (h : Ob J wo lp By Ds pre M W) (hJ : Minds J) (hb : Below W.heap.size W W2) (ks : List Nat) (hk : ∀ k ∈ ks, W.heap.size ≤ k ∧ k < W2.heap.size) : Ob J wo lp By Ds pre (ks ++ M) W2 := by
  refine ⟨hJ _ _ _ _ _ h.j (Fr.of_below hb) (fun k hk2 => ?_), fun k hk2 => ?_, fun k hk2 => ?_, h.low.trans (hb.mono h.low.size), by simp [h.byM], box_on h.box (hb.block _ h.box.lt), h.marks.1, fun D hD => ?_⟩
  · rcases List.mem_append.1 hk2 with h2 | h2
    · exact Or.inr (hk k h2).1
    · exact Or.inl h2
  · rcases List.mem_append.1 hk2 with h2 | h2
    · exact (hk k h2).2
    · exact Nat.lt_of_lt_of_le (h.lt k h2) hb.size
  · rcases List.mem_append.1 hk2 with h2 | h2
    · exact Nat.le_trans h.low.size (hk k h2).1
    · exact h.n0 k h2
  · obtain ⟨h1, h2, h3⟩ := h.marks.2 D hD
    exact ⟨by simp [h1], (hb.block D (h.lt D h1)).trans h2, h3⟩
theorem Ob.kept {J J2 : List Cn → List Nat → World → Prop} {wo : World} {lp By : Nat} {Ds : List Nat} {pre pre2 : List Cn} {M : List Nat} {W W2 : World} (h : Ob J wo lp By Ds pre M W) (hk : Kept wo.heap.size M W W2) (hj : J2 pre2 M W2) : Ob J2 wo lp By Ds pre2 M W2 := by
  refine ⟨hj, fun k hk2 => Nat.lt_of_lt_of_le (h.lt k hk2) hk.1.size, h.n0, h.low.trans hk.1, h.byM, box_on h.box (hk.2 _ h.byM), h.marks.1, fun D hD => ?_⟩
  obtain ⟨h1, h2, h3⟩ := h.marks.2 D hD
  exact ⟨h1, (hk.2 D h1).trans h2, h3⟩

/-- Behind a range inside: what the loop over the rules keeps. -/
theorem Ob.behind {J J2 : List Cn → List Nat → World → Prop} {wo : World} {lp By D : Nat} {Ds : List Nat} {pre pre2 : List Cn} {M5 M2 M' : List Nat} {W5 X : World} (h5 : Ob J wo lp By Ds pre M5 W5) (g1 : J2 pre2 M' X) (g2 : ∀ k ∈ M2, k ∈ M') (g3 : ∀ k ∈ By :: Ds, k ∈ M' ∧ k ∉ M2 ∧ k < X.heap.size ∧ X.heap[k]? = W5.heap[k]?) (g4 : ∀ k ∈ M', wo.heap.size ≤ k ∧ (k ∈ M2 ∨ k < X.heap.size)) (hM2 : ∀ k ∈ M2, wo.heap.size ≤ k ∧ k < X.heap.size) (hD : D ∈ M2) (hK : X.heap[D]? = some (.deferred (some []))) (hlow : Below wo.heap.size W5 X) : Ob J2 wo lp By (D :: Ds) pre2 M' X := by
  obtain ⟨y1, y2, y3, y4⟩ := g3 By (by simp)
  refine ⟨g1, fun k hk => (g4 k hk).2.elim (fun h => (hM2 k h).2) id, fun k hk => (g4 k hk).1, h5.low.trans hlow, y1, box_on h5.box y4, List.nodup_cons.2 ⟨fun h => (g3 D (by simp [h])).2.1 hD, h5.marks.1⟩, fun E hE => ?_⟩
  rcases List.mem_cons.1 hE with rfl | hE
  · exact ⟨g2 _ hD, hK, (hM2 _ hD).1⟩
  · obtain ⟨e1, e2, e3, e4⟩ := g3 E (by simp [hE])
    obtain ⟨-, d2, d3⟩ := h5.marks.2 E hE
    exact ⟨e1, e4.trans d2, d3⟩

theorem kept_after {n₀ : Nat} {M : List Nat} {X Y Z : World} (h : Below X.heap.size X Y) (hl : ∀ k ∈ M, k < X.heap.size) (hn : n₀ ≤ X.heap.size) (hk : Kept n₀ M Y Z) : Kept n₀ M X Z :=
  ⟨(h.mono hn).trans hk.1, fun k hk2 => (hk.2 k hk2).trans (h.block k (hl k hk2))⟩
theorem SsIs.strs_len {w : World} {v : Value} {xs : List ByteArray} {bs : List Nat} (h : SsIs w v xs bs) : (xs.length : Int) ≤ 9223372036854775807 := by
  obtain ⟨A, c, rfl⟩ := h.slice
  have := h.strs
  omega
set_option maxRecDepth 100000 in
set_option maxHeartbeats 2000000 in
theorem cons_stops (F : Fence) (n : Nat) (hFw : F = Fence.wide) (hro : F.round = none) (hF : ∀ k, F.fn k) (hn : 9 ≤ n) (wo : World) (l : List Ru) (A : Option Addr) (m c : Nat) (bs : List Nat) (hv : RsIs wo (.slice A m c) l bs) (hsz : ∀ r ∈ l, exSize r.body ≤ 1099511627776) (hfr : ∀ z ∈ bs, ∀ o, wo.frozen? ⟨z, o, none⟩ = false) (Bp : Nat) (w : World) (hW : Below wo.heap.size wo w) (hBp : w.cell? ⟨Bp, 0, none⟩ = some (.slice A m c)) (hBl : Bp < w.heap.size) :
    SeqF F n Try.prog 127 #[.pointer (some ⟨Bp, 0, none⟩)] Cn.enc wo.heap.size (fun xs => ∀ q, xs.find? q = (consAll l).find? q) (fun pre => ∃ rest, ∀ q, (pre ++ rest).find? q = (consAll l).find? q) (cntR l) [] w := by
  intro lp J Jx W hwW hJ hJx hY h0
  have hn1 : 1 ≤ n := by omega
  have hBW : W.cell? ⟨Bp, 0, none⟩ = some (.slice A m c) := (hwW.cell (p := ⟨Bp, 0, none⟩) hBl).trans hBp
  have hbl : Bp < W.heap.size := Nat.lt_of_lt_of_le hBl hwW.size
  obtain ⟨hm, hmc, hc⟩ := hv.len
  have hm3 : (m : Int) ≤ 9223372036854775807 := by omega
  have HFW := Lib.hid hFw
  have HV := Lib.hid hv
  have HM := Lib.hid hm
  have HSZ := Lib.hid hsz
  have HFR := Lib.hid hfr
  have HY := Lib.hid hY
  have HJ := Lib.hid hJ
  have HJX := Lib.hid hJx
  have HJ0 := Lib.hid h0
  have HW := Lib.hid (hW.trans (hwW.mono hW.size))
  clear hFw hv hm hsz hfr hY hJ hJx h0 hW hwW hBp hBl
  refine callsIn_of_wp_marks Try.func127 rfl (hF _) ?_ hro
  simp only [Try.ntmps127, List.size_toArray, List.length_cons, List.length_nil, Nat.reduceAdd, Nat.reduceSub, Array.replicate_succ, Array.replicate_zero, List.push_toArray, List.append_toArray, List.nil_append, List.cons_append]
  gi_wp2
  refine wpIn_loop_ghost_k (fun k a wr => ∃ (Ds M : List Nat) (pre : List Cn) (i : Nat) (u3 u4 u5 u6 u7 u8 u12 u13 u14 u15 u16 u17 u18 u19 u20 u21 u22 u23 u24 u25 u26 u27 u28 u29 u30 u31 u32 u33 u34 u35 u36 u37 u38 u39 u40 u41 u42 u43 u44 u45 u46 u47 u48 u49 u50 u51 : Value), a = { tmps := #[.func (.yield lp) #[] #[], .pointer (some ⟨Bp, 0, none⟩), .pointer (some ⟨W.heap.size, 0, none⟩), u3, u4, u5, u6, u7, u8, .slice A m c, .int .i64 (m : Int), .int .i64 (i : Int), u12, u13, u14, u15, u16, u17, u18, u19, u20, u21, u22, u23, u24, u25, u26, u27, u28, u29, u30, u31, u32, u33, u34, u35, u36, u37, u38, u39, u40, u41, u42, u43, u44, u45, u46, u47, u48, u49, u50, u51], defers := Ds.map markOf } ∧ i ≤ m ∧ k + i = m ∧ Hid (Ob J wo lp W.heap.size Ds pre M wr) ∧ Hid (∀ q, pre.find? q = (consAll (l.take i)).find? q) ∧ Hid (pre.length ≤ cntR (l.take i))) m ?_ ?_
  · have hs : (W.alloc (.cells #[.func (.yield lp) #[] #[]] 177)).heap.size = W.heap.size + 1 := by simp
    have hlw : Below W.heap.size W (W.alloc (.cells #[.func (.yield lp) #[] #[]] 177)) := (Below.refl _ _).alloc (Nat.le_refl _) _
    have hws := HW.out.size
    refine ⟨[], [W.heap.size], [], 0, _, _, _, _, _, _, _, _, _, _, _, _, _, _, _, _, _, _, _, _, _, _, _, _, _, _, _, _, _, _, _, _, _, _, _, _, _, _, _, _, _, _, _, _, _, _, rfl, by omega, by omega, Lib.hid ⟨HJ.out _ _ _ _ _ HJ0.out (Fr.of_below hlw) (fun k hk => by simp at hk; omega), fun k hk => by simp at hk; omega, fun k hk => by simp at hk; omega, HW.out.trans (hlw.mono hws), by simp, Boxed.new W _ _, by simp, fun D hD => by cases hD⟩, Lib.hid (fun q => by simp [consAll]), Lib.hid (by simp)⟩
  · rintro gk _ wr ⟨Ds, M, pre, i, u3, u4, u5, u6, u7, u8, u12, u13, u14, u15, u16, u17, u18, u19, u20, u21, u22, u23, u24, u25, u26, u27, u28, u29, u30, u31, u32, u33, u34, u35, u36, u37, u38, u39, u40, u41, u42, u43, u44, u45, u46, u47, u48, u49, u50, u51, rfl, hi, hki, HOB, HFI, HLE⟩ JJ KK hJJ hKK
    by_cases hlt : i < m
    · obtain ⟨g, o, r, v1, v2, u, b1', hra, hsub⟩ := HV.out.get2 i (by rw [← HM.out]; exact hlt)
      obtain ⟨rfl, hbl', hget, hmem, hcs, his⟩ := hra
      have hcw := hcs.of (w' := wr) (fun mm _ _ => HOB.out.low.cell (p := ⟨g, mm, none⟩) hbl')
      obtain ⟨c0, c1, c2, c3, c4, c5, c6⟩ := hcw
      clear hcs
      obtain ⟨z1, z2, z3, hz, -, -, hp1, hp2, hp3⟩ := his.parts
      have hsl := hp1.strs_len
      obtain ⟨A1, k1, rfl⟩ := hp1.slice
      obtain ⟨A2, k2, rfl⟩ := hp2.slice
      obtain ⟨A3, q3, k3, rfl⟩ := his_slice0 hp3
      have HHP := Lib.hid hp3
      have HGET := Lib.hid hget
      have HBD := Lib.hid (HSZ.out r hmem)
      have HFB := Lib.hid (show ∀ z ∈ z3, ∀ o, wo.frozen? ⟨z, o, none⟩ = false from fun z hzz => HFR.out z (hsub z (by rw [hz]; simp [hzz])))
      obtain ⟨q1, hq1⟩ : ∃ q1, q1 = r.vars.length := ⟨_, rfl⟩
      rw [← hq1] at c2 hsl
      have HQ1 := Lib.hid hq1
      have hq1m : (q1 : Int) ≤ 9223372036854775807 := hsl
      clear hp1 hp2 hp3 his hget hmem hz hq1 hsl hsub
      have HOW := Lib.hid (show Ob J wo lp W.heap.size Ds pre (wr.heap.size :: M) (wr.alloc (.cells #[.string r.name, .string r.con, .slice A1 q1 k1, .slice A2 r.params.length k2, .int .i64 r.body.kind, .string r.body.name, .slice A3 q3 k3] 110)) from HOB.out.grow HJ.out ((Below.refl _ _).alloc (Nat.le_refl _) _) [wr.heap.size] (fun k hk => by simp at hk; subst hk; simp))
      have HLT := Lib.hid (show cntR (l.take i) + (exSize r.body + 1) ≤ cntR l by
        have := cntR_take l (i + 1)
        rw [take_ru l i r HGET.out, cntR_snoc] at this
        exact this)
      by_cases hcon : r.con.size = 0
      · have hbe := empty_yes hcon
        have HFH := Lib.hid (nohead_find (r := r) HFI.out hcon)
        clear hcon
        have HPL := Lib.hid (show pre.length ≤ cntR (l.take i) + 1 by have := HLE.out; omega)
        gi_wp2_with (gi_at_call 128; refine (nodesOnce_in F (n - 1) hF hro (by omega) _ _ _ _ _ _).mono ?_; rintro e w' ⟨rfl, rfl⟩)
        obtain ⟨W3, hW3⟩ : ∃ W3, W3 = wr.alloc (.cells #[.string r.name, .string r.con, .slice A1 q1 k1, .slice A2 r.params.length k2, .int .i64 r.body.kind, .string r.body.name, .slice A3 q3 k3] 110) := ⟨_, rfl⟩
        rw [← hW3] at HOW ⊢
        have HO3 := HOW
        have hsz3 : W3.heap.size = wr.heap.size + 1 := by rw [hW3]; simp
        clear hW3
        obtain ⟨W5, hW5⟩ : ∃ W5, W5 = onceW W3 r.body.kind r.body.name (.slice A3 q3 k3) := ⟨_, rfl⟩
        rw [← hW5]
        obtain ⟨b3, hb3⟩ : ∃ b3, b3 = wr.heap.size + 1 := ⟨_, rfl⟩
        rw [← hb3]
        have HB3 := Lib.hid (show b3 = W3.heap.size from (by rw [hb3, hsz3]))
        have hs5 : W5.heap.size = b3 + 5 := by rw [hW5, onceW_size, HB3.out]
        have hlow5 : Below W3.heap.size W3 W5 := by rw [hW5]; exact onceW_below (Below.refl _ _) (Nat.le_refl _) _ _ _
        have HO5 := Lib.hid (HO3.out.grow HJ.out hlow5 [b3 + 4, b3 + 2, b3 + 1] (fun k hk => by have := HB3.out; simp at hk; omega))
        have HW5 := Lib.hid hW5
        have HS5 := Lib.hid hs5
        clear hW5 hs5 hb3 hlow5
        have HBYL := Lib.hid HO3.out.box.lt
        refine wpIn_rangeFunc_nest hro hn1 (gf := 143) (lb := onceLb b3) rfl (hF _) (enters_of Try.func143 (by kernel_rfl) rfl)
          (once_stops F (n - 1) HFW.out hro hF (by omega) wo r.body (.slice A3 q3 k3) z3 HHP.out HBD.out HFB.out b3 W3 W5 HB3.out HW5.out HO3.out.low) (Below.refl _ _) (Nat.le_trans HO3.out.low.size (by have := HS5.out; have := HB3.out; omega)) (fun _ => rfl)
          (Inn (fun (ys : List (It wo)) M W => ys.length ≤ exSize r.body ∧ J (pre ++ consO ys) M W) wo.heap.size (W.heap.size :: Ds) W5) (fun cc ys M W6 => cc = .ret ∧ Inn (fun (ys : List (It wo)) M W => Jx (pre ++ consO ys) M W) wo.heap.size (W.heap.size :: Ds) W5 ys M W6)
          (Inn.minds (fun ys M M2 A B h hf hm => ⟨h.1, HJ.out _ _ _ _ _ h.2 hf hm⟩)) (fun cc pre M M2 A B h hf hm => ⟨h.1, Inn.minds (fun ys M M2 A B h hf hm => HJX.out _ _ _ _ _ h hf hm) pre M M2 A B h.2 hf hm⟩)
          [b3 + 4, b3 + 2, b3 + 1] ?start (fun k hk => hk) ?inm
          (fun b _ x a2 X => a2 = { tmps := #[.func (.yield lp) #[] #[], .pointer (some ⟨Bp, 0, none⟩), .pointer (some ⟨W.heap.size, 0, none⟩), u3, .pointer (some ⟨wr.heap.size, 0, none⟩), .pointer (some ⟨b, 0, none⟩), u6, u7, u8, .slice (some ⟨g, o, none⟩) m c, .int .i64 (m : Int), .int .i64 (i : Int), .bool true, .pointer (some ⟨g, o + i * 7, none⟩), .agg #[.string r.name, .string r.con, .slice A1 q1 k1, .slice A2 r.params.length k2, .int .i64 r.body.kind, .string r.body.name, .slice A3 q3 k3], .pointer (some ⟨wr.heap.size, 1, none⟩), .string r.con, .bool false, .bool false, undef, undef, undef, undef, undef, undef, undef, undef, .bool false, .pointer (some ⟨wr.heap.size, 4, none⟩), .agg #[.int .i64 r.body.kind, .string r.body.name, .slice A3 q3 k3], onceFun b3, x.val, u32, u33, u34, u35, u36, u37, u38, u39, u40, u41, u42, u43, u44, u45, u46, u47, u48, u49, u50, u51], defers := [] } ∧ X.heap[b]? = some (.cells #[.int .i64 x.ex.kind, .string x.ex.name, x.1.2.2.1] 26 (0, 0)))
          (fun b ys x a2 X l o h hl => ⟨h.1, (World.putObj_heap_other (by omega)).trans h.2⟩) ?assign ?body ?done ?stop
        case start =>
          have hj5 : J (pre ++ consO (wo := wo) []) ([b3 + 4, b3 + 2, b3 + 1] ++ wr.heap.size :: M) W5 := by rw [show consO (wo := wo) [] = [] from rfl, List.append_nil]; exact HO5.out.j
          refine ⟨_, ⟨by simp, hj5⟩, fun k hk => List.mem_append_left _ hk, fun k hk => ?_, fun k hk => ⟨HO5.out.n0 k hk, Or.inr (HO5.out.lt k hk)⟩, HO5.out.low.size⟩
          have hk3 : k ∈ wr.heap.size :: M ∧ k < W3.heap.size := by
            rcases List.mem_cons.1 hk with rfl | hk
            · exact ⟨HO3.out.byM, HBYL.out⟩
            · exact ⟨(HO3.out.marks.2 k hk).1, HO3.out.lt k (HO3.out.marks.2 k hk).1⟩
          exact ⟨List.mem_append_right _ hk3.1, by have := HB3.out; simp; omega, by have := HS5.out; have := HB3.out; omega, rfl⟩
        case inm =>
          intro k hk
          have h1 := HO3.out.low.size
          have h2 := HS5.out
          have h3 := HB3.out
          simp at hk
          omega
        case assign =>
          intro l2 ys x X KX hK
          obtain ⟨A4, c4', hu2, -, -, -⟩ := x.slice
          have hv : x.val = .agg #[.int .i64 x.ex.kind, .string x.ex.name, .slice A4 x.ex.args.length c4'] := by rw [← hu2]; rfl
          have HU2 := Lib.hid hu2
          have HV2 := Lib.hid hv
          have HKX := Lib.hid hK
          dsimp only
          rw [hv]
          clear hu2 hv hK
          gi_wp2
          refine HKX.out _ _ (Fr.alloc _ _) ⟨?_, ?_⟩
          · rw [HV2.out]
          · rw [HU2.out]; exact World.alloc_heap_new _ _
        case body =>
          rintro l2 b2 ys x _ M2 X ⟨M', g1, g2, g3, g4, g5⟩ ⟨rfl, hnx⟩ hM2 hb2 hlow2 hlen
          have hn3 : 1 ≤ n - 1 - 1 := by omega
          obtain ⟨A4, c4', hu2, -, -, -⟩ := x.slice
          obtain ⟨q4, hq4⟩ : ∃ q4, q4 = x.ex.args.length := ⟨_, rfl⟩
          rw [← hq4] at hu2
          rw [hu2] at hnx
          have hn0 : X.cell? ⟨b2, 0, none⟩ = some (.int .i64 x.ex.kind) := by simp [World.cell?, hnx]
          have hn1' : X.cell? ⟨b2, 1, none⟩ = some (.string x.ex.name) := by simp [World.cell?, hnx]
          have hn2 : X.cell? ⟨b2, 2, none⟩ = some (.slice A4 q4 c4') := by simp [World.cell?, hnx]
          have HBB := Lib.hid (box_on HO5.out.box (g3 W.heap.size (by simp)).2.2.2)
          have HBX := Lib.hid (fun (w2 : World) (hb2 : Below X.heap.size X w2) => And.intro (box_on HBB.out (hb2.block _ HBB.out.lt)).cell (box_on HBB.out (hb2.block _ HBB.out.lt)).lt)
          have HG1 := Lib.hid g1
          have HG2 := Lib.hid g2
          have HG3 := Lib.hid g3
          have HG4 := Lib.hid g4
          have HG5 := Lib.hid g5
          have HLEN := Lib.hid hlen
          have HMX := Lib.hid (fun k (hk : k ∈ M') => (g4 k hk).2.elim (fun h => Nat.lt_of_lt_of_le (hM2 k h).2 hb2) id)
          have HQ4 := Lib.hid hq4
          clear g1 g2 g3 g4 g5 hM2 hb2 hlow2 hlen hnx hu2 hq4
          by_cases hk : x.ex.kind = 2
          · have HC := Lib.hid (consO_yes ys x hk)
            have aC := asCC
            have HT := Lib.hid (show formTy x.ex.kind = 93 by rw [hk]; rfl)
            clear hk
            gi_wp2_with (gi_at_call 60; refine (at_wide HFW.out (own_form _ _ _ _ _ _) l2).mono ?_; rintro r w2 ⟨rfl, hb2⟩; rw [HT.out]; obtain ⟨hc2, hl2⟩ := HBX.out w2 hb2; have HB2 := Lib.hid hb2; clear hb2)
            obtain ⟨Wz, hWz⟩ : ∃ Wz, Wz = w2.alloc (.cells #[.string x.ex.name, .slice A4 q4 c4'] 93) := ⟨_, rfl⟩
            rw [← hWz]
            have hlz : Below X.heap.size X Wz := by rw [hWz]; exact HB2.out.trans (((Below.refl _ w2).alloc (Nat.le_refl _) _).mono HB2.out.size)
            have HLZ := Lib.hid hlz
            obtain ⟨fn, tmps, assign, body, hy, hR⟩ := yield_wide HFW.out (HY.out (pre ++ consO ys) (x.ex.name, x.ex.args.length) M' Wz (HJ.out _ _ _ _ _ HG1.out.2 (Fr.of_below hlz) (fun k hk => Or.inl hk)) (fun k hk => Nat.lt_of_lt_of_le (HMX.out k hk) hlz.size) (by have h1 := HPL.out; have h2 := HLEN.out; have h3 := HLT.out; have h4 := consO_len ys; simp at h1 ⊢; omega)) l2 (n - 1 - 1 - 1)
            have hy2 : (Instr.yield lp #[.string x.ex.name, .int .i64 (q4 : Int)]).run Try.prog Wz = .ok (.round lp fn tmps assign body) Wz := by rw [HQ4.out]; exact hy
            rw [hy2]
            refine ⟨fun _ => hn3, hR.mono ?_⟩
            clear hy hy2 hR hWz hlz
            rintro e W6 (⟨rfl, hj6, hk6⟩ | ⟨rfl, hj6, hk6⟩)
            · have HT6 := Lib.hid (Inn.turn (G2 := fun (ys : List (It wo)) M W => ys.length ≤ exSize r.body ∧ J (pre ++ consO ys) M W) (pre2 := ys ++ [x]) HG2.out HG3.out HG4.out HG5.out ⟨(by have := HLEN.out; simp; omega), (by rw [HC.out, ← List.append_assoc]; exact hj6)⟩ (kept_after HLZ.out HMX.out HG5.out hk6))
              clear hj6 hk6
              gi_wp2
              exact HT6.out
            · have HT6 := Lib.hid (Inn.turn (G2 := fun (ys : List (It wo)) M W => Jx (pre ++ consO ys) M W) (pre2 := ys ++ [x]) HG2.out HG3.out HG4.out HG5.out (by rw [HC.out, ← List.append_assoc]; exact hj6) (kept_after HLZ.out HMX.out HG5.out hk6))
              clear hj6 hk6
              gi_wp2
              exact ⟨⟨rfl, HT6.out.1⟩, HT6.out.2⟩
          · have HC := Lib.hid (consO_no ys x hk)
            have aC := asC_no x.ex.kind hk
            clear hk
            gi_wp2_with (gi_at_call 60; refine (at_wide HFW.out (own_form _ _ _ _ _ _) l2).mono ?_; rintro r w2 ⟨rfl, hb2⟩; obtain ⟨hc2, hl2⟩ := HBX.out w2 hb2; have HB2 := Lib.hid hb2; clear hb2)
            have hlz : Below X.heap.size X (w2.alloc (.cells #[.string ⟨#[]⟩, .slice none 0 0] 93)) := HB2.out.trans (((Below.refl _ w2).alloc (Nat.le_refl _) _).mono HB2.out.size)
            exact Inn.turn (G2 := fun (ys : List (It wo)) M W => ys.length ≤ exSize r.body ∧ J (pre ++ consO ys) M W) (pre2 := ys ++ [x]) HG2.out HG3.out HG4.out HG5.out ⟨(by have := HLEN.out; simp; omega), (by rw [HC.out]; exact HJ.out _ _ _ _ _ HG1.out.2 (Fr.of_below hlz) (fun k hk => Or.inl hk))⟩ ⟨hlz.mono HG5.out, fun k hk => hlz.block k (HMX.out k hk)⟩
        case done =>
          rintro D ys M2 X hD hDM hM2 hS ⟨M', g1, g2, g3, g4, g5⟩ hlow2 hK
          have HLY := Lib.hid g1.1
          have HO6 := Lib.hid (HO5.out.behind g1.2 g2 g3 g4 hM2 hDM hK hlow2)
          have HFI6 := Lib.hid (step_find HFH.out hS)
          clear g1 g2 g3 g4 g5 hM2 hDM hK hlow2 hS hD
          gi_wp2
          refine Handed.intro (gk - 1) (by omega) (hJJ _ _ _ ⟨D :: Ds, M', pre ++ consO ys, i + 1, _, _, _, _, _, _, _, _, _, _, _, _, _, _, _, _, _, _, _, _, _, _, _, _, _, _, _, _, _, _, _, _, _, _, _, _, _, _, _, _, _, _, _, _, _, _, rfl, by omega, by omega, HO6, Lib.hid (fun q => ?_), Lib.hid ?_⟩)
          · rw [take_ru l i r HGET.out, consAll_snoc]
            exact HFI6.out q
          · rw [take_ru l i r HGET.out, cntR_snoc]
            have h1 := HPL.out
            have h2 := HLY.out
            have h3 := consO_len ys
            simp at h1 ⊢
            omega
        case stop =>
          rintro D cc ys M2 X hD hDM hM2 ⟨rest, hS⟩ ⟨rfl, M', g1, g2, g3, g4, g5⟩ hlow2 hK
          have HO6 := Lib.hid (HO5.out.behind g1 g2 g3 g4 hM2 hDM hK hlow2)
          have HSF := Lib.hid (stop_find HGET.out HFH.out hS)
          clear g1 g2 g3 g4 g5 hM2 hDM hK hlow2 hS hD
          gi_wp2
          exact leave_marks rfl (D :: Ds) X HO6.out.marks.1 (fun E hE => (HO6.out.marks.2 E hE).2.1) (fun v Y hf => ⟨⟨_, rfl⟩, .inr ⟨_, M', ⟨_, HSF.out⟩, HJX.out _ _ _ _ _ HO6.out.j (hf.mono (fun k hk => Or.inl (HO6.out.marks.2 k hk).1)) (fun k hk => Or.inl hk)⟩⟩)
      · have hbe := empty_not hcon
        have HFH := Lib.hid (head_find (r := r) HFI.out hcon)
        have HSTOP := Lib.hid (halt_find HGET.out HFI.out hcon)
        clear hcon
        have HPL := Lib.hid (show (pre ++ [(r.con, r.vars.length)]).length ≤ cntR (l.take i) + 1 by have := HLE.out; simp; omega)
        have hbox := HOW.out.box.cell
        gi_wp2_with fail
        obtain ⟨Wy, hWy⟩ : ∃ Wy, Wy = wr.alloc (.cells #[.string r.name, .string r.con, .slice A1 q1 k1, .slice A2 r.params.length k2, .int .i64 r.body.kind, .string r.body.name, .slice A3 q3 k3] 110) := ⟨_, rfl⟩
        rw [← hWy] at HOW hbox ⊢
        obtain ⟨fn, tmps, assign, body, hy, hR⟩ := HY.out pre (r.con, r.vars.length) (wr.heap.size :: M) Wy HOW.out.j HOW.out.lt (by have := HLE.out; have := HLT.out; omega)
        have hy2 : (Instr.yield lp #[.string r.con, .int .i64 (q1 : Int)]).run Try.prog Wy = .ok (.round lp fn tmps assign body) Wy := by rw [HQ1.out]; exact hy
        rw [hy2]
        have hnw : Wy.heap[wr.heap.size]? = some (.cells #[.string r.name, .string r.con, .slice A1 q1 k1, .slice A2 r.params.length k2, .int .i64 r.body.kind, .string r.body.name, .slice A3 q3 k3] 110 (0, 0)) := by rw [hWy]; exact World.alloc_heap_new wr _
        refine ⟨fun _ => hn1, hR.mono ?_⟩
        clear hy hy2 hR hWy hbox
        rintro e W3 (⟨rfl, hj3, hk3⟩ | ⟨rfl, hjx3, hk3⟩)
        · have HO3 := Lib.hid (HOW.out.kept hk3 hj3)
          have hn3 := (hk3.2 wr.heap.size (by simp)).trans hnw
          have hb4 : W3.cell? ⟨wr.heap.size, 4, none⟩ = some (.int .i64 r.body.kind) := by simp [World.cell?, hn3]
          have hb5 : W3.cell? ⟨wr.heap.size, 5, none⟩ = some (.string r.body.name) := by simp [World.cell?, hn3]
          have hb6 : W3.cell? ⟨wr.heap.size, 6, none⟩ = some (.slice A3 q3 k3) := by simp [World.cell?, hn3]
          clear hj3 hk3 hnw hn3
          gi_wp2_with (gi_at_call 128; refine (nodesOnce_in F (n - 1) hF hro (by omega) _ _ _ _ _ _).mono ?_; rintro e w' ⟨rfl, rfl⟩)
          clear hb4 hb5 hb6
          obtain ⟨W5, hW5⟩ : ∃ W5, W5 = onceW W3 r.body.kind r.body.name (.slice A3 q3 k3) := ⟨_, rfl⟩
          rw [← hW5]
          obtain ⟨b3, hb3⟩ : ∃ b3, b3 = W3.heap.size := ⟨_, rfl⟩
          rw [← hb3]
          have HB3 := Lib.hid (show b3 = W3.heap.size from hb3)
          have hs5 : W5.heap.size = b3 + 5 := by rw [hW5, onceW_size, HB3.out]
          have hlow5 : Below W3.heap.size W3 W5 := by rw [hW5]; exact onceW_below (Below.refl _ _) (Nat.le_refl _) _ _ _
          have HO5 := Lib.hid (HO3.out.grow HJ.out hlow5 [b3 + 4, b3 + 2, b3 + 1] (fun k hk => by have := HB3.out; simp at hk; omega))
          have HW5 := Lib.hid hW5
          have HS5 := Lib.hid hs5
          clear hW5 hs5 hb3 hlow5
          have HBYL := Lib.hid HO3.out.box.lt
          refine wpIn_rangeFunc_nest hro hn1 (gf := 143) (lb := onceLb b3) rfl (hF _) (enters_of Try.func143 (by kernel_rfl) rfl)
            (once_stops F (n - 1) HFW.out hro hF (by omega) wo r.body (.slice A3 q3 k3) z3 HHP.out HBD.out HFB.out b3 W3 W5 HB3.out HW5.out HO3.out.low) (Below.refl _ _) (Nat.le_trans HO3.out.low.size (by have := HS5.out; have := HB3.out; omega)) (fun _ => rfl)
            (Inn (fun (ys : List (It wo)) M W => ys.length ≤ exSize r.body ∧ J ((pre ++ [(r.con, r.vars.length)]) ++ consO ys) M W) wo.heap.size (W.heap.size :: Ds) W5) (fun cc ys M W6 => cc = .ret ∧ Inn (fun (ys : List (It wo)) M W => Jx ((pre ++ [(r.con, r.vars.length)]) ++ consO ys) M W) wo.heap.size (W.heap.size :: Ds) W5 ys M W6)
            (Inn.minds (fun ys M M2 A B h hf hm => ⟨h.1, HJ.out _ _ _ _ _ h.2 hf hm⟩)) (fun cc pre M M2 A B h hf hm => ⟨h.1, Inn.minds (fun ys M M2 A B h hf hm => HJX.out _ _ _ _ _ h hf hm) pre M M2 A B h.2 hf hm⟩)
            [b3 + 4, b3 + 2, b3 + 1] ?start (fun k hk => hk) ?inm
            (fun b _ x a2 X => a2 = { tmps := #[.func (.yield lp) #[] #[], .pointer (some ⟨Bp, 0, none⟩), .pointer (some ⟨W.heap.size, 0, none⟩), u3, .pointer (some ⟨wr.heap.size, 0, none⟩), .pointer (some ⟨b, 0, none⟩), u6, u7, u8, .slice (some ⟨g, o, none⟩) m c, .int .i64 (m : Int), .int .i64 (i : Int), .bool true, .pointer (some ⟨g, o + i * 7, none⟩), .agg #[.string r.name, .string r.con, .slice A1 q1 k1, .slice A2 r.params.length k2, .int .i64 r.body.kind, .string r.body.name, .slice A3 q3 k3], .pointer (some ⟨wr.heap.size, 1, none⟩), .string r.con, .bool true, .bool true, .func (.yield lp) #[] #[], .pointer (some ⟨wr.heap.size, 1, none⟩), .string r.con, .pointer (some ⟨wr.heap.size, 2, none⟩), .slice A1 q1 k1, .int .i64 (q1 : Int), .bool true, .bool false, .bool false, .pointer (some ⟨wr.heap.size, 4, none⟩), .agg #[.int .i64 r.body.kind, .string r.body.name, .slice A3 q3 k3], onceFun b3, x.val, u32, u33, u34, u35, u36, u37, u38, u39, u40, u41, u42, u43, u44, u45, u46, u47, u48, u49, u50, u51], defers := [] } ∧ X.heap[b]? = some (.cells #[.int .i64 x.ex.kind, .string x.ex.name, x.1.2.2.1] 26 (0, 0)))
            (fun b ys x a2 X l o h hl => ⟨h.1, (World.putObj_heap_other (by omega)).trans h.2⟩) ?assign ?body ?done ?stop
          case start =>
            have hj5 : J ((pre ++ [(r.con, r.vars.length)]) ++ consO (wo := wo) []) ([b3 + 4, b3 + 2, b3 + 1] ++ wr.heap.size :: M) W5 := by rw [show consO (wo := wo) [] = [] from rfl, List.append_nil]; exact HO5.out.j
            refine ⟨_, ⟨by simp, hj5⟩, fun k hk => List.mem_append_left _ hk, fun k hk => ?_, fun k hk => ⟨HO5.out.n0 k hk, Or.inr (HO5.out.lt k hk)⟩, HO5.out.low.size⟩
            have hk3 : k ∈ wr.heap.size :: M ∧ k < W3.heap.size := by
              rcases List.mem_cons.1 hk with rfl | hk
              · exact ⟨HO3.out.byM, HBYL.out⟩
              · exact ⟨(HO3.out.marks.2 k hk).1, HO3.out.lt k (HO3.out.marks.2 k hk).1⟩
            exact ⟨List.mem_append_right _ hk3.1, by have := HB3.out; simp; omega, by have := HS5.out; have := HB3.out; omega, rfl⟩
          case inm =>
            intro k hk
            have h1 := HO3.out.low.size
            have h2 := HS5.out
            have h3 := HB3.out
            simp at hk
            omega
          case assign =>
            intro l2 ys x X KX hK
            obtain ⟨A4, c4', hu2, -, -, -⟩ := x.slice
            have hv : x.val = .agg #[.int .i64 x.ex.kind, .string x.ex.name, .slice A4 x.ex.args.length c4'] := by rw [← hu2]; rfl
            have HU2 := Lib.hid hu2
            have HV2 := Lib.hid hv
            have HKX := Lib.hid hK
            dsimp only
            rw [hv]
            clear hu2 hv hK
            gi_wp2
            refine HKX.out _ _ (Fr.alloc _ _) ⟨?_, ?_⟩
            · rw [HV2.out]
            · rw [HU2.out]; exact World.alloc_heap_new _ _
          case body =>
            rintro l2 b2 ys x _ M2 X ⟨M', g1, g2, g3, g4, g5⟩ ⟨rfl, hnx⟩ hM2 hb2 hlow2 hlen
            have hn3 : 1 ≤ n - 1 - 1 := by omega
            obtain ⟨A4, c4', hu2, -, -, -⟩ := x.slice
            obtain ⟨q4, hq4⟩ : ∃ q4, q4 = x.ex.args.length := ⟨_, rfl⟩
            rw [← hq4] at hu2
            rw [hu2] at hnx
            have hn0 : X.cell? ⟨b2, 0, none⟩ = some (.int .i64 x.ex.kind) := by simp [World.cell?, hnx]
            have hn1' : X.cell? ⟨b2, 1, none⟩ = some (.string x.ex.name) := by simp [World.cell?, hnx]
            have hn2 : X.cell? ⟨b2, 2, none⟩ = some (.slice A4 q4 c4') := by simp [World.cell?, hnx]
            have HBB := Lib.hid (box_on HO5.out.box (g3 W.heap.size (by simp)).2.2.2)
            have HBX := Lib.hid (fun (w2 : World) (hb2 : Below X.heap.size X w2) => And.intro (box_on HBB.out (hb2.block _ HBB.out.lt)).cell (box_on HBB.out (hb2.block _ HBB.out.lt)).lt)
            have HG1 := Lib.hid g1
            have HG2 := Lib.hid g2
            have HG3 := Lib.hid g3
            have HG4 := Lib.hid g4
            have HG5 := Lib.hid g5
            have HLEN := Lib.hid hlen
            have HMX := Lib.hid (fun k (hk : k ∈ M') => (g4 k hk).2.elim (fun h => Nat.lt_of_lt_of_le (hM2 k h).2 hb2) id)
            have HQ4 := Lib.hid hq4
            clear g1 g2 g3 g4 g5 hM2 hb2 hlow2 hlen hnx hu2 hq4
            by_cases hk : x.ex.kind = 2
            · have HC := Lib.hid (consO_yes ys x hk)
              have aC := asCC
              have HT := Lib.hid (show formTy x.ex.kind = 93 by rw [hk]; rfl)
              clear hk
              gi_wp2_with (gi_at_call 60; refine (at_wide HFW.out (own_form _ _ _ _ _ _) l2).mono ?_; rintro r w2 ⟨rfl, hb2⟩; rw [HT.out]; obtain ⟨hc2, hl2⟩ := HBX.out w2 hb2; have HB2 := Lib.hid hb2; clear hb2)
              obtain ⟨Wz, hWz⟩ : ∃ Wz, Wz = w2.alloc (.cells #[.string x.ex.name, .slice A4 q4 c4'] 93) := ⟨_, rfl⟩
              rw [← hWz]
              have hlz : Below X.heap.size X Wz := by rw [hWz]; exact HB2.out.trans (((Below.refl _ w2).alloc (Nat.le_refl _) _).mono HB2.out.size)
              have HLZ := Lib.hid hlz
              obtain ⟨fn, tmps, assign, body, hy, hR⟩ := yield_wide HFW.out (HY.out ((pre ++ [(r.con, r.vars.length)]) ++ consO ys) (x.ex.name, x.ex.args.length) M' Wz (HJ.out _ _ _ _ _ HG1.out.2 (Fr.of_below hlz) (fun k hk => Or.inl hk)) (fun k hk => Nat.lt_of_lt_of_le (HMX.out k hk) hlz.size) (by have h1 := HPL.out; have h2 := HLEN.out; have h3 := HLT.out; have h4 := consO_len ys; simp at h1 ⊢; omega)) l2 (n - 1 - 1 - 1)
              have hy2 : (Instr.yield lp #[.string x.ex.name, .int .i64 (q4 : Int)]).run Try.prog Wz = .ok (.round lp fn tmps assign body) Wz := by rw [HQ4.out]; exact hy
              rw [hy2]
              refine ⟨fun _ => hn3, hR.mono ?_⟩
              clear hy hy2 hR hWz hlz
              rintro e W6 (⟨rfl, hj6, hk6⟩ | ⟨rfl, hj6, hk6⟩)
              · have HT6 := Lib.hid (Inn.turn (G2 := fun (ys : List (It wo)) M W => ys.length ≤ exSize r.body ∧ J ((pre ++ [(r.con, r.vars.length)]) ++ consO ys) M W) (pre2 := ys ++ [x]) HG2.out HG3.out HG4.out HG5.out ⟨(by have := HLEN.out; simp; omega), (by rw [HC.out, ← List.append_assoc]; exact hj6)⟩ (kept_after HLZ.out HMX.out HG5.out hk6))
                clear hj6 hk6
                gi_wp2
                exact HT6.out
              · have HT6 := Lib.hid (Inn.turn (G2 := fun (ys : List (It wo)) M W => Jx ((pre ++ [(r.con, r.vars.length)]) ++ consO ys) M W) (pre2 := ys ++ [x]) HG2.out HG3.out HG4.out HG5.out (by rw [HC.out, ← List.append_assoc]; exact hj6) (kept_after HLZ.out HMX.out HG5.out hk6))
                clear hj6 hk6
                gi_wp2
                exact ⟨⟨rfl, HT6.out.1⟩, HT6.out.2⟩
            · have HC := Lib.hid (consO_no ys x hk)
              have aC := asC_no x.ex.kind hk
              clear hk
              gi_wp2_with (gi_at_call 60; refine (at_wide HFW.out (own_form _ _ _ _ _ _) l2).mono ?_; rintro r w2 ⟨rfl, hb2⟩; obtain ⟨hc2, hl2⟩ := HBX.out w2 hb2; have HB2 := Lib.hid hb2; clear hb2)
              have hlz : Below X.heap.size X (w2.alloc (.cells #[.string ⟨#[]⟩, .slice none 0 0] 93)) := HB2.out.trans (((Below.refl _ w2).alloc (Nat.le_refl _) _).mono HB2.out.size)
              exact Inn.turn (G2 := fun (ys : List (It wo)) M W => ys.length ≤ exSize r.body ∧ J ((pre ++ [(r.con, r.vars.length)]) ++ consO ys) M W) (pre2 := ys ++ [x]) HG2.out HG3.out HG4.out HG5.out ⟨(by have := HLEN.out; simp; omega), (by rw [HC.out]; exact HJ.out _ _ _ _ _ HG1.out.2 (Fr.of_below hlz) (fun k hk => Or.inl hk))⟩ ⟨hlz.mono HG5.out, fun k hk => hlz.block k (HMX.out k hk)⟩
          case done =>
            rintro D ys M2 X hD hDM hM2 hS ⟨M', g1, g2, g3, g4, g5⟩ hlow2 hK
            have HLY := Lib.hid g1.1
            have HO6 := Lib.hid (HO5.out.behind g1.2 g2 g3 g4 hM2 hDM hK hlow2)
            have HFI6 := Lib.hid (step_find HFH.out hS)
            clear g1 g2 g3 g4 g5 hM2 hDM hK hlow2 hS hD
            gi_wp2
            refine Handed.intro (gk - 1) (by omega) (hJJ _ _ _ ⟨D :: Ds, M', (pre ++ [(r.con, r.vars.length)]) ++ consO ys, i + 1, _, _, _, _, _, _, _, _, _, _, _, _, _, _, _, _, _, _, _, _, _, _, _, _, _, _, _, _, _, _, _, _, _, _, _, _, _, _, _, _, _, _, _, _, _, _, rfl, by omega, by omega, HO6, Lib.hid (fun q => ?_), Lib.hid ?_⟩)
            · rw [take_ru l i r HGET.out, consAll_snoc]
              exact HFI6.out q
            · rw [take_ru l i r HGET.out, cntR_snoc]
              have h1 := HPL.out
              have h2 := HLY.out
              have h3 := consO_len ys
              simp at h1 ⊢
              omega
          case stop =>
            rintro D cc ys M2 X hD hDM hM2 ⟨rest, hS⟩ ⟨rfl, M', g1, g2, g3, g4, g5⟩ hlow2 hK
            have HO6 := Lib.hid (HO5.out.behind g1 g2 g3 g4 hM2 hDM hK hlow2)
            have HSF := Lib.hid (stop_find HGET.out HFH.out hS)
            clear g1 g2 g3 g4 g5 hM2 hDM hK hlow2 hS hD
            gi_wp2
            exact leave_marks rfl (D :: Ds) X HO6.out.marks.1 (fun E hE => (HO6.out.marks.2 E hE).2.1) (fun v Y hf => ⟨⟨_, rfl⟩, .inr ⟨_, M', ⟨_, HSF.out⟩, HJX.out _ _ _ _ _ HO6.out.j (hf.mono (fun k hk => Or.inl (HO6.out.marks.2 k hk).1)) (fun k hk => Or.inl hk)⟩⟩)
        · have HO3 := Lib.hid (HOW.out.kept hk3 hjx3)
          clear hjx3 hk3 hnw
          gi_wp2
          exact leave_marks rfl Ds W3 HO3.out.marks.1 (fun D hD => (HO3.out.marks.2 D hD).2.1) (fun v X hf => ⟨⟨_, rfl⟩, .inr ⟨_, _, ⟨_, HSTOP.out⟩, HJX.out _ _ _ _ _ HO3.out.j (hf.mono (fun k hk => Or.inl (HO3.out.marks.2 k hk).1)) (fun k hk => Or.inl hk)⟩⟩)
    · obtain rfl : i = m := by omega
      gi_wp2
      exact leave_marks rfl Ds wr HOB.out.marks.1 (fun D hD => (HOB.out.marks.2 D hD).2.1) (fun v X hf => ⟨⟨_, rfl⟩, .inl ⟨pre, (by have h1 := HFI.out; rw [HM.out, List.take_length] at h1; exact h1), M, HJ.out _ _ _ _ _ HOB.out.j (hf.mono (fun k hk => Or.inl (HOB.out.marks.2 k hk).1)) (fun k hk => Or.inl hk)⟩⟩)
end Go.Proofs.Ytmndlhbgacgnlaa

namespace Go.Proofs.Ytmndlhbgacgnlaa
open Go Go.RowKit Go.Shelf
attribute [local go_sem] Oper.semAt_some

def consFun (b : Nat) : Value := .func (.func 127) #[] #[.pointer (some ⟨b, 0, none⟩)]
set_option maxHeartbeats 1000000 in
theorem constructors_in (F : Fence) (n : Nat) (hF : ∀ k, F.fn k) (hro : F.round = none) (A : Option Addr) (m c : Nat) (w : World) :
    CallsIn F n Try.prog 81 #[.agg #[.slice A m c]] w fun e w2 => e = .returned (consFun w.heap.size) ∧ w2 = w.alloc (.cells #[.slice A m c] 53) := by
  refine callsIn_of_wp Try.func81 rfl (hF _) ?_ hro
  simp only [Try.ntmps81, List.size_toArray, List.length_cons, List.length_nil, Nat.reduceAdd, Nat.reduceSub, Array.replicate_succ, Array.replicate_zero, List.push_toArray, List.append_toArray, List.nil_append, List.cons_append]
  gi_wp2
  go_ret
  exact ⟨rfl, rfl⟩

def CarI (rb : Nat) (s : ByteArray) (xs : List Cn) (Fp : List Nat) (W : World) : Prop := Fp = [rb] ∧ Boxed W rb 3 (.int .i64 0) ∧ xs.find? (isC s) = none
def CarX (rb : Nat) (s : ByteArray) (c : Code) (xs : List Cn) (Fp : List Nat) (W : World) : Prop := c = .ret ∧ Fp = [rb] ∧ ∃ y, xs.find? (isC s) = some y ∧ Boxed W rb 3 (.int .i64 (y.2 : Int))
theorem cari_foot (rb : Nat) (s : ByteArray) (xs : List Cn) : Foot (CarI rb s xs) := by
  rintro Fp X Y ⟨rfl, h1, h3⟩ _ hk
  exact ⟨rfl, box_on h1 (hk rb (by simp)), h3⟩
theorem carx_foot (rb : Nat) (s : ByteArray) (c : Code) (xs : List Cn) : Foot (CarX rb s c xs) := by
  rintro Fp X Y ⟨h0, rfl, y, h1, h2⟩ _ hk
  exact ⟨h0, rfl, y, h1, box_on h2 (hk rb (by simp))⟩
theorem res_int4 {fn : Func} (h : fn.results = #[.cell 4 3]) (tmps : Array Value) (W : World) (rb : Nat) (z : Int) (ht : tmps.getD 4 undef = .pointer (some ⟨rb, 0, none⟩)) (hc : W.cell? ⟨rb, 0, none⟩ = some (.int .i64 z)) : (results fn tmps).run Try.prog W = .ok (.int .i64 z) W := by
  rw [Array.getD_eq_getD_getElem?] at ht
  simp [results, h, ht, go_sem, hc]
theorem int4_end {F : Fence} {n : Nat} {fn : Func} {tmps : Array Value} {z : Int} {D rb : Nat} {w X : World} (h : fn.results = #[.cell 4 3]) (ht : tmps.getD 4 undef = .pointer (some ⟨rb, 0, none⟩)) (hR : Boxed X rb 3 (.int .i64 z)) (hK : X.heap[D]? = some (.deferred (some []))) (hne : D ≠ rb) (hDw : w.heap.size ≤ D) (hlow : Below w.heap.size w X) :
    LeavesInM F n Try.prog fn tmps (RetPost (.int .i64 z) w) [{ target := .collected D, args := #[] }] .returning X := by
  refine ⟨by simp, .inl ⟨D, _, rfl, run_takeDeferred hK, ?_⟩⟩
  refine ⟨.int .i64 z, res_int4 h tmps _ rb z ht ?_, rfl, hlow.trans ((Fr.put (S := [D]) X _ _ (by simp)).below (by simpa using hDw) hlow.size)⟩
  exact (box_on hR (World.putObj_heap_other (Ne.symm hne))).cell
theorem car_start (w : World) (A : Option Addr) (m c : Nat) (s : ByteArray) (W0 : World) (h : W0 = (((w.alloc (.cells #[.slice A m c] 53)).alloc (.cells #[.string s] 9)).alloc (.cells #[.int .i64 0] 3)).alloc (.cells #[.slice A m c] 53)) :
    W0.heap.size = w.heap.size + 4 ∧ Below w.heap.size w W0 ∧ Boxed W0 (w.heap.size + 1) 9 (.string s) ∧ Boxed W0 (w.heap.size + 2) 3 (.int .i64 0) ∧ W0.cell? ⟨w.heap.size + 3, 0, none⟩ = some (.slice A m c) := by
  obtain ⟨a1, h1⟩ : ∃ a1, a1 = w.alloc (.cells #[.slice A m c] 53) := ⟨_, rfl⟩
  obtain ⟨a2, h2⟩ : ∃ a2, a2 = a1.alloc (.cells #[.string s] 9) := ⟨_, rfl⟩
  obtain ⟨a3, h3⟩ : ∃ a3, a3 = a2.alloc (.cells #[.int .i64 0] 3) := ⟨_, rfl⟩
  rw [← h1, ← h2, ← h3] at h
  have s1 : a1.heap.size = w.heap.size + 1 := by rw [h1]; simp
  have s2 : a2.heap.size = w.heap.size + 2 := by rw [h2]; simp [s1]
  have s3 : a3.heap.size = w.heap.size + 3 := by rw [h3]; simp [s2]
  have s4 : W0.heap.size = w.heap.size + 4 := by rw [h]; simp [s3]
  have b2 := Boxed.new a1 9 (.string s)
  rw [← h2, s1] at b2
  have b3 := Boxed.new a2 3 (.int .i64 0)
  rw [← h3, s2] at b3
  have b4 := Boxed.new a3 53 (.slice A m c)
  rw [← h, s3] at b4
  have k3 : ∀ j, j < w.heap.size + 2 → a3.heap[j]? = a2.heap[j]? := fun j hj => by rw [h3]; exact Below.heap_alloc _ _ _ (by omega)
  have k4 : ∀ j, j < w.heap.size + 3 → W0.heap[j]? = a3.heap[j]? := fun j hj => by rw [h]; exact Below.heap_alloc _ _ _ (by omega)
  refine ⟨s4, ?_, box_on b2 ((k4 _ (by omega)).trans (k3 _ (by omega))), box_on b3 (k4 _ (by omega)), b4.cell⟩
  rw [h, h3, h2, h1]
  exact ((((Below.refl _ w).alloc (Nat.le_refl _) _).alloc (by simp) _).alloc (by simp <;> omega) _).alloc (by simp <;> omega) _

set_option maxRecDepth 100000 in
set_option maxHeartbeats 2000000 in
theorem con_in (F : Fence) (n : Nat) (hFw : F = Fence.wide) (hro : F.round = none) (hF : ∀ k, F.fn k) (hn : 10 ≤ n) (l : List Ru) (s : ByteArray) (v : Value) (bs : List Nat) (w : World) (hv : PrIs w v l bs) (hfr : Thawed w bs) (hb : ∀ r ∈ l, exSize r.body ≤ 1099511627776) :
    CallsIn F n Try.prog 40 #[v, .string s] w (RetPost (.int .i64 (conR s l)) w) := by
  obtain ⟨u, rfl, hu⟩ := id hv
  obtain ⟨A, c, rfl, hc1, hc2, -⟩ := id hu
  have h1 : 1 ≤ n := by omega
  have HFW := Lib.hid hFw
  have HU := Lib.hid hu
  have HFR := Lib.hid hfr
  have HB := Lib.hid hb
  obtain ⟨m, hm⟩ : ∃ m, m = l.length := ⟨_, rfl⟩
  rw [← hm] at HU hc1 ⊢
  clear hv hu hFw hfr hb hm
  refine callsIn_of_wp_marks Try.func40 rfl (hF _) ?_ hro
  simp only [Try.ntmps40, List.size_toArray, List.length_cons, List.length_nil, Nat.reduceAdd, Nat.reduceSub, Array.replicate_succ, Array.replicate_zero, List.push_toArray, List.append_toArray, List.nil_append, List.cons_append]
  gi_wp2_with (gi_at_call 81; refine (constructors_in F (n - 1) hF hro _ _ _ _).mono ?_; rintro e w' ⟨rfl, rfl⟩)
  obtain ⟨W0, hW0⟩ : ∃ W0, W0 = (((w.alloc (.cells #[.slice A m c] 53)).alloc (.cells #[.string s] 9)).alloc (.cells #[.int .i64 0] 3)).alloc (.cells #[.slice A m c] 53) := ⟨_, rfl⟩
  rw [← hW0]
  have HX := Lib.hid (car_start w A m c s W0 hW0)
  clear hW0
  have hx1 := HX.out.1
  refine wpIn_rangeFunc_frame hro h1 (gf := 127) (lb := #[.pointer (some ⟨w.heap.size + 3, 0, none⟩)]) rfl (hF _) (enters_of Try.func127 (by kernel_rfl) rfl)
    (cons_stops F (n - 1) HFW.out hro hF (by omega) w l A m c bs HU.out HB.out (fun z hz => (HFR.out z hz).2) (w.heap.size + 3) W0 HX.out.2.1 HX.out.2.2.2.2 (by omega)) (Below.refl _ _) (by omega) (fun k hk => by cases hk) (fun _ => rfl)
    (CarI (w.heap.size + 2) s) (CarX (w.heap.size + 2) s) (cari_foot _ _) (carx_foot _ _) [w.heap.size + 2] (fun k hk => by simp at hk; subst hk; simp; omega) ⟨rfl, HX.out.2.2.2.1, rfl⟩
    (fun pre x a2 Fp X => a2 = { tmps := #[.agg #[.slice A m c], .string s, .pointer (some ⟨w.heap.size, 0, none⟩), .pointer (some ⟨w.heap.size + 1, 0, none⟩), .pointer (some ⟨w.heap.size + 2, 0, none⟩), .string x.1, .int .i64 (x.2 : Int), .agg #[.slice A m c], consFun (w.heap.size + 3), .string x.1, .int .i64 (x.2 : Int), undef, undef, undef, undef], defers := [] } ∧ CarI (w.heap.size + 2) s pre Fp X) (fun xs x a2 Fp X Y h hs hk => ⟨h.1, cari_foot _ _ _ _ _ _ h.2 hs hk⟩) ?assign ?body ?done ?stop
  case assign =>
    intro l2 pre x Fp X KX hI hFp hFr hK
    have HI := Lib.hid hI
    have HFP := Lib.hid hFp
    have HKX := Lib.hid hK
    clear hI hFp hFr hK
    dsimp only [Cn.enc]
    gi_wp2
    exact HKX.out _ Fp _ (Fr.refl _ _) (fun k hk => ⟨Or.inl hk, (HFP.out k hk).2⟩) ⟨rfl, HI.out⟩
  case body =>
    rintro l2 pre x _ Fp X ⟨rfl, rfl, hR, hno⟩ hFp hFr hlen
    have hbs := (box_on HX.out.2.2.1 (hFr.block (w.heap.size + 1) (by omega) (by simp))).cell
    have hrc := hR.cell
    have hrf := hR.frozen
    have hrl := hR.lt
    have HR := Lib.hid hR
    have HNO := Lib.hid hno
    clear hR hno hFr hFp hlen
    by_cases hx : x.1 = s
    · have hbe := beq_yes hx
      have HXS := Lib.hid hx
      clear hx
      gi_wp2
      refine ⟨[w.heap.size + 2], Fr.set (S := [w.heap.size + 2]) _ _ _ (by simp), fun k hk => ?_, rfl, rfl, x, ?_, HR.out.set _⟩
      · simp at hk; subst hk; exact ⟨Or.inl (by simp), by have := HR.out.lt; simp [World.setCell]; omega⟩
      · rw [List.find?_append, HNO.out]; simp [isC, HXS.out]
    · have hbe := beq_no hx
      have HXS := Lib.hid hx
      clear hx
      gi_wp2
      refine ⟨[w.heap.size + 2], Fr.refl _ _, fun k hk => ?_, rfl, HR.out, ?_⟩
      · simp at hk; subst hk; exact ⟨Or.inl (by simp), HR.out.lt⟩
      · rw [List.find?_append, HNO.out]; simp [isC, HXS.out]
  case done =>
    rintro D xs Fp X hD hDF hFl hS ⟨rfl, hR, hno⟩ hFr hK
    have HCR := Lib.hid (show conR s l = -1 by rw [conR_find, ← hS, hno]; rfl)
    have hrc := hR.cell
    have hrf := hR.frozen
    have hrl := hR.lt
    have HR := Lib.hid hR
    have HK := Lib.hid hK
    have HLW := Lib.hid (show Below w.heap.size w X from HX.out.2.1.trans (hFr.below (by simp) (by omega)))
    have HDX := Lib.hid (show D ≠ w.heap.size + 2 by omega)
    clear hR hno hFr hK hS
    gi_wp2
    rw [HCR.out]
    exact int4_end rfl rfl (HR.out.set _) ((Below.heap_setCell _ _ _ _ HDX.out).trans HK.out) HDX.out (by omega) (HLW.out.setCell (p := ⟨w.heap.size + 2, 0, none⟩) (by simp) _)
  case stop =>
    rintro D cc pre Fp X hD hDF hFl ⟨rest, hS⟩ ⟨rfl, rfl, y, hy, hR⟩ hFr hK
    have HCR := Lib.hid (show conR s l = (y.2 : Int) by rw [conR_find, ← hS, List.find?_append, hy]; rfl)
    have HR := Lib.hid hR
    have HK := Lib.hid hK
    have HLW := Lib.hid (show Below w.heap.size w X from HX.out.2.1.trans (hFr.below (by simp) (by omega)))
    have HDX := Lib.hid (show D ≠ w.heap.size + 2 by omega)
    clear hR hy hFr hK hS
    gi_wp2
    rw [HCR.out]
    exact int4_end rfl rfl HR.out HK.out HDX.out (by omega) HLW.out
theorem own_con (l : List Ru) (s : ByteArray) (v : Value) (bs : List Nat) (w : World) (hv : PrIs w v l bs) (hfr : Thawed w bs) (hb : ∀ r ∈ l, exSize r.body ≤ 1099511627776) :
    Calls Try.prog 40 #[v, .string s] w (RetPost (.int .i64 (conR s l)) w) :=
  callsIn_wide.1 (con_in Fence.wide 10 rfl rfl (fun _ => trivial) (Nat.le_refl _) l s v bs w hv hfr hb)
end Go.Proofs.Ytmndlhbgacgnlaa

namespace Go.Proofs.Ytmndlhbgacgnlaa
open Go Go.RowKit Go.Shelf
attribute [local go_sem] Oper.semAt_some

def ckey (x : Cn) : Value := .string x.1
def cval (x : Cn) : Value := .int .i64 (x.2 : Int)
/-- The map of the constructors under way. -/
def CmI (B mb : Nat) (pre : List Cn) (Fp : List Nat) (W : World) : Prop := Fp = [B, mb] ∧ B ≠ mb ∧ Boxed W B 119 (.map (some mb)) ∧ ∃ M, MapIs W mb M ∧ (∀ x ∈ M, StrK x.1) ∧ Firsts ckey cval pre M
theorem cmi_foot (B mb : Nat) (pre : List Cn) : Foot (CmI B mb pre) := by
  rintro Fp X Y ⟨rfl, hne, h1, M, h2, h3⟩ _ hk
  exact ⟨rfl, hne, box_on h1 (hk B (by simp)), M, h2.on (hk mb (by simp)), h3⟩
theorem run_makeCon (w : World) : (Instr.makeMap 119 none).run Try.prog w = .ok (.map (some w.heap.size)) (w.alloc (.map #[] 0)) := by
  simp [Instr.makeMap]
theorem zeroInt (w : World) : (zeroValue 3).run Try.prog w = .ok (.int .i64 0) w := by kernel_rfl
theorem dem_start (w : World) (A : Option Addr) (m c : Nat) (W0 : World) (h : W0 = ((((w.alloc (.cells #[.slice A m c] 53)).alloc (.cells #[.map none, .map none] 121)).alloc (.map #[] 0)).alloc (.cells #[.map (some (w.heap.size + 2))] 119)).alloc (.cells #[.slice A m c] 53)) :
    W0.heap.size = w.heap.size + 5 ∧ Below w.heap.size w W0 ∧ Boxed W0 w.heap.size 53 (.slice A m c) ∧ W0.heap[w.heap.size + 1]? = some (.cells #[.map none, .map none] 121 (0, 0)) ∧ MapIs W0 (w.heap.size + 2) [] ∧ Boxed W0 (w.heap.size + 3) 119 (.map (some (w.heap.size + 2))) ∧ W0.cell? ⟨w.heap.size + 4, 0, none⟩ = some (.slice A m c) := by
  obtain ⟨a1, h1⟩ : ∃ a1, a1 = w.alloc (.cells #[.slice A m c] 53) := ⟨_, rfl⟩
  obtain ⟨a2, h2⟩ : ∃ a2, a2 = a1.alloc (.cells #[.map none, .map none] 121) := ⟨_, rfl⟩
  obtain ⟨a3, h3⟩ : ∃ a3, a3 = a2.alloc (.map #[] 0) := ⟨_, rfl⟩
  obtain ⟨a4, h4⟩ : ∃ a4, a4 = a3.alloc (.cells #[.map (some (w.heap.size + 2))] 119) := ⟨_, rfl⟩
  rw [← h1, ← h2, ← h3, ← h4] at h
  have s1 : a1.heap.size = w.heap.size + 1 := by rw [h1]; simp
  have s2 : a2.heap.size = w.heap.size + 2 := by rw [h2]; simp [s1]
  have s3 : a3.heap.size = w.heap.size + 3 := by rw [h3]; simp [s2]
  have s4 : a4.heap.size = w.heap.size + 4 := by rw [h4]; simp [s3]
  have s5 : W0.heap.size = w.heap.size + 5 := by rw [h]; simp [s4]
  have b1 := Boxed.new w 53 (.slice A m c)
  rw [← h1] at b1
  have b2 := World.alloc_heap_new a1 (.cells #[.map none, .map none] 121)
  rw [← h2, s1] at b2
  have b3 := MapIs.made a2
  rw [← h3, s2] at b3
  have b4 := Boxed.new a3 119 (.map (some (w.heap.size + 2)))
  rw [← h4, s3] at b4
  have b5 := Boxed.new a4 53 (.slice A m c)
  rw [← h, s4] at b5
  have k2 : ∀ j, j < w.heap.size + 1 → a2.heap[j]? = a1.heap[j]? := fun j hj => by rw [h2]; exact Below.heap_alloc _ _ _ (by omega)
  have k3 : ∀ j, j < w.heap.size + 2 → a3.heap[j]? = a2.heap[j]? := fun j hj => by rw [h3]; exact Below.heap_alloc _ _ _ (by omega)
  have k4 : ∀ j, j < w.heap.size + 3 → a4.heap[j]? = a3.heap[j]? := fun j hj => by rw [h4]; exact Below.heap_alloc _ _ _ (by omega)
  have k5 : ∀ j, j < w.heap.size + 4 → W0.heap[j]? = a4.heap[j]? := fun j hj => by rw [h]; exact Below.heap_alloc _ _ _ (by omega)
  refine ⟨s5, ?_, box_on b1 ((k5 _ (by omega)).trans ((k4 _ (by omega)).trans ((k3 _ (by omega)).trans (k2 _ (by omega))))), (k5 _ (by omega)).trans ((k4 _ (by omega)).trans ((k3 _ (by omega)).trans b2)), b3.on ((k5 _ (by omega)).trans (k4 _ (by omega))), box_on b4 (k5 _ (by omega)), b5.cell⟩
  rw [h, h4, h3, h2, h1]
  exact (((((Below.refl _ w).alloc (Nat.le_refl _) _).alloc (by simp <;> omega) _).alloc (by simp <;> omega) _).alloc (by simp <;> omega) _).alloc (by simp <;> omega) _

theorem Firsts.same {α : Type} {key val : α → Value} {F : List α} {M : List (Value × Value)} {x : α} (h : Firsts key val F M) (ho : ∃ y ∈ M, y.1 = key x) : Firsts key val (F ++ [x]) M := by
  refine ⟨h.more ho, by have := h.len.1; simp; omega, ⟨fun e => ?_, fun hn => ?_⟩⟩
  · have := h.len.1
    simp at e
    omega
  · obtain ⟨p, hp, hk⟩ := (h.keys (key x)).1 ho
    rw [List.map_append, List.map_cons, List.map_nil, List.nodup_append] at hn
    exact absurd rfl (hn.2.2 _ (List.mem_map_of_mem hp) (key x) (by simp) |> fun hh => by rw [hk] at hh; exact hh)
theorem cm_same {B mb : Nat} {pre : List Cn} {x : Cn} {M : List (Value × Value)} {X : World} {z v : Value} (hne : B ≠ mb) (hB : Boxed X B 119 (.map (some mb))) (hmi : MapIs X mb M) (hK : ∀ x ∈ M, StrK x.1) (hF : Firsts ckey cval pre M) (hit : Hits M (.string x.1) z v true) :
    ∃ Fp2, Fr [B, mb] X X ∧ (∀ k ∈ Fp2, (k ∈ [B, mb] ∨ X.heap.size ≤ k) ∧ k < X.heap.size) ∧ CmI B mb (pre ++ [x]) Fp2 X := by
  refine ⟨[B, mb], Fr.refl _ _, fun k hk => ?_, rfl, hne, hB, M, hmi, hK, hF.same ?_⟩
  · refine ⟨Or.inl hk, ?_⟩
    simp at hk
    rcases hk with rfl | rfl
    · exact hB.lt
    · exact hmi.lt
  · rcases hit with ⟨h, -⟩ | ⟨-, -, h⟩
    · exact ⟨_, h, rfl⟩
    · cases h
theorem cm_step {B mb : Nat} {pre : List Cn} {x : Cn} {M L2 : List (Value × Value)} {X W5 : World} {z v : Value} (hne : B ≠ mb) (hB : Boxed X B 119 (.map (some mb))) (hmi : MapIs X mb M) (hK : ∀ x ∈ M, StrK x.1) (hF : Firsts ckey cval pre M) (hit : Hits M (.string x.1) z v false)
    (h2 : MapIs W5 mb L2) (hp : Put M (.string x.1) (.int .i64 (x.2 : Int)) L2) (hg : X.grownBy W5 (some mb)) :
    ∃ Fp2, Fr [B, mb] X W5 ∧ (∀ k ∈ Fp2, (k ∈ [B, mb] ∨ X.heap.size ≤ k) ∧ k < W5.heap.size) ∧ CmI B mb (pre ++ [x]) Fp2 W5 := by
  obtain ⟨es, clock, -, -, hn⟩ := id hmi
  refine ⟨[B, mb], Fr.grown hg (fun k e => by cases e; simp), fun k hk => ⟨Or.inl hk, ?_⟩, rfl, hne, box_on hB (hg.block B hB.lt (fun e => hne (Option.some.inj e))), L2, h2, hp.nodup_keys hK ⟨_, rfl⟩, hF.snoc hn hp ?_⟩
  · simp at hk
    rcases hk with rfl | rfl
    · exact Nat.lt_of_lt_of_le hB.lt hg.size
    · exact h2.lt
  · rcases hit with ⟨-, h⟩ | ⟨h, -, -⟩
    · cases h
    · exact h

/-- What demandsOf hands back. -/
def DemPost (l : List Ru) (w : World) (e : Ending) (w2 : World) : Prop :=
  ∃ (mb mb2 : Nat) (M M2 : List (Value × Value)) (wq : World) (xs : List (Rt wq)) (G : List Cn), e = .returned (.agg #[.map (some mb), .map (some mb2)]) ∧ (MapIs w2 mb M ∧ (∀ x ∈ M, StrK x.1) ∧ xs.map Rt.pair = numd 0 l ∧ Firsts rname Rt.val xs M) ∧ (MapIs w2 mb2 M2 ∧ (∀ x ∈ M2, StrK x.1) ∧ Firsts ckey cval G M2 ∧ ∀ q, G.find? q = (consAll l).find? q) ∧ Below w.heap.size w w2

theorem res_dem {fn : Func} (h : fn.results = #[.cell 2 121]) (tmps : Array Value) (W : World) (rb : Nat) (u v : Value) (ht : tmps.getD 2 undef = .pointer (some ⟨rb, 0, none⟩)) (hc : W.cell? ⟨rb, 0, none⟩ = some u) (hd : W.cell? ⟨rb, 1, none⟩ = some v) (hu : ∃ k, u = .map k) (hv : ∃ k, v = .map k) : (results fn tmps).run Try.prog W = .ok (.agg #[u, v]) W := by
  obtain ⟨k, rfl⟩ := hu
  obtain ⟨k2, rfl⟩ := hv
  rw [Array.getD_eq_getD_getElem?] at ht
  simp [results, h, ht, go_sem, hc, hd]
theorem dem_end {F : Fence} {n : Nat} {fn : Func} {tmps : Array Value} {mb D : Nat} {l : List Ru} {M M1 : List (Value × Value)} {xs : List Cn} {w X w6 : World} {ys : List (Rt X.drew)} (h : fn.results = #[.cell 2 121]) (ht : tmps.getD 2 undef = .pointer (some ⟨w.heap.size + 1, 0, none⟩)) (hlow : Below w.heap.size w X) (hK : X.heap[D]? = some (.deferred (some []))) (hD : w.heap.size + 5 ≤ D)
    (hrb : w.heap.size + 3 < X.heap.size) (hmi : MapIs X (w.heap.size + 2) M) (hKM : ∀ x ∈ M, StrK x.1) (hF : Firsts ckey cval xs M) (hS : ∀ q, xs.find? q = (consAll l).find? q)
    (hm6 : MapIs w6 mb M1) (hk6 : ∀ x ∈ M1, StrK x.1) (hy6 : ys.map Rt.pair = numd 0 l) (hf6 : Firsts rname Rt.val ys M1) (hl6 : X.drew.heap.size ≤ mb) (hb6 : Below X.drew.heap.size X.drew w6) (hz2 : w6.cell? ⟨w.heap.size + 1, 0, none⟩ = some (.map none)) (hz3 : w6.cell? ⟨w.heap.size + 1, 1, none⟩ = some (.map none)) :
    LeavesInM F n Try.prog fn tmps (DemPost l w) [{ target := .collected D, args := #[] }] .returning ((w6.setCell ⟨w.heap.size + 1, 0, none⟩ (.map (some mb))).setCell ⟨w.heap.size + 1, 1, none⟩ (.map (some (w.heap.size + 2)))) := by
  have hb6 : Below X.heap.size X w6 := (Below.refl _ X).drew.trans hb6
  have hl6 : X.heap.size ≤ mb := hl6
  have hDl := (Array.getElem?_eq_some_iff.1 hK).1
  obtain ⟨Y, hY⟩ : ∃ Y, Y = (w6.setCell ⟨w.heap.size + 1, 0, none⟩ (.map (some mb))).setCell ⟨w.heap.size + 1, 1, none⟩ (.map (some (w.heap.size + 2))) := ⟨_, rfl⟩
  rw [← hY]
  have hf : Fr [w.heap.size + 1] w6 Y := by rw [hY]; exact (Fr.set (S := [w.heap.size + 1]) _ _ _ (by simp)).trans (Fr.set (S := [w.heap.size + 1]) _ _ _ (by simp)) (by simp)
  have hs6 := hb6.size
  have hYD : Y.heap[D]? = some (.deferred (some [])) := (hf.block D (by omega) (by simp; omega)).trans ((hb6.block D hDl).trans hK)
  have c0 : Y.cell? ⟨w.heap.size + 1, 0, none⟩ = some (.map (some mb)) := by
    rw [hY, World.cell?_setCell_other _ _ _ _ (by simp)]
    exact World.cell?_setCell_same _ _ _ hz2
  have c1 : Y.cell? ⟨w.heap.size + 1, 1, none⟩ = some (.map (some (w.heap.size + 2))) := by
    rw [hY]
    exact World.cell?_setCell_same _ _ _ (by rw [World.cell?_setCell_other _ _ _ _ (by simp)]; exact hz3)
  refine ⟨by simp, .inl ⟨D, _, rfl, run_takeDeferred hYD, ?_⟩⟩
  have k : ∀ {o : Obj} (j : Nat), j ≠ D → (Y.putObj D o).heap[j]? = Y.heap[j]? := fun {o} j hj => World.putObj_heap_other hj
  refine ⟨.agg #[.map (some mb), .map (some (w.heap.size + 2))], res_dem h tmps _ (w.heap.size + 1) _ _ ht ((World.cell?_of_block (w := Y) (k (w.heap.size + 1) (by omega))).trans c0) ((World.cell?_of_block (w := Y) (k (w.heap.size + 1) (by omega))).trans c1) ⟨_, rfl⟩ ⟨_, rfl⟩, mb, w.heap.size + 2, M1, M, X.drew, ys, xs, rfl, ⟨(hm6.on (hf.block mb hm6.lt (by simp; omega))).on (World.putObj_heap_other (by omega)), hk6, hy6, hf6⟩, ⟨((hmi.on (hb6.block _ hmi.lt)).on (hf.block _ (by omega) (by simp))).on (World.putObj_heap_other (by omega)), hKM, hF, hS⟩, ?_⟩
  exact ((hlow.trans (hb6.mono hlow.size)).trans (hf.below (by simp) (by omega))).trans ((Fr.put (S := [D]) Y _ _ (by simp)).below (by simp; omega) (by have := hf.size; omega))
/-- A piece of code of which nothing but its ordinary end is asked. -/
theorem drop_rest {F : Fence} {n : Nat} {P : Program} {c : Code} {K : Act → World → Prop} {Q : Exit → Act → World → Prop} {a : Act} {w : World} (h : c.wpIn F n P (Exit.then K (fun _ _ _ => False)) a w) : c.wpIn F n P (Exit.then K Q) a w :=
  wpIn_mono h (fun e a W hq => by
    cases e with
    | normal => exact hq
    | exit id => exact hq.elim
    | goto t => exact hq.elim
    | ret => exact hq.elim
    | panic c => exact hq.elim
    | outgrown => exact hq.elim)
/-- What stands behind the call while the two maps are put together. -/
theorem dem_after {b : Nat} {A : Option Addr} {m c : Nat} {X Z : World} (h : Hid (X.cell? ⟨b, 0, none⟩ = some (.slice A m c) ∧ X.cell? ⟨b + 1 + 1 + 1, 0, none⟩ = some (.map (some (b + 1 + 1))) ∧ X.heap[b + 1]? = some (.cells #[.map none, .map none] 121 (0, 0)))) (hb : Below X.drew.heap.size X.drew Z) :
    Z.cell? ⟨b + 1 + 1 + 1, 0, none⟩ = some (.map (some (b + 1 + 1))) ∧ Z.cell? ⟨b + 1, 0, none⟩ = some (.map none) ∧ Z.cell? ⟨b + 1, 1, none⟩ = some (.map none) ∧ Z.frozen? ⟨b + 1, 0, none⟩ = false ∧ Z.frozen? ⟨b + 1, 1, none⟩ = false ∧ b + 1 < Z.heap.size := by
  obtain ⟨-, h2, h3⟩ := h.out
  have hl := (Array.getElem?_eq_some_iff.1 h3).1
  have k3 : Z.heap[b + 1]? = _ := (hb.block (b + 1) hl).trans h3
  refine ⟨(hb.cell (p := ⟨b + 1 + 1 + 1, 0, none⟩) (World.block_lt_of_cell? X _ h2)).trans h2, ?_, ?_, ?_, ?_, Nat.lt_of_lt_of_le hl hb.size⟩
  · simp [World.cell?, k3]
  · simp [World.cell?, k3]
  · simp [World.frozen?, k3]
  · simp [World.frozen?, k3]

set_option maxRecDepth 100000 in
set_option maxHeartbeats 2000000 in
theorem dem_in (F : Fence) (n : Nat) (hFw : F = Fence.wide) (hro : F.round = none) (hF : ∀ k, F.fn k) (hn : 10 ≤ n) (l : List Ru) (v : Value) (bs : List Nat) (w : World) (hv : PrIs w v l bs) (hfr : Thawed w bs) (hb : ∀ r ∈ l, exSize r.body ≤ 1099511627776) (hlb : l.length ≤ 1099511627776) :
    CallsIn F n Try.prog 84 #[v] w (DemPost l w) := by
  obtain ⟨u, rfl, hu⟩ := id hv
  obtain ⟨A, c, rfl, hc1, hc2, -⟩ := id hu
  have h1 : 1 ≤ n := by omega
  have HFW := Lib.hid hFw
  have HU := Lib.hid hu
  have HFR := Lib.hid hfr
  have HB := Lib.hid hb
  have HLB := Lib.hid hlb
  have HV := Lib.hid hv
  obtain ⟨m, hm⟩ : ∃ m, m = l.length := ⟨_, rfl⟩
  rw [← hm] at HU HV hc1 ⊢
  have hmk := run_makeCon
  clear hv hu hFw hfr hb hm hlb
  refine callsIn_of_wp_marks Try.func84 rfl (hF _) ?_ hro
  simp only [Try.ntmps84, List.size_toArray, List.length_cons, List.length_nil, Nat.reduceAdd, Nat.reduceSub, Array.replicate_succ, Array.replicate_zero, List.push_toArray, List.append_toArray, List.nil_append, List.cons_append]
  gi_wp2_with (gi_at_call 81; refine (constructors_in F (n - 1) hF hro _ _ _ _).mono ?_; rintro e w' ⟨rfl, rfl⟩)
  obtain ⟨W0, hW0⟩ : ∃ W0, W0 = ((((w.alloc (.cells #[.slice A m c] 53)).alloc (.cells #[.map none, .map none] 121)).alloc (.map #[] 0)).alloc (.cells #[.map (some (w.heap.size + 2))] 119)).alloc (.cells #[.slice A m c] 53) := ⟨_, rfl⟩
  rw [← hW0]
  have HX := Lib.hid (dem_start w A m c W0 hW0)
  clear hW0 hmk
  have hx1 := HX.out.1
  refine wpIn_rangeFunc_frame hro h1 (gf := 127) (lb := #[.pointer (some ⟨w.heap.size + 4, 0, none⟩)]) rfl (hF _) (enters_of Try.func127 (by kernel_rfl) rfl)
    (cons_stops F (n - 1) HFW.out hro hF (by omega) w l A m c bs HU.out HB.out (fun z hz => (HFR.out z hz).2) (w.heap.size + 4) W0 HX.out.2.1 HX.out.2.2.2.2.2.2 (by omega)) (Below.refl _ _) (by omega) (fun k hk => by cases hk) (fun _ => rfl)
    (CmI (w.heap.size + 3) (w.heap.size + 2)) (fun _ _ _ _ => False) (cmi_foot _ _) (fun _ _ _ _ _ h _ _ => h) [w.heap.size + 3, w.heap.size + 2] (fun k hk => by simp at hk; rcases hk with rfl | rfl <;> simp <;> omega) ⟨rfl, by omega, HX.out.2.2.2.2.2.1, [], HX.out.2.2.2.2.1, (fun x hx => by cases hx), firsts_nil⟩
    (fun pre x a2 Fp X => a2 = { tmps := #[.agg #[.slice A m c], .pointer (some ⟨w.heap.size, 0, none⟩), .pointer (some ⟨w.heap.size + 1, 0, none⟩), .pointer (some ⟨w.heap.size + 3, 0, none⟩), .string x.1, .int .i64 (x.2 : Int), undef, undef, .map (some (w.heap.size + 2)), .agg #[.slice A m c], consFun (w.heap.size + 4), .string x.1, .int .i64 (x.2 : Int), undef, undef, undef, undef, undef, undef, undef, undef, undef, undef, undef, undef, undef, undef, undef], defers := [] } ∧ CmI (w.heap.size + 3) (w.heap.size + 2) pre Fp X) (fun xs x a2 Fp X Y h hs hk => ⟨h.1, cmi_foot _ _ _ _ _ _ h.2 hs hk⟩) ?assign ?body ?done ?stop
  case assign =>
    intro l2 pre x Fp X KX hI hFp hFr hK
    have HI := Lib.hid hI
    have HFP := Lib.hid hFp
    have HKX := Lib.hid hK
    clear hI hFp hFr hK
    dsimp only [Cn.enc]
    gi_wp2
    exact HKX.out _ Fp _ (Fr.refl _ _) (fun k hk => ⟨Or.inl hk, (HFP.out k hk).2⟩) ⟨rfl, HI.out⟩
  case body =>
    rintro l2 pre x _ Fp X ⟨rfl, rfl, hne, hB, M, hmi, hKM, hFs⟩ hFp hFr hlen
    have hc := hB.cell
    obtain ⟨v, b, hrun, hit⟩ := hmi.look (strT X) Try.underlying119 (zeroInt X) (key := .string x.1) ⟨_, rfl⟩ hKM
    have hr2 := hrun true
    simp only [if_true] at hr2
    have HB1 := Lib.hid hB
    have HMI := Lib.hid hmi
    have HKM := Lib.hid hKM
    have HFS := Lib.hid hFs
    have HNE := Lib.hid hne
    rcases hFs.hits hit with ⟨p, hp1, hp2, hp3⟩ | ⟨hp1, hp2, hp3⟩
    · subst hp2 hp3
      dsimp only [cval] at hr2
      have HHIT := Lib.hid hit
      clear hB hmi hKM hFs hne hFp hFr hrun hit hp1
      gi_wp2
      exact cm_same HNE.out HB1.out HMI.out HKM.out HFS.out HHIT.out
    · subst hp2 hp3
      have HHIT := Lib.hid hit
      clear hB hmi hKM hFs hne hFp hFr hrun hit hp1
      gi_wp2_with (gi_at_mapUpdate; refine asc_put_in _ rfl _ _ _ 119 rfl 9 3 Try.underlying119 StrK (strT X) (w.heap.size + 2) M rfl HMI.out _ _ rfl rfl ⟨_, rfl⟩ HKM.out ?_; intro W5 L2 hmi5 hput5 hgr5; have HM5 := Lib.hid hmi5; have HP5 := Lib.hid hput5; have HG5 := Lib.hid hgr5; clear hmi5 hput5 hgr5)
      exact cm_step HNE.out HB1.out HMI.out HKM.out HFS.out HHIT.out HM5.out HP5.out HG5.out
  case done =>
    rintro D xs Fp X hD hDF hFl hS ⟨rfl, hne, hB, M, hmi, hKM, hFs⟩ hFr hK
    have hFw := HFW.out
    subst hFw
    have HLW := Lib.hid (show Below w.heap.size w X from HX.out.2.1.trans (hFr.below (by simp <;> omega) (by omega)))
    have hc : X.cell? ⟨w.heap.size + 1 + 1 + 1, 0, none⟩ = some (.map (some (w.heap.size + 1 + 1))) := hB.cell
    have hpc := (box_on HX.out.2.2.1 (hFr.block w.heap.size (by omega) (by simp <;> omega))).cell
    have hrb := (hFr.block (w.heap.size + 1) (by omega) (by simp <;> omega)).trans HX.out.2.2.2.1
    have HC0 := Lib.hid (show X.cell? ⟨w.heap.size, 0, none⟩ = some (.slice A m c) ∧ X.cell? ⟨w.heap.size + 1 + 1 + 1, 0, none⟩ = some (.map (some (w.heap.size + 1 + 1))) ∧ X.heap[w.heap.size + 1]? = some (.cells #[.map none, .map none] 121 (0, 0)) from ⟨hpc, hc, hrb⟩)
    have HDX := Lib.hid hD
    have HCALL := Lib.hid (own_first l _ bs X.drew (HV.out.below HLW.out.drew) HLB.out)
    have HB1 := Lib.hid hB
    have HMI := Lib.hid hmi
    have HKM := Lib.hid hKM
    have HFS := Lib.hid hFs
    have HNE := Lib.hid hne
    have HS := Lib.hid hS
    have HK := Lib.hid hK
    clear hB hmi hKM hFs hne hFr hS hK hFl hrb hD hDF
    gi_wp2
    refine drop_rest (wpIn_wide.2 ?_)
    go_region_law (first | (go_simp; go_at_call 131; refine HCALL.out.mono ?_; rintro r w6 ⟨mb, M1, ys, rfl, hm6, hk6, hy6, hf6, hl6, hb6⟩; obtain ⟨hz1, hz2, hz3, hz4, hz5, hz6⟩ := dem_after HC0 hb6))
    all_goals
      gi_wp2
      exact dem_end rfl rfl HLW.out HK.out (by have := HDX.out; omega) (by have := HB1.out.lt; omega) HMI.out HKM.out HFS.out HS.out hm6 hk6 hy6 hf6 hl6 hb6 hz2 hz3
  case stop =>
    rintro D c pre Fp X _ _ _ _ h _ _
    exact h.elim
theorem own_dem (l : List Ru) (v : Value) (bs : List Nat) (w : World) (hv : PrIs w v l bs) (hfr : Thawed w bs) (hb : ∀ r ∈ l, exSize r.body ≤ 1099511627776) (hlb : l.length ≤ 1099511627776) : Calls Try.prog 84 #[v] w (DemPost l w) :=
  callsIn_wide.1 (dem_in Fence.wide 10 rfl rfl (fun _ => trivial) (Nat.le_refl _) l v bs w hv hfr hb hlb)
end Go.Proofs.Ytmndlhbgacgnlaa
