/- A law of our own for a range over a function whose iterator keeps state in cells of its own: both sides name the blocks that are theirs (footprints). No condition. -/
import Derived.RangeFuncNested
import Derived.RangeFuncBound
import Derived.RangeFuncCalls
import Derived.RangeFuncLeaves
import Derived.Lib.Hide
namespace Go.Proofs.Ytegigjnlecpplaa
open Go Go.RowKit

/-- From W to W2 only blocks of S may have turned; new ones may have come. -/
structure Fr (S : List Nat) (W W2 : World) : Prop where
  os : W2.os = W.os
  tape : W2.tape = W.tape
  output : W2.output = W.output
  size : W.heap.size ≤ W2.heap.size
  block : ∀ k, k < W.heap.size → k ∉ S → W2.heap[k]? = W.heap[k]?

theorem Fr.refl (S : List Nat) (W : World) : Fr S W W := ⟨rfl, rfl, rfl, Nat.le_refl _, fun _ _ _ => rfl⟩
theorem Fr.trans {S T : List Nat} {A B C : World} (h : Fr S A B) (k : Fr T B C) (hs : ∀ x ∈ T, x ∈ S ∨ A.heap.size ≤ x) : Fr S A C :=
  ⟨k.os.trans h.os, k.tape.trans h.tape, k.output.trans h.output, Nat.le_trans h.size k.size, fun x hx hn => (k.block x (Nat.lt_of_lt_of_le hx h.size) (fun hm => (hs x hm).elim hn (fun h2 => by omega))).trans (h.block x hx hn)⟩
theorem Fr.below {S : List Nat} {W W2 : World} (h : Fr S W W2) {n : Nat} (hS : ∀ x ∈ S, n ≤ x) (hn : n ≤ W.heap.size) : Below n W W2 :=
  ⟨h.os, h.tape, h.output, h.size, fun k hk => h.block k (by omega) (fun hm => by have := hS k hm; omega)⟩
theorem Fr.of_below {S : List Nat} {W W2 : World} (h : Below W.heap.size W W2) : Fr S W W2 := ⟨h.os, h.tape, h.output, h.size, fun k hk _ => h.block k hk⟩
theorem Fr.mono {S T : List Nat} {A B : World} (h : Fr S A B) (hs : ∀ x ∈ S, x ∈ T ∨ A.heap.size ≤ x) : Fr T A B :=
  ⟨h.os, h.tape, h.output, h.size, fun x hx hn => h.block x hx (fun hm => (hs x hm).elim hn (fun h2 => by omega))⟩
theorem Fr.step {S T : List Nat} {A B C : World} (h : Fr S A B) (k : Fr T B C) (hs : ∀ x ∈ T, x ∈ S ∨ A.heap.size ≤ x) : Fr S A C := h.trans k hs
theorem Fr.set {S : List Nat} (W : World) (p : Addr) (u : Value) (hp : p.block ∈ S) : Fr S W (W.setCell p u) :=
  ⟨rfl, rfl, rfl, by simp [World.setCell], fun k _ hn => Below.heap_setCell _ _ _ _ (fun e => hn (e ▸ hp))⟩
theorem Fr.put {S : List Nat} (W : World) (l : Nat) (o : Obj) (hp : l ∈ S) : Fr S W (W.putObj l o) :=
  ⟨rfl, rfl, rfl, by simp, fun k _ hn => World.putObj_heap_other (fun e => hn (e ▸ hp))⟩
theorem Fr.alloc {S : List Nat} (W : World) (o : Obj) : Fr S W (W.alloc o) := Fr.of_below ((Below.refl _ W).alloc (Nat.le_refl _) o)
theorem Fr.grown {S : List Nat} {W W2 : World} {row : Option Nat} (hg : W.grownBy W2 row) (hr : ∀ k, row = some k → k ∈ S) : Fr S W W2 :=
  ⟨hg.os, hg.tape, hg.output, hg.size, fun k hk hn => hg.block k hk (fun e => hn (hr k e.symm))⟩
theorem Fr.drew {S : List Nat} {W W2 : World} (h : Fr S W W2) : Fr S W W2.drew := ⟨h.os, h.tape, h.output, h.size, h.block⟩

/-- What is said of the blocks of a footprint alone. -/
def Foot (I : List Nat → World → Prop) : Prop := ∀ Fp A B, I Fp A → A.heap.size ≤ B.heap.size → (∀ k ∈ Fp, B.heap[k]? = A.heap[k]?) → I Fp B
/-- The iterator may turn its own blocks M and make new ones. -/
def Minds {α : Type} (J : List α → List Nat → World → Prop) : Prop := ∀ pre M M2 A B, J pre M A → Fr M A B → (∀ k ∈ M2, k ∈ M ∨ A.heap.size ≤ k) → J pre M2 B
/-- What a round that goes on keeps for the iterator. -/
def Kept (n₀ : Nat) (M : List Nat) (A B : World) : Prop := Below n₀ A B ∧ ∀ k ∈ M, B.heap[k]? = A.heap[k]?

def SeqF {α : Type} (F : Fence) (n : Nat) (P : Program) (g : Nat) (lb : Array Value) (encs : α → Array Value) (n₀ : Nat) (S Sp : List α → Prop) (N : Nat) (M0 : List Nat) (w : World) : Prop :=
  ∀ (l : Nat) (J Jx : List α → List Nat → World → Prop) (W : World), Below w.heap.size w W → Minds J → Minds Jx →
    (∀ pre x M W1, J pre M W1 → (∀ k ∈ M, k < W1.heap.size) → pre.length < N → YieldAt F (n - 1) P l (encs x) W1 fun e W2 =>
      (e = .returned (.bool true) ∧ J (pre ++ [x]) M W2 ∧ Kept n₀ M W1 W2) ∨ (e = .returned (.bool false) ∧ Jx (pre ++ [x]) M W2 ∧ Kept n₀ M W1 W2)) →
    J [] M0 W →
    CallsIn F n P g (#[.func (.yield l) #[] #[]] ++ lb) W fun e W2 => (∃ v, e = .returned v) ∧ ((∃ xs M, S xs ∧ J xs M W2) ∨ (∃ pre M, Sp pre ∧ Jx pre M W2))

/-- How the body of a round may be left. -/
def framePost {α : Type} (I : List α → List Nat → World → Prop) (Ix : Code → List α → List Nat → World → Prop) (xs : List α) (Fp : List Nat) (W : World) : Exit → Act → World → Prop
  | .normal, _, W2 => ∃ Fp2, Fr Fp W W2 ∧ (∀ k ∈ Fp2, (k ∈ Fp ∨ W.heap.size ≤ k) ∧ k < W2.heap.size) ∧ I xs Fp2 W2
  | .ret, _, W2 => ∃ Fp2, Fr Fp W W2 ∧ (∀ k ∈ Fp2, (k ∈ Fp ∨ W.heap.size ≤ k) ∧ k < W2.heap.size) ∧ Ix .ret xs Fp2 W2
  | .exit id, _, W2 => ∃ Fp2, Fr Fp W W2 ∧ (∀ k ∈ Fp2, (k ∈ Fp ∨ W.heap.size ≤ k) ∧ k < W2.heap.size) ∧ Ix (.exit id) xs Fp2 W2
  | .goto t, _, W2 => ∃ Fp2, Fr Fp W W2 ∧ (∀ k ∈ Fp2, (k ∈ Fp ∨ W.heap.size ≤ k) ∧ k < W2.heap.size) ∧ Ix (.goto t) xs Fp2 W2
  | .panic _, _, _ => False
  | .outgrown, _, _ => False

/-- What the row of a value holds, told of its own block alone. -/
theorem row_on {w w2 : World} {base : Nat} {t : TypeId} {size : Nat} {v : Value} {n : Nat} {xs : List Value} (h : w.ownsRow base t size v n xs) (hk : ∀ k, v.ownBlock = some k → w2.heap[k]? = w.heap[k]?) : w2.ownsRow base t size v n xs := by
  obtain ⟨h1, h2⟩ := h
  refine ⟨h1, ?_⟩
  rcases h2 with h2 | ⟨g, cap, cur, rfl, hb, hg, h3⟩
  · exact Or.inl h2
  · exact Or.inr ⟨g, cap, cur, rfl, hb, (hk g rfl).trans hg, h3⟩
theorem box_on {w w2 : World} {B : Nat} {t : TypeId} {v : Value} (h : Boxed w B t v) (hk : w2.heap[B]? = w.heap[B]?) : Boxed w2 B t v := hk.trans h

variable {F : Fence} {n : Nat} {P : Program}

theorem wpIn_rangeFunc_frame {α : Type} {g : Operand} {ps : Array Tmp} {assign body : Code} {Q : Exit → Act → World → Prop} {a : Act} {w : World}
    (hro : F.round = none) (h1 : 1 ≤ n) {gf : Nat} {lb : Array Value} (hg : a.eval g = .func (.func gf) #[] lb) (hFg : F.fn gf) (eg : ∀ args w, (callFunc gf args).run P w = .ok (.enter gf args) w)
    {encs : α → Array Value} {n₀ : Nat} {S Sp : List α → Prop} {N : Nat} {M0 : List Nat} {w0 : World} (hseq : SeqF F (n - 1) P gf lb encs n₀ S Sp N M0 w0)
    (hb0 : Below w0.heap.size w0 w) (hn0 : n₀ ≤ w.heap.size) (hM0 : ∀ k ∈ M0, n₀ ≤ k ∧ k < w.heap.size) (hps : ∀ x, (encs x).size = ps.size)
    (I : List α → List Nat → World → Prop) (Ix : Code → List α → List Nat → World → Prop) (hI : ∀ xs, Foot (I xs)) (hIx : ∀ c xs, Foot (Ix c xs))
    (Fp0 : List Nat) (hFp0 : ∀ k ∈ Fp0, n₀ ≤ k ∧ k < w.heap.size ∧ k ∉ M0) (h0 : I [] Fp0 w)
    (Ax : List α → α → Act → List Nat → World → Prop) (hAx : ∀ xs x a2, Foot (Ax xs x a2))
    (hassign : ∀ (l : Nat) (pre : List α) (x : α) (Fp : List Nat) (W : World) (K : Act → World → Prop), I pre Fp W → (∀ k ∈ Fp, n₀ ≤ k ∧ k < W.heap.size) → Fr (Fp0 ++ M0) w W →
      (∀ a2 Fp2 W2, Fr Fp W W2 → (∀ k ∈ Fp2, (k ∈ Fp ∨ W.heap.size ≤ k) ∧ k < W2.heap.size) → Ax pre x a2 Fp2 W2 → K a2 W2) →
      assign.wpIn (F.inRound l) (n - 1 - 1) P (Exit.then K (fun _ _ _ => False)) { tmps := (ps.zip (encs x)).foldl (fun t (p, v) => t.setIfInBounds p v) a.tmps, defers := [] } W)
    (hbody : ∀ (l : Nat) (pre : List α) (x : α) (a2 : Act) (Fp : List Nat) (W : World), Ax pre x a2 Fp W → (∀ k ∈ Fp, n₀ ≤ k ∧ k < W.heap.size) → Fr (Fp0 ++ M0) w W → pre.length < N →
      body.wpIn (F.inRound l) (n - 1 - 1) P (framePost I Ix (pre ++ [x]) Fp W) a2 W)
    (hdone : ∀ (D : Nat) (xs : List α) (Fp : List Nat) (W : World), w.heap.size ≤ D → D ∉ Fp → (∀ k ∈ Fp, k < W.heap.size ∧ (k ∈ Fp0 ∨ w.heap.size ≤ k)) → S xs → I xs Fp W → Fr (Fp0 ++ M0) w W → W.heap[D]? = some (.deferred (some [])) → Q .normal { a with defers := { target := .collected D, args := #[] } :: a.defers } W)
    (hstop : ∀ (D : Nat) (c : Code) (pre : List α) (Fp : List Nat) (W : World), w.heap.size ≤ D → D ∉ Fp → (∀ k ∈ Fp, k < W.heap.size ∧ (k ∈ Fp0 ∨ w.heap.size ≤ k)) → Sp pre → Ix c pre Fp W → Fr (Fp0 ++ M0) w W → W.heap[D]? = some (.deferred (some [])) → c.wpIn F n P Q { a with defers := { target := .collected D, args := #[] } :: a.defers } W) :
    (Code.rangeFunc g ps assign body).wpIn F n P Q a w := by
  refine wpIn_rangeFunc fun fn hfn => ?_
  rw [hro]
  obtain ⟨lr, hlr⟩ : ∃ lr : LoopState → Option Code → Loop, ∀ st pe, lr st pe = { state := st, pending := pe, fn, tmps := a.tmps, params := ps, assign, body, defers := w.heap.size } := ⟨_, fun _ _ => rfl⟩
  obtain ⟨X, hX⟩ : ∃ X, X = (w.alloc (.deferred (some []))).alloc (.loop (lr .ready none)) := ⟨_, rfl⟩
  have hsX : X.heap.size = w.heap.size + 2 := by rw [hX]; simp
  have hXl : X.heap[w.heap.size + 1]? = some (.loop (lr .ready none)) := by
    have := World.alloc_heap_new (w.alloc (.deferred (some []))) (.loop (lr .ready none))
    rw [World.size_alloc, ← hX] at this
    exact this
  have hXd : X.heap[w.heap.size]? = some (.deferred (some [])) := by
    rw [hX]; exact (Below.heap_alloc _ _ _ (by simp)).trans (World.alloc_heap_new w _)
  have hwX : Below w.heap.size w X := by
    rw [hX]; exact ((Below.refl _ w).alloc (Nat.le_refl _) _).alloc (by simp) _
  -- what both sides hold to, between two rounds
  let Jn : (List α → List Nat → World → Prop) → (World → Prop) → List α → List Nat → World → Prop := fun G L pre M W =>
    ∃ Fp, G pre Fp W ∧ (∀ k ∈ Fp, n₀ ≤ k ∧ k < W.heap.size ∧ k ∉ M ∧ k ≠ w.heap.size ∧ k ≠ w.heap.size + 1 ∧ (k ∈ Fp0 ∨ w.heap.size ≤ k)) ∧ Fr (Fp0 ++ M0) w W ∧ L W ∧ W.heap[w.heap.size]? = some (.deferred (some [])) ∧ w.heap.size ∉ M ∧ w.heap.size + 1 ∉ M ∧ (∀ k ∈ M, n₀ ≤ k ∧ (k ∈ M0 ∨ w.heap.size ≤ k))
  have hminds : ∀ (G : List α → List Nat → World → Prop) (L : World → Prop), (∀ xs, Foot (G xs)) → (∀ A, L A → w.heap.size + 1 < A.heap.size) → (∀ A B : World, L A → B.heap[w.heap.size + 1]? = A.heap[w.heap.size + 1]? → L B) → Minds (Jn G L) := by
    intro G L hG hL0 hL pre M M2 A B ⟨Fp, h1, h2, h3, h4, h5, h6, h7, h8⟩ hf hm
    have hlt := hL0 A h4
    have hnew : ∀ k, k < A.heap.size → k ∉ M → k ∉ M2 := fun k hk hn hk2 => (hm k hk2).elim hn (fun h => by omega)
    refine ⟨Fp, hG pre Fp A B h1 hf.size (fun k hk => hf.block k (h2 k hk).2.1 (h2 k hk).2.2.1), fun k hk => ?_, h3.trans hf (fun k hk => (h8 k hk).2.imp (fun h => List.mem_append_right _ h) id), hL A B h4 (hf.block _ hlt h7), (hf.block _ (by omega) h6).trans h5, hnew _ (by omega) h6, hnew _ (by omega) h7, fun k hk => ?_⟩
    · obtain ⟨e1, e2, e3, e4, e5⟩ := h2 k hk
      exact ⟨e1, Nat.lt_of_lt_of_le e2 hf.size, hnew k e2 e3, e4, e5⟩
    · rcases hm k hk with h | h
      · exact h8 k h
      · exact ⟨by omega, Or.inr (by omega)⟩
  let L1 : World → Prop := fun W => W.heap[w.heap.size + 1]? = some (.loop (lr .ready none))
  refine ⟨w.heap.size + 1, [{ target := .collected w.heap.size, args := #[] }], X, { target := .fn (.func gf) lb, args := #[.func (.yield (w.heap.size + 1)) #[] #[]] }, X, gf,
    #[.func (.yield (w.heap.size + 1)) #[] #[]] ++ lb, X, ?_, ?_, ?_, ?_, fun _ => h1, ?_⟩
  · rw [hX, hlr]; exact run_enterLoop_outer _ _ _ _ _
  · simp only [resolve, hg]
    simp [go_sem]
  · intro f2 hf2; simp [Target.leads] at hf2; subst hf2; exact hFg
  · simp [invoke, go_sem, eg]
  · refine (hseq (w.heap.size + 1) (Jn I L1)
      (fun pre M W => ∃ c, Jn (Ix c) (fun W => W.heap[w.heap.size + 1]? = some (.loop (lr .done (some c)))) pre M W)
      X (hb0.trans (hwX.mono hb0.size))
      (hminds _ _ hI (fun A h => (Array.getElem?_eq_some_iff.1 h).1) (fun A B h e => e.trans h))
      (fun pre M M2 A B ⟨c, h⟩ hf hm => ⟨c, hminds _ _ (hIx c) (fun A h => (Array.getElem?_eq_some_iff.1 h).1) (fun A B h e => e.trans h) pre M M2 A B h hf hm⟩)
      ?_ ?_).mono ?_
    · -- one round
      rintro pre x M W ⟨Fp, hi, hF, hB, hl, hd, hdM, hlM, hMn⟩ hMs hlen
      have hlt : w.heap.size + 1 < W.heap.size := (Array.getElem?_eq_some_iff.1 hl).1
      have hy := run_yield (P := P) (args := encs x) hl (by rw [hlr]; exact hps x)
      rw [hlr] at hy
      refine ⟨fn, _, assign, body, hy, roundIn_of_wpIn hfn (hassign _ pre x Fp W _ hi (fun k hk => ⟨(hF k hk).1, (hF k hk).2.1⟩) hB ?_)⟩
      intro a2 Fp2 W2 hfr2 hFp2 hax
      have hold2 : ∀ k, k < W.heap.size → k ∉ Fp → k ∉ Fp2 := fun k hk hn h => (hFp2 k h).1.elim hn (fun h => by omega)
      have hlF : w.heap.size + 1 ∉ Fp := fun h => (hF _ h).2.2.2.2.1 rfl
      have hdF : w.heap.size ∉ Fp := fun h => (hF _ h).2.2.2.1 rfl
      have hl2 := (hfr2.block _ hlt hlF).trans hl
      have hd2 := (hfr2.block _ (by omega) hdF).trans hd
      have hlt2 : w.heap.size + 1 < W2.heap.size := Nat.lt_of_lt_of_le hlt hfr2.size
      refine ⟨_, run_beginRound hl2 (by rw [hlr]), ?_⟩
      obtain ⟨W3, hW3⟩ : ∃ W3, W3 = W2.putObj (w.heap.size + 1) (.loop { lr .ready none with state := .busy }) := ⟨_, rfl⟩
      rw [← hW3]
      have hs3 : W3.heap.size = W2.heap.size := by rw [hW3]; simp
      have ho3 : ∀ k, k ≠ w.heap.size + 1 → W3.heap[k]? = W2.heap[k]? := fun k hk => by rw [hW3]; exact World.putObj_heap_other hk
      have hl3 : W3.heap[w.heap.size + 1]? = some (.loop { lr .ready none with state := .busy }) := by rw [hW3]; exact World.putObj_heap_same hlt2
      have hlF2 := hold2 _ hlt hlF
      have hdF2 := hold2 _ (by omega) hdF
      have hFn : ∀ k ∈ Fp2, n₀ ≤ k := fun k hk => (hFp2 k hk).1.elim (fun h => (hF k h).1) (fun h => by omega)
      have hB2 : Fr (Fp0 ++ M0) w W2 := hB.trans hfr2 (fun k hk => (hF k hk).2.2.2.2.2.imp (fun h => List.mem_append_left _ h) id)
      have hB3 : Fr (Fp0 ++ M0) w W3 := hB2.trans (T := [w.heap.size + 1]) (by rw [hW3]; exact Fr.put W2 _ _ (by simp)) (by simp)
      have hFo : ∀ k ∈ Fp2, k ∈ Fp0 ∨ w.heap.size ≤ k := fun k hk => (hFp2 k hk).1.elim (fun h => (hF k h).2.2.2.2.2) (fun h => Or.inr (by omega))
      refine wpIn_mono (hbody _ pre x a2 Fp2 W3 (hAx pre x a2 Fp2 W2 W3 hax (by omega) (fun k hk => ho3 k (fun e => hlF2 (e ▸ hk)))) (fun k hk => ⟨hFn k hk, by rw [hs3]; exact (hFp2 k hk).2⟩) hB3 hlen) ?_
      -- behind the body
      have fin : ∀ (jump : Option Code) (Fp4 : List Nat) (W4 : World), Fr Fp2 W3 W4 → (∀ k ∈ Fp4, (k ∈ Fp2 ∨ W3.heap.size ≤ k) ∧ k < W4.heap.size) →
          (Instr.endRound (w.heap.size + 1) jump).run P W4 = .ok (.bool jump.isNone) (W4.putObj (w.heap.size + 1) (.loop (lr (if jump.isNone then .ready else .done) jump))) ∧
          ∀ G : List α → List Nat → World → Prop, (∀ xs, Foot (G xs)) → G (pre ++ [x]) Fp4 W4 →
            Jn G (fun W => W.heap[w.heap.size + 1]? = some (.loop (lr (if jump.isNone then .ready else .done) jump))) (pre ++ [x]) M (W4.putObj (w.heap.size + 1) (.loop (lr (if jump.isNone then .ready else .done) jump))) ∧
            Kept n₀ M W (W4.putObj (w.heap.size + 1) (.loop (lr (if jump.isNone then .ready else .done) jump))) := by
        intro jump Fp4 W4 hfr4 hFp4
        have hl4 := (hfr4.block _ (by omega) hlF2).trans hl3
        have hd4 := (hfr4.block _ (by omega) hdF2).trans ((ho3 _ (by omega)).trans hd2)
        have hr := run_endRound (P := P) jump hl4
        rw [hlr] at hr ⊢
        have hlt4 : w.heap.size + 1 < W4.heap.size := (Array.getElem?_eq_some_iff.1 hl4).1
        obtain ⟨W5, hW5⟩ : ∃ W5, W5 = W4.putObj (w.heap.size + 1) (.loop (lr (if jump.isNone then .ready else .done) jump)) := ⟨_, rfl⟩
        rw [hlr] at hW5
        have ho5 : ∀ k, k ≠ w.heap.size + 1 → W5.heap[k]? = W4.heap[k]? := fun k hk => by rw [hW5]; exact World.putObj_heap_other hk
        have hs5 : W5.heap.size = W4.heap.size := by rw [hW5]; simp
        have hold4 : ∀ k, k < W3.heap.size → k ∉ Fp2 → k ∉ Fp4 := fun k hk hn h => (hFp4 k h).1.elim hn (fun h => by omega)
        have hs2 := hfr2.size
        have hs4 := hfr4.size
        have hB4 : Below n₀ W3 W4 := hfr4.below hFn (by omega)
        have hB5 : Below n₀ W4 W5 := by rw [hW5]; exact (Fr.put (S := [w.heap.size + 1]) W4 _ _ (by simp)).below (by simp; omega) (by omega)
        refine ⟨hr, ?_⟩
        rw [← hW5]
        intro G hG hg4
        refine ⟨⟨Fp4, hG _ Fp4 W4 W5 hg4 (by omega) (fun k hk => ho5 k (fun e => hold4 _ (by omega) hlF2 (e ▸ hk))), fun k hk => ?_, (hB3.trans hfr4 (fun k hk => (hFo k hk).imp (fun h => List.mem_append_left _ h) id)).trans (T := [w.heap.size + 1]) (by rw [hW5]; exact Fr.put W4 _ _ (by simp)) (by simp), by rw [hW5]; exact World.putObj_heap_same hlt4, (ho5 _ (by omega)).trans hd4, hdM, hlM, hMn⟩, ?_, fun k hk => ?_⟩
        · obtain ⟨e1, e2⟩ := hFp4 k hk
          refine ⟨e1.elim (hFn k) (fun h => by omega), by omega, fun hm => ?_, fun e => hold4 _ (by omega) hdF2 (e ▸ hk), fun e => hold4 _ (by omega) hlF2 (e ▸ hk), e1.elim (hFo k) (fun h => Or.inr (by omega))⟩
          have := hMs k hm
          exact hold4 k (by omega) (hold2 k this (fun h => (hF k h).2.2.1 hm)) hk
        · refine ((hfr2.below (fun k hk => (hF k hk).1) (by omega)).trans ?_).trans (hB4.trans hB5)
          rw [hW3]; exact (Fr.put (S := [w.heap.size + 1]) W2 _ _ (by simp)).below (by simp; omega) (by omega)
        · have hkW := hMs k hk
          have hkl : k ≠ w.heap.size + 1 := fun e => hlM (e ▸ hk)
          have hkF : k ∉ Fp := fun h => (hF k h).2.2.1 hk
          exact (ho5 k hkl).trans ((hfr4.block k (by omega) (hold2 k hkW hkF)).trans ((ho3 k hkl).trans (hfr2.block k hkW hkF)))
      rintro e a4 W4 hp
      cases e with
      | normal =>
        obtain ⟨Fp4, q1, q2, q3⟩ := hp
        obtain ⟨r1, r2⟩ := fin none Fp4 W4 q1 q2
        obtain ⟨r3, r4⟩ := r2 I hI q3
        exact ⟨_, _, r1, .inl ⟨rfl, r3, r4⟩⟩
      | ret =>
        obtain ⟨Fp4, q1, q2, q3⟩ := hp
        obtain ⟨r1, r2⟩ := fin (some .ret) Fp4 W4 q1 q2
        obtain ⟨r3, r4⟩ := r2 (Ix .ret) (hIx _) q3
        exact ⟨_, _, r1, .inr ⟨rfl, ⟨.ret, r3⟩, r4⟩⟩
      | exit id =>
        obtain ⟨Fp4, q1, q2, q3⟩ := hp
        obtain ⟨r1, r2⟩ := fin (some (.exit id)) Fp4 W4 q1 q2
        obtain ⟨r3, r4⟩ := r2 (Ix (.exit id)) (hIx _) q3
        exact ⟨_, _, r1, .inr ⟨rfl, ⟨.exit id, r3⟩, r4⟩⟩
      | goto t =>
        obtain ⟨Fp4, q1, q2, q3⟩ := hp
        obtain ⟨r1, r2⟩ := fin (some (.goto t)) Fp4 W4 q1 q2
        obtain ⟨r3, r4⟩ := r2 (Ix (.goto t)) (hIx _) q3
        exact ⟨_, _, r1, .inr ⟨rfl, ⟨.goto t, r3⟩, r4⟩⟩
      | panic ch => exact hp.elim
      | outgrown => exact hp.elim
    · refine ⟨Fp0, hI [] Fp0 w X h0 hwX.size (fun k hk => hwX.block k (hFp0 k hk).2.1), fun k hk => ?_, Fr.of_below hwX, hXl, hXd, fun h => by have := (hM0 _ h).2; omega, fun h => by have := (hM0 _ h).2; omega, fun k hk => ⟨(hM0 k hk).1, Or.inl hk⟩⟩
      obtain ⟨e1, e2, e3⟩ := hFp0 k hk
      exact ⟨e1, by omega, e3, by omega, by omega, Or.inl hk⟩
    · -- behind the iterator
      have leave : ∀ (G : List α → List Nat → World → Prop) (st : LoopState) (pe : Option Code) (xs : List α) (M : List Nat) (W : World), (∀ xs, Foot (G xs)) → Jn G (fun W => W.heap[w.heap.size + 1]? = some (.loop (lr st pe))) xs M W → st ≠ .busy →
          ∃ Fp W2, (Instr.endLoop (w.heap.size + 1)).run P W = .ok pe W2 ∧ G xs Fp W2 ∧ w.heap.size ∉ Fp ∧ (∀ k ∈ Fp, k < W2.heap.size ∧ (k ∈ Fp0 ∨ w.heap.size ≤ k)) ∧ Fr (Fp0 ++ M0) w W2 ∧ W2.heap[w.heap.size]? = some (.deferred (some [])) := by
        rintro G st pe xs M W hG ⟨Fp, hi, hF, hB, hl, hd, -, -, -⟩ hst
        have hr := run_endLoop (P := P) hl (by rw [hlr]; exact hst)
        have hlt : w.heap.size + 1 < W.heap.size := (Array.getElem?_eq_some_iff.1 hl).1
        refine ⟨Fp, _, by rw [hlr] at hr; exact hr, hG xs Fp W _ hi (by simp) (fun k hk => World.putObj_heap_other (hF k hk).2.2.2.2.1), fun h => (hF _ h).2.2.2.1 rfl, fun k hk => ⟨by simp; exact (hF k hk).2.1, (hF k hk).2.2.2.2.2⟩, hB.trans (T := [w.heap.size + 1]) (Fr.put W _ _ (by simp)) (by simp), (World.putObj_heap_other (by omega)).trans hd⟩
      rintro e W2 ⟨⟨v, rfl⟩, (⟨xs, M, hS, hj⟩ | ⟨pre, M, hSp, c, hj⟩)⟩
      · obtain ⟨Fp, W4, r1, r2, r3, r4, r5, r6⟩ := leave I .ready none xs M W2 hI hj (by simp)
        exact ⟨none, W4, r1, hdone _ xs Fp W4 (Nat.le_refl _) r3 r4 hS r2 r5 r6⟩
      · obtain ⟨Fp, W4, r1, r2, r3, r4, r5, r6⟩ := leave (Ix c) .done (some c) pre M W2 (hIx c) hj (by simp)
        exact ⟨some c, W4, r1, hstop _ c pre Fp W4 (Nat.le_refl _) r3 r4 hSp r2 r5 r6⟩
end Go.Proofs.Ytegigjnlecpplaa
