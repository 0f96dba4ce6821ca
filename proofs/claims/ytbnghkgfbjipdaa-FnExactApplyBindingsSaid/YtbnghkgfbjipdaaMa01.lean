/- Expressions as plain data, and what it says that an expression lies in memory. No condition. The contract of the laws' copy of an expression: new memory of its own. Condition: fewer than 2^40 nodes. An expression among the arguments: what it reads as. No condition. Two closed facts of the program that every last step wants. No condition. -/
import Derived.Test.YtbnghkgfbjipdaaRows
import Derived.WalkKit
import Derived.Lib.Hide
import Derived.WalkSpells
import Derived.WalkLawsBesides
import Derived.Laws.OwnMore
import Derived.Outline
import Derived.ProofKit
import Derived.OpenShut
import Derived.Lib.SmallJoins
import Derived.Deep.Fields
import Derived.SizedLaws
namespace Go.Proofs.Ytbnghkgfbjipdaa
open Go Go.RowKit

/-- An expression: kind, name, arguments. -/
inductive Ex where
  | mk (kind : Int) (name : ByteArray) (args : List Ex)

namespace Ex
def kind : Ex → Int
  | .mk k _ _ => k
def name : Ex → ByteArray
  | .mk _ s _ => s
def args : Ex → List Ex
  | .mk _ _ l => l
end Ex

mutual
/-- How many nodes. -/
def exSize : Ex → Nat
  | .mk _ _ l => exSizes l + 1
def exSizes : List Ex → Nat
  | [] => 0
  | e :: r => exSize e + exSizes r
end

theorem exSize_pos (e : Ex) : 1 ≤ exSize e := by cases e; simp [exSize]
theorem exSizes_mem : ∀ {l : List Ex} {e : Ex}, e ∈ l → exSize e ≤ exSizes l := by
  intro l
  induction l with
  | nil => intro e h; cases h
  | cons x r ih =>
    intro e h
    rw [exSizes]
    rcases List.mem_cons.1 h with rfl | h
    · omega
    · have := ih h; omega
theorem sizes_len : ∀ l : List Ex, l.length ≤ exSizes l := by
  intro l
  induction l with
  | nil => simp
  | cons e r ih => rw [exSizes, List.length_cons]; have := exSize_pos e; omega
theorem exSize_args {e x : Ex} (h : x ∈ e.args) : exSize x < exSize e := by
  cases e with
  | mk k s l =>
    have := exSizes_mem (l := l) h
    rw [exSize]; omega

mutual
/-- The cells of the elements of a slice, from an index on; bs: the blocks of the slices below. -/
def ExsAt (w : World) (g o : Nat) : Nat → List Ex → List Nat → Prop
  | _, [], bs => bs = []
  | i, e :: r, bs => ∃ b1 b2, bs = b1 ++ b2 ∧ ExAt w g (o + i * 3) e b1 ∧ ExsAt w g o (i + 1) r b2
/-- The three cells of an expression. -/
def ExAt (w : World) (g o : Nat) : Ex → List Nat → Prop
  | .mk k s l, bs => w.cell? ⟨g, o, none⟩ = some (.int .i64 k) ∧ w.cell? ⟨g, o + 1, none⟩ = some (.string s) ∧ s.size ≤ 9223372036854775807 ∧ ∃ A c, w.cell? ⟨g, o + 2, none⟩ = some (.slice A l.length c) ∧ l.length ≤ c ∧ c ≤ 9223372036854775807 ∧
      ((l = [] ∧ bs = []) ∨ ∃ g' o' bs', A = some ⟨g', o', none⟩ ∧ g' < w.heap.size ∧ bs = g' :: bs' ∧ ExsAt w g' o' 0 l bs')
end
/-- A slice value that reads as the expressions l. -/
def SlIs (w : World) (v : Value) (l : List Ex) (bs : List Nat) : Prop :=
  ∃ A c, v = .slice A l.length c ∧ l.length ≤ c ∧ c ≤ 9223372036854775807 ∧ ((l = [] ∧ bs = []) ∨ ∃ g' o' bs', A = some ⟨g', o', none⟩ ∧ g' < w.heap.size ∧ bs = g' :: bs' ∧ ExsAt w g' o' 0 l bs')
/-- A struct value that reads as the expression e. -/
def ExIs (w : World) (v : Value) (e : Ex) (bs : List Nat) : Prop :=
  ∃ u, v = .agg #[.int .i64 e.kind, .string e.name, u] ∧ e.name.size ≤ 9223372036854775807 ∧ SlIs w u e.args bs
theorem ExAt.is {w : World} {g o : Nat} {e : Ex} {bs : List Nat} (h : ExAt w g o e bs) :
    ∃ u, w.cell? ⟨g, o, none⟩ = some (.int .i64 e.kind) ∧ w.cell? ⟨g, o + 1, none⟩ = some (.string e.name) ∧ w.cell? ⟨g, o + 2, none⟩ = some u ∧ ExIs w (.agg #[.int .i64 e.kind, .string e.name, u]) e bs := by
  cases e with
  | mk k s l =>
    rw [ExAt] at h
    obtain ⟨h1, h2, h3, A, c, h4, h5⟩ := h
    exact ⟨_, h1, h2, h4, _, rfl, h3, A, c, rfl, h5⟩
theorem ExAt.mk {w : World} {g o : Nat} {e : Ex} {bs : List Nat} {u : Value} (h1 : w.cell? ⟨g, o, none⟩ = some (.int .i64 e.kind)) (h2 : w.cell? ⟨g, o + 1, none⟩ = some (.string e.name)) (h3 : w.cell? ⟨g, o + 2, none⟩ = some u) (h : ExIs w (.agg #[.int .i64 e.kind, .string e.name, u]) e bs) : ExAt w g o e bs := by
  cases e with
  | mk k s l =>
    obtain ⟨u', e1, hs, A, c, e2, h5⟩ := h
    simp only [Value.agg.injEq, Array.mk.injEq, List.cons.injEq, and_true, true_and] at e1
    subst e1; subst e2
    rw [ExAt]
    exact ⟨h1, h2, hs, A, c, h3, h5⟩
/-- Element i of a slice. -/
theorem ExsAt.get {w : World} {g o : Nat} : ∀ (l : List Ex) (j : Nat) (bs : List Nat), ExsAt w g o j l bs → ∀ i e, l[i]? = some e → ∃ b1, ExAt w g (o + (j + i) * 3) e b1 ∧ ∀ x ∈ b1, x ∈ bs := by
  intro l
  induction l with
  | nil => intro j bs _ i e h; simp at h
  | cons x r ih =>
    intro j bs h i e he
    rw [ExsAt] at h
    obtain ⟨b1, b2, rfl, h1, h2⟩ := h
    cases i with
    | zero =>
      simp at he
      subst he
      exact ⟨b1, h1, fun y hy => List.mem_append_left _ hy⟩
    | succ i =>
      obtain ⟨b3, h3, h4⟩ := ih (j + 1) b2 h2 i e (by simpa using he)
      exact ⟨b3, by rw [show j + (i + 1) = j + 1 + i by omega]; exact h3, fun y hy => List.mem_append_right _ (h4 y hy)⟩

/-- Nothing has turned in the blocks of bs. -/
def Keeps (w w' : World) (bs : List Nat) : Prop := w.heap.size ≤ w'.heap.size ∧ ∀ x ∈ bs, x < w.heap.size → w'.heap[x]? = w.heap[x]?

theorem ex_keeps (n : Nat) : (∀ (e : Ex), exSize e ≤ n → ∀ (w w' : World) (g o : Nat) (bs : List Nat), ExAt w g o e bs → g < w.heap.size → Keeps w w' (g :: bs) → ExAt w' g o e bs) ∧
    (∀ (l : List Ex), exSizes l ≤ n → ∀ (w w' : World) (g o : Nat) (j : Nat) (bs : List Nat), ExsAt w g o j l bs → g < w.heap.size → Keeps w w' (g :: bs) → ExsAt w' g o j l bs) := by
  induction n with
  | zero =>
    refine ⟨fun e h => by have := exSize_pos e; omega, fun l h => ?_⟩
    cases l with
    | nil => intro w w' g o j bs h1 _ _; rw [ExsAt] at h1 ⊢; exact h1
    | cons e r => rw [exSizes] at h; have := exSize_pos e; omega
  | succ n ih =>
    have hE : ∀ (e : Ex), exSize e ≤ n + 1 → ∀ (w w' : World) (g o : Nat) (bs : List Nat), ExAt w g o e bs → g < w.heap.size → Keeps w w' (g :: bs) → ExAt w' g o e bs := by
      intro e he w w' g o bs h hlt hk
      cases e with
      | mk k s l =>
        rw [exSize] at he
        rw [ExAt] at h ⊢
        have hb : ∀ m, w'.cell? ⟨g, m, none⟩ = w.cell? ⟨g, m, none⟩ := fun m => World.cell?_of_block (w := w) (hk.2 _ (by simp) hlt)
        obtain ⟨h1, h2, h3, A, c, h4, h5, h6, h7⟩ := h
        refine ⟨(hb _).trans h1, (hb _).trans h2, h3, A, c, (hb _).trans h4, h5, h6, ?_⟩
        rcases h7 with h7 | ⟨g', o', bs', rfl, hbl, rfl, h8⟩
        · exact Or.inl h7
        · exact Or.inr ⟨g', o', bs', rfl, Nat.lt_of_lt_of_le hbl hk.1, rfl, ih.2 l (by omega) w w' g' o' 0 bs' h8 hbl ⟨hk.1, fun x hx => hk.2 x (by simp [hx])⟩⟩
    refine ⟨hE, ?_⟩
    intro l
    induction l with
    | nil => intro _ w w' g o j bs h _ _; rw [ExsAt] at h ⊢; exact h
    | cons e r ihl =>
      intro hl w w' g o j bs h hlt hk
      rw [exSizes] at hl
      have hp := exSize_pos e
      rw [ExsAt] at h ⊢
      obtain ⟨b1, b2, rfl, h1, h2⟩ := h
      refine ⟨b1, b2, rfl, hE e (by omega) w w' g _ b1 h1 hlt ⟨hk.1, fun x hx => hk.2 x ?_⟩, ihl (by omega) w w' g o (j + 1) b2 h2 hlt ⟨hk.1, fun x hx => hk.2 x ?_⟩⟩
      · simp only [List.mem_cons, List.mem_append] at hx ⊢
        rcases hx with h | h
        · exact Or.inl h
        · exact Or.inr (Or.inl h)
      · simp only [List.mem_cons, List.mem_append] at hx ⊢
        rcases hx with h | h
        · exact Or.inl h
        · exact Or.inr (Or.inr h)
theorem SlIs.keeps {w w' : World} {v : Value} {l : List Ex} {bs : List Nat} (h : SlIs w v l bs) (hk : Keeps w w' bs) : SlIs w' v l bs := by
  obtain ⟨A, c, e, h1, h2, h3⟩ := h
  refine ⟨A, c, e, h1, h2, ?_⟩
  rcases h3 with h3 | ⟨g, o, bs', rfl, hb, rfl, h4⟩
  · exact Or.inl h3
  · exact Or.inr ⟨g, o, bs', rfl, Nat.lt_of_lt_of_le hb hk.1, rfl, (ex_keeps _).2 l (Nat.le_refl _) w w' g o 0 bs' h4 hb hk⟩
theorem ExIs.keeps {w w' : World} {v : Value} {e : Ex} {bs : List Nat} (h : ExIs w v e bs) (hk : Keeps w w' bs) : ExIs w' v e bs := by
  obtain ⟨u, e1, h1, h2⟩ := h
  exact ⟨u, e1, h1, h2.keeps hk⟩
theorem keeps_below {w w' : World} (h : Below w.heap.size w w') (bs : List Nat) : Keeps w w' bs := ⟨h.size, fun x _ hx => h.block x hx⟩
theorem ExIs.below {w w' : World} {v : Value} {e : Ex} {bs : List Nat} (h : ExIs w v e bs) (hb : Below w.heap.size w w') : ExIs w' v e bs := h.keeps (keeps_below hb bs)
theorem SlIs.below {w w' : World} {v : Value} {l : List Ex} {bs : List Nat} (h : SlIs w v l bs) (hb : Below w.heap.size w w') : SlIs w' v l bs := h.keeps (keeps_below hb bs)
/-- Element k of a slice that reads as l. -/
theorem SlIs.get {w : World} {A : Option Addr} {n c : Nat} {l : List Ex} {bs : List Nat} (h : SlIs w (.slice A n c) l bs) (k : Nat) (hk : k < l.length) :
    ∃ g o e u b1, A = some ⟨g, o, none⟩ ∧ g < w.heap.size ∧ l[k]? = some e ∧ e ∈ l ∧ w.cell? ⟨g, o + k * 3, none⟩ = some (.int .i64 e.kind) ∧ w.cell? ⟨g, o + k * 3 + 1, none⟩ = some (.string e.name) ∧ w.cell? ⟨g, o + k * 3 + 2, none⟩ = some u ∧ ExIs w (.agg #[.int .i64 e.kind, .string e.name, u]) e b1 ∧ ∀ x ∈ b1, x ∈ bs := by
  obtain ⟨A', c', e1, h1, h2, h3⟩ := h
  cases e1
  rcases h3 with ⟨rfl, -⟩ | ⟨g, o, bs', rfl, hb, rfl, h4⟩
  · simp at hk
  · have he := List.getElem?_eq_getElem hk
    obtain ⟨b1, h5, h6⟩ := ExsAt.get l 0 bs' h4 k _ he
    rw [Nat.zero_add] at h5
    obtain ⟨u, c1, c2, c3, h7⟩ := h5.is
    exact ⟨g, o, _, u, b1, rfl, hb, he, List.getElem_mem hk, c1, c2, c3, h7, fun x hx => List.mem_cons_of_mem _ (h6 x hx)⟩
theorem SlIs.len {w : World} {A : Option Addr} {n c : Nat} {l : List Ex} {bs : List Nat} (h : SlIs w (.slice A n c) l bs) : n = l.length ∧ n ≤ c ∧ c ≤ 9223372036854775807 := by
  obtain ⟨A', c', e1, h1, h2, h3⟩ := h
  cases e1
  exact ⟨rfl, h1, h2⟩
end Go.Proofs.Ytbnghkgfbjipdaa

namespace Go.Proofs.Ytbnghkgfbjipdaa
open Go Go.RowKit

/-- The blocks bs are different, lie from B on, and may be written. -/
structure Mine (w : World) (B : Nat) (bs : List Nat) : Prop where
  nodup : bs.Nodup
  range : ∀ x ∈ bs, B ≤ x ∧ x < w.heap.size
  free : ∀ x ∈ bs, ∀ o, w.frozen? ⟨x, o, none⟩ = false
theorem Mine.nil (w : World) (B : Nat) : Mine w B [] := ⟨List.nodup_nil, (fun x h => by cases h), (fun x h => by cases h)⟩
theorem Mine.keeps {w w' : World} {B : Nat} {bs : List Nat} (h : Mine w B bs) (hk : Keeps w w' bs) : Mine w' B bs :=
  ⟨h.nodup, fun x hx => ⟨(h.range x hx).1, Nat.lt_of_lt_of_le (h.range x hx).2 hk.1⟩, fun x hx o => (World.frozen?_of_block (w := w) (a := ⟨x, o, none⟩) (hk.2 x hx (h.range x hx).2)).trans (h.free x hx o)⟩
theorem Mine.join {w w' : World} {B C : Nat} {bs b1 : List Nat} (h : Mine w B bs) (hw : w.heap.size ≤ C) (hk : Keeps w w' bs) (h1 : Mine w' C b1) (hB : B ≤ C) : Mine w' B (bs ++ b1) := by
  have h' := h.keeps hk
  refine ⟨?_, fun x hx => ?_, fun x hx => ?_⟩
  · rw [List.nodup_append]
    exact ⟨h.nodup, h1.nodup, fun a ha b hb e => by have := (h.range a ha).2; have := (h1.range b hb).1; omega⟩
  · rcases List.mem_append.1 hx with hx | hx
    · exact h'.range x hx
    · exact ⟨Nat.le_trans hB (h1.range x hx).1, (h1.range x hx).2⟩
  · rcases List.mem_append.1 hx with hx | hx
    · exact h'.free x hx
    · exact h1.free x hx
theorem Mine.mono {w : World} {B C : Nat} {bs : List Nat} (h : Mine w B bs) (hC : C ≤ B) : Mine w C bs := ⟨h.nodup, fun x hx => ⟨Nat.le_trans hC (h.range x hx).1, (h.range x hx).2⟩, h.free⟩
theorem ExsAt.snoc {w : World} {g o : Nat} {e : Ex} {b1 : List Nat} : ∀ (l : List Ex) (j : Nat) (bs : List Nat), ExsAt w g o j l bs → ExAt w g (o + (j + l.length) * 3) e b1 → ExsAt w g o j (l ++ [e]) (bs ++ b1) := by
  intro l
  induction l with
  | nil =>
    intro j bs h h1
    rw [ExsAt] at h
    subst h
    rw [List.nil_append, List.nil_append, ExsAt]
    exact ⟨b1, [], by simp, by simpa using h1, by rw [ExsAt]⟩
  | cons x r ih =>
    intro j bs h h1
    rw [ExsAt] at h
    obtain ⟨b2, b3, rfl, h2, h3⟩ := h
    rw [List.cons_append, ExsAt]
    exact ⟨b2, b3 ++ b1, by rw [List.append_assoc], h2, ih (j + 1) b3 h3 (by rw [show j + 1 + r.length = j + (x :: r).length by simp; omega]; exact h1)⟩

theorem bcellE {W w1 : World} (hb : Below W.heap.size W w1) : (∀ b o, b < W.heap.size → w1.cell? ⟨b, o, none⟩ = W.cell? ⟨b, o, none⟩) ∧ (∀ b o, b < W.heap.size → w1.frozen? ⟨b, o, none⟩ = W.frozen? ⟨b, o, none⟩) :=
  ⟨fun b o h => hb.cell (p := ⟨b, o, none⟩) h, fun b o h => hb.frozen (p := ⟨b, o, none⟩) h⟩
theorem keeps_set {w : World} {a : Addr} {v : Value} {bs : List Nat} (h : ∀ x ∈ bs, x ≠ a.block) : Keeps w (w.setCell a v) bs :=
  ⟨by simp [World.setCell], fun x hx _ => Below.heap_setCell w a v x (h x hx)⟩
theorem keeps_on {w w' w'' : World} {bs : List Nat} (h : Keeps w w' bs) (h' : Keeps w' w'' bs) : Keeps w w'' bs :=
  ⟨Nat.le_trans h.1 h'.1, fun x hx hlt => (h'.2 x hx (Nat.lt_of_lt_of_le hlt h.1)).trans (h.2 x hx hlt)⟩
def CopyEnd (e : Ex) (w : World) (r : Ending) (w' : World) : Prop := ∃ v bs, r = .returned v ∧ ExIs w' v e bs ∧ Mine w' w.heap.size bs ∧ Below w.heap.size w w'
def CopiesEnd (l : List Ex) (w : World) (r : Ending) (w' : World) : Prop := ∃ v bs, r = .returned v ∧ SlIs w' v l bs ∧ Mine w' w.heap.size bs ∧ Below w.heap.size w w'

set_option maxHeartbeats 1000000 in
theorem copy_ex (n : Nat) (ih : ∀ (l : List Ex) (v : Value) (bs : List Nat) (w : World), exSizes l ≤ n → SlIs w v l bs → exSizes l ≤ 1099511627776 → Calls Try.prog 49 #[v] w (CopiesEnd l w))
    (e : Ex) (v : Value) (bs : List Nat) (w : World) (hle : exSize e ≤ n + 1) (hv : ExIs w v e bs) (hb : exSize e ≤ 1099511627776) :
    Calls Try.prog 39 #[v] w (CopyEnd e w) := by
  obtain ⟨u, rfl, hsz, hu⟩ := hv
  have HSZ := Lib.hid hsz
  have HC := Lib.hid (fun (W : World) (hb2 : Below w.heap.size w W) => ih e.args u bs W (by cases e; rw [exSize] at hle; exact Nat.le_of_succ_le_succ hle) (hu.below hb2) (by cases e; rw [exSize] at hb; exact Nat.le_trans (Nat.le_succ _) hb))
  clear ih hle hu hb hsz
  obtain ⟨K, hK⟩ : ∃ K, K = e.kind := ⟨_, rfl⟩
  obtain ⟨S, hS⟩ : ∃ S, S = e.name := ⟨_, rfl⟩
  rw [← hK, ← hS]
  have HK := Lib.hid hK
  have HS := Lib.hid hS
  clear hK hS
  go_enter Try.func39, Try.ntmps39
  go_wp2_with fail
  go_at_call 49
  have HB0 := Lib.hid ((((Below.refl w.heap.size w).alloc (Nat.le_refl _) (.cells #[.int .i64 K, .string S, u] 47)).alloc (by simp) (.cells #[.int .i64 0, .string ⟨#[]⟩, .slice none 0 0] 26)).alloc (by simp; omega) (.cells #[.int .i64 K, .string S, .slice none 0 0] 26))
  refine (HC.out _ HB0.out).mono ?_
  rintro r w1 ⟨u1, b1, rfl, hs1, hm1, hb1⟩
  obtain ⟨A1, c1, rfl, -⟩ := id hs1
  have HS1 := Lib.hid hs1
  have HM1 := Lib.hid hm1
  obtain ⟨hc, hf⟩ := bcellE hb1
  have hz : w.heap.size + 3 ≤ w1.heap.size := by have := hb1.size; simp at this; omega
  have HB1 := Lib.hid (HB0.out.trans (hb1.mono HB0.out.size))
  clear hs1 hm1 hb1
  go_wp2_with fail
  refine bodyPost_ret (v := .agg #[.int .i64 K, .string S, .slice A1 e.args.length c1]) (by simp [results, Try.results39, go_sem, hc]) rfl ?_
  have hge : ∀ x ∈ b1, w.heap.size + 3 ≤ x := fun x hx => by have := (HM1.out.range x hx).1; simp at this; omega
  have hk : Keeps w1 ((((w1.setCell ⟨w.heap.size + 1 + 1, 2, none⟩ (.slice A1 e.args.length c1)).setCell ⟨w.heap.size + 1, 0, none⟩ (.int .i64 K)).setCell ⟨w.heap.size + 1, 1, none⟩ (.string S)).setCell ⟨w.heap.size + 1, 2, none⟩ (.slice A1 e.args.length c1)) b1 :=
    keeps_on (keeps_on (keeps_on (keeps_set (fun x hx => by have := hge x hx; simp; omega)) (keeps_set (fun x hx => by have := hge x hx; simp; omega))) (keeps_set (fun x hx => by have := hge x hx; simp; omega))) (keeps_set (fun x hx => by have := hge x hx; simp; omega))
  refine ⟨_, b1, rfl, ⟨_, by rw [HK.out, HS.out], HSZ.out, HS1.out.keeps hk⟩, (HM1.out.keeps hk).mono (by simp; omega), ?_⟩
  exact (((HB1.out.setCell (by simp; omega) _).setCell (by simp) _).setCell (by simp) _).setCell (by simp) _

/-- Elements before a place stay while cells behind it are written. -/
theorem ExAt.same {w w' : World} {g o : Nat} {e : Ex} {bs : List Nat} (h : ExAt w g o e bs) (hc : ∀ m, o ≤ m → m < o + 3 → w'.cell? ⟨g, m, none⟩ = w.cell? ⟨g, m, none⟩) (hk : Keeps w w' bs) : ExAt w' g o e bs := by
  obtain ⟨u, h1, h2, h3, h4⟩ := h.is
  exact ExAt.mk ((hc _ (by omega) (by omega)).trans h1) ((hc _ (by omega) (by omega)).trans h2) ((hc _ (by omega) (by omega)).trans h3) (h4.keeps hk)
theorem ExsAt.same {w w' : World} {g o : Nat} : ∀ (l : List Ex) (j : Nat) (bs : List Nat), ExsAt w g o j l bs → (∀ m, m < o + (j + l.length) * 3 → w'.cell? ⟨g, m, none⟩ = w.cell? ⟨g, m, none⟩) → Keeps w w' bs → ExsAt w' g o j l bs := by
  intro l
  induction l with
  | nil => intro j bs h _ _; rw [ExsAt] at h ⊢; exact h
  | cons e r ih =>
    intro j bs h hc hk
    rw [ExsAt] at h ⊢
    obtain ⟨b1, b2, rfl, h1, h2⟩ := h
    simp only [List.length_cons] at hc
    exact ⟨b1, b2, rfl, h1.same (fun m hm1 hm2 => hc m (by omega)) ⟨hk.1, fun x hx => hk.2 x (List.mem_append_left _ hx)⟩,
      ih (j + 1) b2 h2 (fun m hm => hc m (by omega)) ⟨hk.1, fun x hx => hk.2 x (List.mem_append_right _ hx)⟩⟩

theorem Try.infoEx : (Try.prog.info? 26).map (fun i => (i.zero, i.size, i.bytes)) = some (some (.agg #[.int .i64 0, .string ⟨#[]⟩, .slice none 0 0]), 3, 48) := by kernel_rfl

/-- The copies made so far. -/
structure Part (w wr : World) (n : Nat) (l : List Ex) (ys : List Value) (bs : List Nat) : Prop where
  row : wr.ownsRow w.heap.size 26 3 (.slice (some ⟨w.heap.size, 0, none⟩) n n) n ys
  pre : ExsAt wr w.heap.size 0 0 l bs
  mine : Mine wr (w.heap.size + 1) bs
  low : Below w.heap.size w wr
theorem Part.lt {w wr : World} {n : Nat} {l : List Ex} {ys : List Value} {bs : List Nat} (h : Part w wr n l ys bs) : w.heap.size < wr.heap.size := (h.row.lt w.heap.size rfl).2
theorem Part.below {w wr w2 : World} {n : Nat} {l : List Ex} {ys : List Value} {bs : List Nat} (h : Part w wr n l ys bs) (hb : Below wr.heap.size wr w2) : Part w w2 n l ys bs := by
  refine ⟨h.row.kept (row := none) ⟨hb.os, hb.tape, hb.output, hb.size, fun k hk _ => hb.block k hk⟩ (Or.inr (by simp [Value.ownBlock])), (ex_keeps _).2 l (Nat.le_refl _) wr w2 _ 0 0 bs h.pre h.lt (keeps_below hb _), h.mine.keeps (keeps_below hb _), h.low.trans (hb.mono h.low.size)⟩
theorem Part.cells {w wr : World} {n : Nat} {l : List Ex} {ys : List Value} {bs : List Nat} (h : Part w wr n l ys bs) (k : Nat) (hk : k < n) :
    ∃ y0 y1 y2, wr.cell? ⟨w.heap.size, k * 3, none⟩ = some y0 ∧ wr.cell? ⟨w.heap.size, k * 3 + 1, none⟩ = some y1 ∧ wr.cell? ⟨w.heap.size, k * 3 + 2, none⟩ = some y2 := by
  have hl := h.row.1
  have a : ∀ j, j < n * 3 → ∃ y, wr.cell? ⟨w.heap.size, j, none⟩ = some y := fun j hj => ⟨_, (h.row.cellAt j hj).trans (List.getElem?_eq_getElem (by omega))⟩
  obtain ⟨y0, h0⟩ := a (k * 3) (by omega)
  obtain ⟨y1, h1⟩ := a (k * 3 + 1) (by omega)
  obtain ⟨y2, h2⟩ := a (k * 3 + 2) (by omega)
  exact ⟨y0, y1, y2, h0, h1, h2⟩
theorem set_other (w : World) (g m : Nat) (u : Value) (j : Nat) (h : m ≠ j) : (w.setCell ⟨g, m, none⟩ u).cell? ⟨g, j, none⟩ = w.cell? ⟨g, j, none⟩ :=
  World.cell?_setCell_other _ _ _ _ (fun e => h (by have := congrArg Addr.off e; simpa using this))
theorem Part.step {wo w w2 : World} {n : Nat} {l : List Ex} {e : Ex} {ys : List Value} {bs b1 : List Nat} {u : Value} (h : Part wo w n l ys bs) (hk : l.length < n) (hb : Below w.heap.size w w2)
    (hv : ExIs w2 (.agg #[.int .i64 e.kind, .string e.name, u]) e b1) (hm : Mine w2 w.heap.size b1) :
    ∃ ys', Part wo (((w2.setCell ⟨wo.heap.size, l.length * 3, none⟩ (.int .i64 e.kind)).setCell ⟨wo.heap.size, l.length * 3 + 1, none⟩ (.string e.name)).setCell ⟨wo.heap.size, l.length * 3 + 2, none⟩ u) n (l ++ [e]) ys' (bs ++ b1) := by
  have hp := h.below hb
  obtain ⟨y0, y1, y2, c0, c1, c2⟩ := hp.cells l.length hk
  have hlt := h.lt
  have s0 := (hp.row.stored (l.length * 3) (.int .i64 e.kind)).1
  have s1 := (s0.stored (l.length * 3 + 1) (.string e.name)).1
  have s2 := (s1.stored (l.length * 3 + 2) u).1
  generalize hg : wo.heap.size = g at *
  have keep : ∀ cs : List Nat, (∀ x ∈ cs, x ≠ g) → Keeps w2 (((w2.setCell ⟨g, l.length * 3, none⟩ (.int .i64 e.kind)).setCell ⟨g, l.length * 3 + 1, none⟩ (.string e.name)).setCell ⟨g, l.length * 3 + 2, none⟩ u) cs := fun cs hcs =>
    keeps_on (keeps_on (keeps_set (fun x hx => hcs x hx)) (keeps_set (fun x hx => hcs x hx))) (keeps_set (fun x hx => hcs x hx))
  have k1 : Keeps w2 _ bs := keep bs (fun x hx => by have := (h.mine.range x hx).1; omega)
  have k2 : Keeps w2 _ b1 := keep b1 (fun x hx => by have := (hm.range x hx).1; omega)
  have other : ∀ m, m < l.length * 3 → (((w2.setCell ⟨g, l.length * 3, none⟩ (.int .i64 e.kind)).setCell ⟨g, l.length * 3 + 1, none⟩ (.string e.name)).setCell ⟨g, l.length * 3 + 2, none⟩ u).cell? ⟨g, m, none⟩ = w2.cell? ⟨g, m, none⟩ := fun m hm => by
    rw [set_other _ _ _ _ _ (by omega), set_other _ _ _ _ _ (by omega), set_other _ _ _ _ _ (by omega)]
  refine ⟨_, by rw [hg]; exact s2, ?_, ?_, ?_⟩
  · rw [hg]
    refine ExsAt.snoc l 0 bs (ExsAt.same l 0 bs (by rw [← hg]; exact hp.pre) (fun m hm => other m (by omega)) k1) ?_
    rw [show 0 + (0 + l.length) * 3 = l.length * 3 by omega]
    refine ExAt.mk (u := u) ?_ ?_ ?_ (hv.keeps k2)
    · rw [set_other _ _ _ _ _ (by omega), set_other _ _ _ _ _ (by omega)]
      exact World.cell?_setCell_same _ _ _ c0
    · rw [set_other _ _ _ _ _ (by omega)]
      exact World.cell?_setCell_same _ _ _ (u := y1) (by rw [set_other _ _ _ _ _ (by omega)]; exact c1)
    · exact World.cell?_setCell_same _ _ _ (u := y2) (by rw [set_other _ _ _ _ _ (by omega), set_other _ _ _ _ _ (by omega)]; exact c2)
  · rw [hg]
    exact Mine.join (C := w.heap.size) (by rw [← hg]; exact h.mine) (Nat.le_refl _) (keeps_on (keeps_below hb bs) k1) (hm.keeps k2) (by omega)
  · have hl := hp.low
    rw [hg] at hl
    rw [hg]
    exact ((hl.setCell (Nat.le_refl _) _).setCell (Nat.le_refl _) _).setCell (Nat.le_refl _) _

theorem part_start {w w1 : World} {n : Nat} {ys : List Value} (ho : w1.ownsRow w.heap.size 26 3 (.slice (some ⟨w.heap.size, 0, none⟩) n n) n ys) (hb : Below w.heap.size w w1) : Part w w1 n [] ys [] :=
  ⟨ho, by rw [ExsAt], Mine.nil _ _, hb⟩
theorem Part.done {w wr : World} {n : Nat} {l : List Ex} {ys : List Value} {bs : List Nat} (h : Part w wr n l ys bs) (hn : l.length = n) (hm : n ≤ 9223372036854775807) : ∃ bs', SlIs wr (.slice (some ⟨w.heap.size, 0, none⟩) n n) l bs' ∧ Mine wr w.heap.size bs' := by
  refine ⟨w.heap.size :: bs, ⟨_, n, by rw [hn], by omega, hm, Or.inr ⟨w.heap.size, 0, bs, rfl, h.lt, rfl, h.pre⟩⟩, ?_, ?_, ?_⟩
  · rw [List.nodup_cons]
    exact ⟨fun hx => by have := (h.mine.range _ hx).1; omega, h.mine.nodup⟩
  · intro x hx
    rcases List.mem_cons.1 hx with rfl | hx
    · exact ⟨Nat.le_refl _, h.lt⟩
    · have := h.mine.range x hx; omega
  · intro x hx o
    rcases List.mem_cons.1 hx with rfl | hx
    · exact h.row.frozenAt o
    · exact h.mine.free x hx o

set_option maxHeartbeats 2000000 in
theorem copy_exs (n : Nat) (ih : ∀ (e : Ex) (v : Value) (bs : List Nat) (w : World), exSize e ≤ n → ExIs w v e bs → exSize e ≤ 1099511627776 → Calls Try.prog 39 #[v] w (CopyEnd e w))
    (l : List Ex) (v : Value) (bs : List Nat) (w : World) (hle : exSizes l ≤ n) (hv : SlIs w v l bs) (hb : exSizes l ≤ 1099511627776) :
    Calls Try.prog 49 #[v] w (CopiesEnd l w) := by
  obtain ⟨i0, hi, hz0, hz1, hz2⟩ := info_parts Try.infoEx
  obtain ⟨A, c, rfl, hc1, hc2, -⟩ := id hv
  have HU := Lib.hid hv
  have hlen := sizes_len l
  obtain ⟨m, hm⟩ : ∃ m, m = l.length := ⟨_, rfl⟩
  rw [← hm] at hc1 HU hlen ⊢
  have HM := Lib.hid hm
  have HIH := Lib.hid ih
  have HN := Lib.hid hle
  have HBD := Lib.hid hb
  have hm40 : m ≤ 1099511627776 := by omega
  have HI := Lib.hid (And.intro hi (And.intro hz0 (And.intro hz1 hz2)))
  have C2 := Lib.hid (show i0.bytes * m ≤ 281474976710656 by rw [hz2]; omega)
  have C3 := Lib.hid (show m ≤ maxLen by unfold maxLen; omega)
  clear hm hv ih hle hb hlen hi hz0 hz1 hz2
  go_enter Try.func49, Try.ntmps49
  go_wp2_with (at_make; go_loud (refine wpList_make_full _ rfl _ _ 24 rfl w.heap.size 26 i0 (.agg #[.int .i64 0, .string ⟨#[]⟩, .slice none 0 0]) 3 Try.underlying24 HI.out.1 HI.out.2.1 HI.out.2.2.1 .i64 .i64 _ _ m rfl rfl rfl rfl C2.out C3.out (Nat.le_refl _) ?_); go_loud (intro w1 hown1 hg1))
  have HP := Lib.hid (part_start hown1 ⟨hg1.os, hg1.tape, hg1.output, hg1.size, fun k hk => hg1.block k hk (by simp)⟩)
  clear hown1 hg1
  go_loopw [4] (fun i wr => ∃ (k : Nat) (ys : List Value) (cs : List Nat), k ≤ m ∧ i = .int .i64 (k : Int) ∧ Hid (Part w wr m (l.take k) ys cs)) (fun i _ => m - (intOf i).toNat)
  case atStart => exact ⟨0, _, [], Nat.zero_le _, rfl, HP⟩
  case round =>
    obtain ⟨k, ys, cs, hk, rfl, HP⟩ := hrel
    by_cases hlt : k < m
    · obtain ⟨g, o, e1, u, b1, rfl, hbl, hget, hmem, c1, c2, c3, his, -⟩ := (HU.out.below HP.out.low).get k (by rw [← HM.out]; exact hlt)
      have HTK := Lib.hid (show l.take (k + 1) = l.take k ++ [e1] by
        have hk2 : k < l.length := by rw [← HM.out]; exact hlt
        rw [List.take_succ_eq_append_getElem hk2, (List.getElem?_eq_some_iff.1 hget).2])
      have HLK := Lib.hid (show (l.take k).length = k by rw [List.length_take, ← HM.out]; omega)
      have HCALL := Lib.hid (HIH.out e1 _ b1 wr (by have := exSizes_mem hmem; have := HN.out; omega) his (by have := exSizes_mem hmem; have := HBD.out; omega))
      clear his hget hmem
      go_wp2_with (go_at_call 39; refine HCALL.out.mono ?_; rintro r w2 ⟨v2, b2, rfl, hs2, hm2, hb2⟩; obtain ⟨u2, rfl, hsz2, hu2⟩ := id hs2; obtain ⟨A2, c2', rfl, -⟩ := id hu2; have hp2 := HP.out.below hb2; obtain ⟨y0, y1, y2, d0, d1, d2⟩ := hp2.cells k hlt; have f0 := hp2.row.frozenAt (k * 3); have f1 := hp2.row.frozenAt (k * 3 + 1); have f2 := hp2.row.frozenAt (k * 3 + 2); have HST := Lib.hid (HP.out.step (by rw [HLK.out]; exact hlt) hb2 hs2 hm2); clear hs2 hm2 hb2 hu2 hp2)
      obtain ⟨ys', hst⟩ := HST.out
      rw [HLK.out, ← HTK.out] at hst
      go_roundw
      case rel => exact ⟨k + 1, ys', _, by omega, by go_num, Lib.hid hst⟩
      case measure => simp [intOf]; omega
    · have HE := Lib.hid (show l.take k = l from List.take_of_length_le (by rw [← HM.out]; omega))
      have hp := HP.out
      rw [HE.out] at hp
      have HP2 := Lib.hid hp
      clear hp
      go_wp2_with fail
      go_ret
      obtain ⟨bs', h1, h2⟩ := HP2.out.done HM.out.symm (by omega)
      exact ⟨_, bs', rfl, h1, h2, HP2.out.low⟩

theorem copy_both (n : Nat) : (∀ (e : Ex) (v : Value) (bs : List Nat) (w : World), exSize e ≤ n → ExIs w v e bs → exSize e ≤ 1099511627776 → Calls Try.prog 39 #[v] w (CopyEnd e w)) ∧
    (∀ (l : List Ex) (v : Value) (bs : List Nat) (w : World), exSizes l ≤ n → SlIs w v l bs → exSizes l ≤ 1099511627776 → Calls Try.prog 49 #[v] w (CopiesEnd l w)) := by
  induction n with
  | zero =>
    have hE : ∀ (e : Ex) (v : Value) (bs : List Nat) (w : World), exSize e ≤ 0 → ExIs w v e bs → exSize e ≤ 1099511627776 → Calls Try.prog 39 #[v] w (CopyEnd e w) := fun e v bs w h => by have := exSize_pos e; omega
    exact ⟨hE, fun l v bs w h1 h2 h3 => copy_exs 0 hE l v bs w h1 h2 h3⟩
  | succ n ih =>
    have hE : ∀ (e : Ex) (v : Value) (bs : List Nat) (w : World), exSize e ≤ n + 1 → ExIs w v e bs → exSize e ≤ 1099511627776 → Calls Try.prog 39 #[v] w (CopyEnd e w) := fun e v bs w h1 h2 h3 => copy_ex n ih.2 e v bs w h1 h2 h3
    exact ⟨hE, fun l v bs w h1 h2 h3 => copy_exs (n + 1) hE l v bs w h1 h2 h3⟩
/-- The laws' copy of an expression. -/
theorem copy_expr (e : Ex) (v : Value) (bs : List Nat) (w : World) (hv : ExIs w v e bs) (hb : exSize e ≤ 1099511627776) : Calls Try.prog 39 #[v] w (CopyEnd e w) :=
  (copy_both (exSize e)).1 e v bs w (Nat.le_refl _) hv hb
end Go.Proofs.Ytbnghkgfbjipdaa

namespace Go.Proofs.Ytbnghkgfbjipdaa
open Go Go.ChangeShapes Go.WideShapes Go.ChangeAt Go.RowKit Go.Deep Go.Joins

theorem exs_of {w : World} {g o : Nat} : ∀ n : Nat, (∀ i, i < n → ∃ e b, ExAt w g (o + i * 3) e b) → ∃ l bs, l.length = n ∧ ExsAt w g o 0 l bs := by
  intro n
  induction n with
  | zero => intro _; exact ⟨[], [], rfl, by rw [ExsAt]⟩
  | succ n ih =>
    intro h
    obtain ⟨l, bs, hl, hs⟩ := ih (fun i hi => h i (by omega))
    obtain ⟨e, b, he⟩ := h n (by omega)
    exact ⟨l ++ [e], bs ++ b, by simp [hl], ExsAt.snoc l 0 bs hs (by rw [Nat.zero_add, hl]; exact he)⟩
theorem add_litO (g o k : Nat) : (⟨g, o, none⟩ : Addr).add k = ⟨g, o + k, none⟩ := by
  unfold Addr.add
  split <;> simp_all
theorem spot_none {w : World} {a : Addr} {v : Value} (h : w.cell? a = some v) : a = ⟨a.block, a.off, none⟩ ∧ a.block < w.heap.size := by
  have hb : a.block < w.heap.size := by
    rcases Nat.lt_or_ge a.block w.heap.size with h' | h'
    · exact h'
    · simp [World.cell?, Array.getElem?_eq_none h'] at h
  refine ⟨?_, hb⟩
  obtain ⟨b, o, s⟩ := a
  cases s with
  | none => rfl
  | some s =>
    simp only [World.cell?] at h
    split at h <;> simp at h
theorem cells3L : Try.prog.cellsOf 3 = 1 := by kernel_rfl
theorem cells9L : Try.prog.cellsOf 9 = 1 := by kernel_rfl
theorem cellsSL : Try.prog.cellsOf 45 = 1 := by kernel_rfl
theorem cellsL : Try.prog.cellsOf 47 = 3 := by kernel_rfl

theorem len_three {α : Type} {l : List α} (h : l.length = 3) : ∃ a b c, l = [a, b, c] := by
  match l, h with
  | [a, b, c], _ => exact ⟨a, b, c, rfl⟩

theorem read_exs {H : Type} {enc : TypeId × Value → H} {w : World} : ∀ (fuel : Nat) (cs : List Value) (x : DataW H × List MemPlace), DataW.trod enc Try.prog w 0 (fun _ => true) true fuel 45 cs = some x → ∃ v l bs, cs = [v] ∧ SlIs w v l bs := by
  intro fuel
  induction fuel using Nat.strongRecOn with
  | _ fuel ih =>
    intro cs x h
    rcases DataW.trod_slice Try.underlying45 h with ⟨rfl, -⟩ | ⟨a, len, cap, elems, rest, n, rfl, rfl, -, -, hl, hm, hlen, hel, -⟩
    · exact ⟨_, [], [], rfl, none, 0, rfl, by simp, by simp, Or.inl ⟨rfl, rfl⟩⟩
    · have hcap : cap ≤ 9223372036854775807 := by unfold maxLen at hm; omega
      by_cases h0 : len = 0
      · subst h0
        exact ⟨_, [], [], rfl, some a, cap, rfl, by simp, hcap, Or.inl ⟨rfl, rfl⟩⟩
      · have elem : ∀ i, i < len → ∃ (v0 v1 v2 : Value) (k : Int) (s : ByteArray) (l : List Ex) (bs : List Nat), w.cell? ((a.add (i * 3)).add 0) = some v0 ∧ w.cell? ((a.add (i * 3)).add 1) = some v1 ∧ w.cell? ((a.add (i * 3)).add 2) = some v2 ∧ v0 = .int .i64 k ∧ v1 = .string s ∧ s.size ≤ 9223372036854775807 ∧ SlIs w v2 l bs := by
          intro i hi
          have hy := hel i hi
          rw [List.getElem?_eq_getElem (by omega), cellsL] at hy
          cases hc : w.cells? 0 (a.add (i * 3)) 3 with
          | none => rw [hc] at hy; simp at hy
          | some cs' =>
            rw [hc] at hy
            simp only [Option.bind_some] at hy
            obtain ⟨_, hcl, hat⟩ := World.cells?_some hc
            obtain ⟨xs, n', rfl, -, -, hxl, hf⟩ := DataW.trod_struct Try.underlying47 hy
            obtain ⟨q0, q1, q2, rfl⟩ := len_three hcl
            have g0 := hf 0 _ rfl
            have g1 := hf 1 _ rfl
            have g2 := hf 2 _ rfl
            obtain ⟨x0, x1, x2, rfl⟩ := len_three hxl
            simp [cells3L, cells9L, cellsSL] at g0 g1 g2
            obtain ⟨k, e0, -, -⟩ := DataW.trod_int Try.underlying3 g0
            obtain ⟨s, e1, -, hs⟩ := DataW.trod_string Try.underlying9 g1
            obtain ⟨v2, l, bs, e2, hs2⟩ := ih n' (by omega) _ _ g2
            simp only [List.cons.injEq, and_true] at e0 e1 e2
            subst e0; subst e1; subst e2
            exact ⟨_, _, _, k, s, l, bs, hat 0 (by omega), hat 1 (by omega), hat 2 (by omega), rfl, rfl, by unfold maxLen at hs; exact hs, hs2⟩
        obtain ⟨v0, _, _, _, _, _, _, c0, -, -, -, -, -, -⟩ := elem 0 (by omega)
        have ha := spot_none (a := a) (by simpa [Addr.add] using c0)
        obtain ⟨ha1, hlt⟩ := ha
        generalize a.block = g at *
        generalize a.off = o at *
        subst ha1
        obtain ⟨l, bs, hl2, hs⟩ := exs_of (w := w) (g := g) (o := o) len (fun i hi => by
          obtain ⟨v0, v1, v2, k, s, l, bs, c0, c1, c2, rfl, rfl, hs, hs2⟩ := elem i hi
          rw [add_litO, add_litO] at c0 c1 c2
          exact ⟨.mk k s l, bs, ExAt.mk (u := v2) c0 c1 c2 ⟨v2, rfl, hs, hs2⟩⟩)
        exact ⟨_, l, g :: bs, rfl, some ⟨g, o, none⟩, cap, by rw [hl2], by omega, hcap, Or.inr ⟨g, o, bs, rfl, hlt, rfl, hs⟩⟩
set_option maxRecDepth 100000 in
/-- An argument that was read as data is an expression in memory. -/
theorem read_ex {H : Type} {enc : TypeId × Value → H} {w : World} {b0 : Nat} {v : Value} {d : DataW H} {p : List MemPlace} (hv : Value.okWide Try.prog w .any b0 47 v) (h : DataW.Trod enc Try.prog w 0 (fun _ => true) true 47 v d p) :
    ∃ e bs, ExIs w v e bs := by
  obtain ⟨v0, v1, v2, y0, y1, y2, n, rfl, -, -, g0, g1, g2⟩ := open_agg3 Try.underlying47 (by kernel_rfl) cellsL hv h
  obtain ⟨k, e0, -, -⟩ := DataW.trod_int Try.underlying3 g0
  obtain ⟨s, e1, -, hs⟩ := DataW.trod_string Try.underlying9 g1
  obtain ⟨v2', l, bs, e2, hs2⟩ := read_exs n _ _ g2
  simp only [List.cons.injEq, and_true] at e0 e1 e2
  subst e0; subst e1; subst e2
  exact ⟨.mk k s l, bs, v2, rfl, by unfold maxLen at hs; exact hs, hs2⟩
end Go.Proofs.Ytbnghkgfbjipdaa

namespace Go.Proofs.Ytbnghkgfbjipdaa
open Go Go.ChangeShapes Go.WideShapes Go.ChangeAt Go.RowKit

theorem own : ownKnob Try.prog.godebug = none := by kernel_rfl
theorem laidOut : laidOutB Try.prog = true := by kernel_rfl
end Go.Proofs.Ytbnghkgfbjipdaa
