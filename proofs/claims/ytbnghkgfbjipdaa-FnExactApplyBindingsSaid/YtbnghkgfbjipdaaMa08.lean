/- When lists of bindings are equal, and the contract of the model's EqualBindings. Condition: they lie in memory. The contracts of the model's l3Left, l3Form, l3All, IsValidExpr, l3Data, IsData. Condition: names and nodes together at most 1048576. FnExactSizeOf, FnExactDepthOf, FnExactIsValidExpr, FnExactIsData, FnExactCallsOf, from contracts of the program's own functions. Conditions: those contracts; the argument lies in memory as an expression. The walk of the law FnExactEqualBindings, from a contract of the program's own function. Conditions: that contract; the arguments lie in memory. -/
import Derived.Test.YtbnghkgfbjipdaaMa03
import Derived.Test.YtbnghkgfbjipdaaMa07
import Derived.Test.YtbnghkgfbjipdaaMa06
import Derived.Test.YtbnghkgfbjipdaaMa01
import Derived.Deep.RegionHeld3
namespace Go.Proofs.Ytbnghkgfbjipdaa
open Go Go.RowKit

def biEq (r s : Bi) : Bool := decide (r.name = s.name) && exEq r.val s.val
def eqBl : List Bi → List Bi → Bool
  | [], [] => true
  | r :: a, s :: b => biEq r s && eqBl a b
  | _, _ => false
theorem eqBl_len : ∀ (a b : List Bi), a.length ≠ b.length → eqBl a b = false := by
  intro a
  induction a with
  | nil => intro b h; cases b with
    | nil => exact absurd rfl h
    | cons y b => rfl
  | cons x a ih => intro b h; cases b with
    | nil => rfl
    | cons y b => rw [eqBl, ih b (fun hh => h (by simp [hh])), Bool.and_false]
theorem eqBl_here {a b : List Bi} {k : Nat} {x y : Bi} (h : a[k]? = some x) (h' : b[k]? = some y) : eqBl (a.drop k) (b.drop k) = (biEq x y && eqBl (a.drop (k + 1)) (b.drop (k + 1))) := by
  obtain ⟨h1, h2⟩ := List.getElem?_eq_some_iff.1 h
  obtain ⟨h3, h4⟩ := List.getElem?_eq_some_iff.1 h'
  rw [List.drop_eq_getElem_cons h1, h2, List.drop_eq_getElem_cons h3, h4, eqBl]
theorem bi_slice {w : World} {u : Value} {e : Ex} {bs : List Nat} {k : Int} {s : ByteArray} (h : ExIs w (.agg #[.int .i64 k, .string s, u]) e bs) : ∃ A n c, u = .slice A n c := by
  obtain ⟨u', e3, -, A, c, e4, -⟩ := h
  simp only [Value.agg.injEq, Array.mk.injEq, List.cons.injEq, and_true] at e3
  exact ⟨A, _, c, by rw [e3.2.2, e4]⟩
end Go.Proofs.Ytbnghkgfbjipdaa

namespace Go.Proofs.Ytbnghkgfbjipdaa
open Go Go.RowKit

def exFormOf (K : Int) (s : ByteArray) (m : Nat) : Bool :=
  if K = 1 then nameL 97 122 s.data.toList && decide (m = 0) else if K = 2 then nameL 65 90 s.data.toList && decide (m ≤ 5) else if K = 3 then nameL 97 122 s.data.toList && decide (m ≤ 5) else if K = 4 then decide (s.size = 0) && decide (m = 0) else false
mutual
def exAll : Ex → Bool
  | .mk k s l => exAllL l && exFormOf k s l.length
def exAllL : List Ex → Bool
  | [] => true
  | e :: r => exAll e && exAllL r
end
mutual
def exDat : Ex → Bool
  | .mk k _ l => exDatL l && decide (k = 2)
def exDatL : List Ex → Bool
  | [] => true
  | e :: r => exDat e && exDatL r
end
def exValid (e : Ex) : Bool := decide (exSize e ≤ 80) && (decide (exDepth e ≤ 24) && exAll e)
def exIsData (e : Ex) : Bool := exValid e && exDat e
theorem all_app : ∀ (a b : List Ex), exAllL (a ++ b) = (exAllL a && exAllL b) := by
  intro a
  induction a with
  | nil => intro b; simp [exAllL]
  | cons x r ih => intro b; rw [List.cons_append, exAllL, exAllL, ih, Bool.and_assoc]
theorem dat_app : ∀ (a b : List Ex), exDatL (a ++ b) = (exDatL a && exDatL b) := by
  intro a
  induction a with
  | nil => intro b; simp [exDatL]
  | cons x r ih => intro b; rw [List.cons_append, exDatL, exDatL, ih, Bool.and_assoc]
theorem all_snoc (l : List Ex) (k : Nat) (e : Ex) (h : l[k]? = some e) : exAllL (l.take (k + 1)) = (exAllL (l.take k) && exAll e) := by
  rw [take_ex l k e h, all_app]; simp [exAllL]
theorem dat_snoc (l : List Ex) (k : Nat) (e : Ex) (h : l[k]? = some e) : exDatL (l.take (k + 1)) = (exDatL (l.take k) && exDat e) := by
  rw [take_ex l k e h, dat_app]; simp [exDatL]
theorem all_false {l : List Ex} {e : Ex} (h : e ∈ l) (he : exAll e = false) : exAllL l = false := by
  induction l with
  | nil => cases h
  | cons x r ih =>
    rw [exAllL]
    rcases List.mem_cons.1 h with rfl | h
    · rw [he]; rfl
    · rw [ih h, Bool.and_false]
theorem dat_false {l : List Ex} {e : Ex} (h : e ∈ l) (he : exDat e = false) : exDatL l = false := by
  induction l with
  | nil => cases h
  | cons x r ih =>
    rw [exDatL]
    rcases List.mem_cons.1 h with rfl | h
    · rw [he]; rfl
    · rw [ih h, Bool.and_false]
theorem tots_mem : ∀ {l : List Ex} {e : Ex}, e ∈ l → exTot e + 1 ≤ exTots l := by
  intro l
  induction l with
  | nil => intro e h; cases h
  | cons x r ih =>
    intro e h
    rw [exTots]
    rcases List.mem_cons.1 h with rfl | h
    · omega
    · have := ih h; omega
theorem tot_parts (e : Ex) : exTot e = e.name.size + exTots e.args := by cases e; rfl

def LeftPost (L T : Int) (w : World) (e : Ending) (w' : World) : Prop := ∃ r : Int, e = .returned (.int .i64 r) ∧ Below w.heap.size w w' ∧ ((0 ≤ r ∧ r = L - T) ∨ (r = -1 ∧ L < T))
/-- Where the count stands. -/
def LeftAt (L T s z : Int) : Prop := (0 ≤ z ∧ z = L - 1 - s) ∨ (z = -1 ∧ L < T)

end Go.Proofs.Ytbnghkgfbjipdaa

namespace Go.Proofs.Ytbnghkgfbjipdaa
open Go Go.RowKit

/-- Six cells that stay. -/
theorem keep6_start {wr : World} {a b c d e f : Addr} {x1 x2 x3 x4 x5 x6 : Value} (h : wr.cell? a = some x1 ∧ wr.cell? b = some x2 ∧ wr.cell? c = some x3 ∧ wr.cell? d = some x4 ∧ wr.cell? e = some x5 ∧ wr.cell? f = some x6) :
    wr.drew.cell? a = some x1 ∧ wr.drew.cell? b = some x2 ∧ wr.drew.cell? c = some x3 ∧ wr.drew.cell? d = some x4 ∧ wr.drew.cell? e = some x5 ∧ wr.drew.cell? f = some x6 ∧ Hid (Below wr.heap.size wr wr.drew) :=
  ⟨h.1, h.2.1, h.2.2.1, h.2.2.2.1, h.2.2.2.2.1, h.2.2.2.2.2, Lib.hid (Below.refl _ _).drew⟩
theorem keep6_step {wr X w2 : World} {a b c d e f : Addr} {x1 x2 x3 x4 x5 x6 : Value} (h : Hid (wr.cell? a = some x1 ∧ wr.cell? b = some x2 ∧ wr.cell? c = some x3 ∧ wr.cell? d = some x4 ∧ wr.cell? e = some x5 ∧ wr.cell? f = some x6)) (hb : Below X.heap.size X w2)
    (hX : X.cell? a = some x1 ∧ X.cell? b = some x2 ∧ X.cell? c = some x3 ∧ X.cell? d = some x4 ∧ X.cell? e = some x5 ∧ X.cell? f = some x6 ∧ Hid (Below wr.heap.size wr X)) :
    w2.cell? a = some x1 ∧ w2.cell? b = some x2 ∧ w2.cell? c = some x3 ∧ w2.cell? d = some x4 ∧ w2.cell? e = some x5 ∧ w2.cell? f = some x6 ∧ Hid (Below wr.heap.size wr w2) := by
  have HB := hX.2.2.2.2.2.2
  have hw := HB.out.trans (hb.mono HB.out.size)
  have k : ∀ {p : Addr} {x : Value}, wr.cell? p = some x → w2.cell? p = some x := fun {p x} hp => (hw.cell (p := p) (World.block_lt_of_cell? wr _ hp)).trans hp
  obtain ⟨h1, h2, h3, h4, h5, h6⟩ := h.out
  exact ⟨k h1, k h2, k h3, k h4, k h5, k h6, Lib.hid hw⟩
theorem six_of {a b c d e f : Prop} (h : a ∧ b ∧ c) (k : d ∧ e ∧ f) : a ∧ b ∧ c ∧ d ∧ e ∧ f := ⟨h.1, h.2.1, h.2.2, k.1, k.2.1, k.2.2⟩
theorem tot_small {e : Ex} (h : exTot e ≤ 1048576) : exSize e ≤ 1099511627776 := by have := (tot_size (exSize e)).1 e (Nat.le_refl _); omega
def TrueX (w : World) (e : Ending) (w' : World) : Prop := e = .returned (.bool true) ∧ Below w.heap.size w w'

end Go.Proofs.Ytbnghkgfbjipdaa

namespace Go.Proofs.Ytbnghkgfbjipdaa
open Go Go.RowKit

theorem bis_small {l : List Bi} (h : bisTot l ≤ 1048576) : (∀ r ∈ l, exSize r.val ≤ 1099511627776) ∧ l.length ≤ 1099511627776 :=
  ⟨fun r hr => by
    have h1 := bisTot_mem hr
    have h2 := (tot_size (exSize r.val)).1 r.val (Nat.le_refl _)
    unfold biTot at h1
    omega, by have := bisTot_ge l; omega⟩
theorem bl_slice {w : World} {v : Value} {l : List Bi} {bs : List Nat} (h : BlIs w v l bs) : ∃ A c, v = .slice A l.length c := by
  obtain ⟨A, c, e, -⟩ := h
  exact ⟨A, c, e⟩
theorem mine_two {W : World} {B C : Nat} {b2 b3 : List Nat} (h2 : Mine W B b2) (h3 : Mine W C b3) : ∀ x ∈ b2 ++ b3, ∀ o, W.frozen? ⟨x, o, none⟩ = false := fun x hx => (List.mem_append.1 hx).elim (fun h => h2.free x h) (fun h => h3.free x h)

end Go.Proofs.Ytbnghkgfbjipdaa
