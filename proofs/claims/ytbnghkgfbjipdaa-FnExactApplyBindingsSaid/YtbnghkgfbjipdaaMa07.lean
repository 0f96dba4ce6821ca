/- The contracts of the model's SizeOf, DepthOf, CallsOf. Condition: fewer than 2^40 nodes. Plain mathematics of names: what a name is, the index of a text in a list, different texts. No condition. The contracts of the model's IsName, IsConName and IndexOf. Conditions: texts of at most 1048576 bytes, lists of fewer than 2^47 elements. The contract of the model's EqualExpr. No condition but that both expressions lie in memory. -/
import Derived.Test.YtbnghkgfbjipdaaMa01
import Derived.WalkSpells
import Derived.WalkLawsBesides
import Derived.Test.YtbnghkgfbjipdaaMa04
import Derived.Test.YtbnghkgfbjipdaaMa02
import Derived.Test.YtbnghkgfbjipdaaMa03
import Derived.Deep.QuietTactic
import Derived.BigQuiet
import Derived.Deep.RegionHeld3
namespace Go.Proofs.Ytbnghkgfbjipdaa
open Go Go.RowKit

theorem sizes_snoc (l : List Ex) (k : Nat) (e : Ex) (h : l[k]? = some e) : exSizes (l.take (k + 1)) = exSizes (l.take k) + exSize e := by
  have hs : ∀ (a b : List Ex), exSizes (a ++ b) = exSizes a + exSizes b := by
    intro a
    induction a with
    | nil => intro b; simp [exSizes]
    | cons x r ih => intro b; rw [List.cons_append, exSizes, exSizes, ih]; omega
  have hk : k < l.length := (List.getElem?_eq_some_iff.1 h).1
  have he : l[k] = e := (List.getElem?_eq_some_iff.1 h).2
  rw [List.take_succ_eq_append_getElem hk, he, hs]
  simp [exSizes]

theorem sizes_take : ∀ (l : List Ex) (k : Nat), exSizes (l.take k) ≤ exSizes l := by
  intro l
  induction l with
  | nil => intro k; simp [exSizes]
  | cons x r ih =>
    intro k
    cases k with
    | zero => simp [exSizes]
    | succ k => rw [List.take_succ_cons, exSizes, exSizes]; have := ih k; omega

def SizePost (r : Int) (w : World) (e : Ending) (w' : World) : Prop := e = .returned (.int .i64 r) ∧ Below w.heap.size w w'

mutual
/-- The depth. -/
def exDepth : Ex → Nat
  | .mk _ _ l => exDeep l + 1
def exDeep : List Ex → Nat
  | [] => 0
  | e :: r => max (exDepth e) (exDeep r)
end
mutual
/-- How many calls. -/
def exCalls : Ex → Nat
  | .mk k _ l => (if k = 3 then 1 else 0) + exCallsL l
def exCallsL : List Ex → Nat
  | [] => 0
  | e :: r => exCalls e + exCallsL r
end
theorem depth_size (n : Nat) : (∀ e : Ex, exSize e ≤ n → exDepth e ≤ exSize e ∧ exCalls e ≤ exSize e) ∧ (∀ l : List Ex, exSizes l ≤ n → exDeep l ≤ exSizes l ∧ exCallsL l ≤ exSizes l) := by
  induction n with
  | zero =>
    refine ⟨fun e h => by have := exSize_pos e; omega, fun l h => ?_⟩
    cases l with
    | nil => simp [exDeep, exCallsL]
    | cons e r => rw [exSizes] at h; have := exSize_pos e; omega
  | succ n ih =>
    have hE : ∀ e : Ex, exSize e ≤ n + 1 → exDepth e ≤ exSize e ∧ exCalls e ≤ exSize e := by
      intro e h
      cases e with
      | mk k s l =>
        rw [exSize] at h ⊢
        rw [exDepth, exCalls]
        have := ih.2 l (by omega)
        split <;> omega
    refine ⟨hE, ?_⟩
    intro l
    induction l with
    | nil => intro _; simp [exDeep, exCallsL]
    | cons e r ihl =>
      intro h
      rw [exSizes] at h ⊢
      rw [exDeep, exCallsL]
      have h1 := hE e (by omega)
      have h2 := ihl (by omega)
      omega
theorem deep_app : ∀ (a b : List Ex), exDeep (a ++ b) = max (exDeep a) (exDeep b) := by
  intro a
  induction a with
  | nil => intro b; simp [exDeep]
  | cons x r ih => intro b; rw [List.cons_append, exDeep, exDeep, ih]; omega
theorem calls_app : ∀ (a b : List Ex), exCallsL (a ++ b) = exCallsL a + exCallsL b := by
  intro a
  induction a with
  | nil => intro b; simp [exCallsL]
  | cons x r ih => intro b; rw [List.cons_append, exCallsL, exCallsL, ih]; omega
theorem take_ex (l : List Ex) (k : Nat) (e : Ex) (h : l[k]? = some e) : l.take (k + 1) = l.take k ++ [e] := by
  have hk : k < l.length := (List.getElem?_eq_some_iff.1 h).1
  rw [List.take_succ_eq_append_getElem hk, (List.getElem?_eq_some_iff.1 h).2]
theorem deep_snoc (l : List Ex) (k : Nat) (e : Ex) (h : l[k]? = some e) : exDeep (l.take (k + 1)) = max (exDeep (l.take k)) (exDepth e) := by
  rw [take_ex l k e h, deep_app]; simp [exDeep]
theorem calls_snoc (l : List Ex) (k : Nat) (e : Ex) (h : l[k]? = some e) : exCallsL (l.take (k + 1)) = exCallsL (l.take k) + exCalls e := by
  rw [take_ex l k e h, calls_app]; simp [exCallsL]
theorem depth_le (e : Ex) : exDepth e ≤ exSize e := ((depth_size _).1 e (Nat.le_refl _)).1
theorem calls_le (e : Ex) : exCalls e ≤ exSize e := ((depth_size _).1 e (Nat.le_refl _)).2

def BitPost (b : Bool) (w : World) (e : Ending) (w' : World) : Prop := ∃ z : Int, e = .returned (.int .i64 z) ∧ w = w' ∧ 0 ≤ z ∧ z ≤ 1 ∧ z = if b then 1 else 0
end Go.Proofs.Ytbnghkgfbjipdaa

namespace Go.Proofs.Ytbnghkgfbjipdaa
open Go

def tailOk (c : UInt8) : Bool := (decide (97 ≤ c.toNat) && decide (c.toNat ≤ 122)) || (decide (48 ≤ c.toNat) && decide (c.toNat ≤ 57))
/-- The part of a name behind its first letter. -/
def tailL (l : List UInt8) : Bool := l.all tailOk
def nameL (lo hi : Nat) : List UInt8 → Bool
  | [] => false
  | c :: r => decide (r.length ≤ 5) && (decide (lo ≤ c.toNat) && decide (c.toNat ≤ hi)) && tailL r
theorem tail_yes {c : UInt8} (h : (97 ≤ c.toNat ∧ c.toNat ≤ 122) ∨ (48 ≤ c.toNat ∧ c.toNat ≤ 57)) : tailOk c = true := by
  unfold tailOk
  rcases h with ⟨h1, h2⟩ | ⟨h1, h2⟩ <;> simp [h1, h2]
theorem tail_not {c : UInt8} (h : c.toNat < 48 ∨ (57 < c.toNat ∧ c.toNat < 97) ∨ 122 < c.toNat) : tailOk c = false := by
  unfold tailOk
  simp only [Bool.or_eq_false_iff, Bool.and_eq_false_iff, decide_eq_false_iff_not]
  omega
theorem tail_step (l : List UInt8) (k : Nat) (c : UInt8) (h : l.drop k = c :: l.drop (k + 1)) (hc : tailOk c = true) : tailL (l.drop k) = tailL (l.drop (k + 1)) := by
  rw [h]; simp [tailL, hc]
theorem tail_stop (l : List UInt8) (k : Nat) (c : UInt8) (h : l.drop k = c :: l.drop (k + 1)) (hc : tailOk c = false) : tailL (l.drop k) = false := by
  rw [h]; simp [tailL, hc]

/-- The index of the first element that is s, counted from k on; -1 if there is none. -/
def idxFrom (s : ByteArray) : Nat → List ByteArray → Int
  | _, [] => -1
  | k, x :: r => if x = s then k else idxFrom s (k + 1) r
def idx (xs : List ByteArray) (s : ByteArray) : Int := idxFrom s 0 xs
theorem idx_not (s : ByteArray) : ∀ (xs : List ByteArray) (k : Nat), s ∉ xs → idxFrom s k xs = -1 := by
  intro xs
  induction xs with
  | nil => intro k _; rfl
  | cons x r ih =>
    intro k h
    rw [idxFrom, if_neg (fun e => h (by rw [e]; exact List.mem_cons_self)), ih _ (fun e => h (List.mem_cons_of_mem _ e))]
theorem idx_yes (s : ByteArray) : ∀ (xs : List ByteArray) (k : Nat), s ∈ xs → (k : Int) ≤ idxFrom s k xs ∧ idxFrom s k xs < k + xs.length := by
  intro xs
  induction xs with
  | nil => intro k h; cases h
  | cons x r ih =>
    intro k h
    rw [idxFrom]
    by_cases e : x = s
    · rw [if_pos e]; simp only [List.length_cons]; omega
    · rw [if_neg e]
      have h2 : s ∈ r := by
        rcases List.mem_cons.1 h with e2 | h2
        · exact absurd e2.symm e
        · exact h2
      have := ih (k + 1) h2
      simp only [List.length_cons]; omega
theorem idx_mem (xs : List ByteArray) (s : ByteArray) : 0 ≤ idx xs s ↔ s ∈ xs := by
  constructor
  · intro h
    by_cases hm : s ∈ xs
    · exact hm
    · have := idx_not s xs 0 hm
      unfold idx at h; omega
  · intro h; have := idx_yes s xs 0 h; unfold idx; omega
theorem idx_lt (xs : List ByteArray) (s : ByteArray) : idx xs s < xs.length ∨ idx xs s = -1 := by
  by_cases hm : s ∈ xs
  · have := idx_yes s xs 0 hm; unfold idx; omega
  · exact Or.inr (idx_not s xs 0 hm)
theorem idx_ge (xs : List ByteArray) (s : ByteArray) : -1 ≤ idx xs s := by
  by_cases hm : s ∈ xs
  · have := (idx_mem xs s).2 hm; omega
  · have := idx_not s xs 0 hm; unfold idx; omega

/-- Are all different, each held against those before it? -/
def distinct (xs : List ByteArray) : Bool := decide xs.Nodup
theorem nodup_take (xs : List ByteArray) (k : Nat) (x : ByteArray) (h : xs.take (k + 1) = xs.take k ++ [x]) : (xs.take (k + 1)).Nodup ↔ (xs.take k).Nodup ∧ x ∉ xs.take k := by
  rw [h, List.nodup_append]
  constructor
  · rintro ⟨h1, -, h2⟩
    exact ⟨h1, fun hm => h2 x hm x (by simp) rfl⟩
  · rintro ⟨h1, h2⟩
    exact ⟨h1, by simp, fun a ha b hb e => by rw [List.mem_singleton] at hb; subst hb; subst e; exact h2 ha⟩
theorem nodup_of_take (xs : List ByteArray) (k : Nat) (h : ¬ (xs.take k).Nodup) : ¬ xs.Nodup := fun hn => h (hn.sublist (List.take_sublist k xs))

/-- What is there already is left out. -/
def uniteFrom : List ByteArray → List ByteArray → List ByteArray
  | out, [] => out
  | out, x :: r => if 0 ≤ idx out x then uniteFrom out r else uniteFrom (out ++ [x]) r
def unite (a b : List ByteArray) : List ByteArray := uniteFrom (uniteFrom [] a) b
theorem unite_len : ∀ (xs out : List ByteArray), (uniteFrom out xs).length ≤ out.length + xs.length := by
  intro xs
  induction xs with
  | nil => intro out; simp [uniteFrom]
  | cons x r ih =>
    intro out
    rw [uniteFrom]
    split
    · have := ih out; simp only [List.length_cons]; omega
    · have := ih (out ++ [x]); simp only [List.length_append, List.length_cons, List.length_nil] at this ⊢; omega
end Go.Proofs.Ytbnghkgfbjipdaa

namespace Go.Proofs.Ytbnghkgfbjipdaa
open Go Go.RowKit

theorem sizeN (s : ByteArray) : s.data.toList.length = s.size := Array.length_toList
theorem drop_at (s : ByteArray) (k : Nat) (h : k < s.size) : s.data.toList.drop k = s[k] :: s.data.toList.drop (k + 1) := by
  rw [List.drop_eq_getElem_cons (by rw [sizeN]; exact h)]; rfl

/-- Do letters and digits alone stand behind the first byte? -/
def tail1 (s : ByteArray) : Bool := tailL (s.data.toList.drop 1)

theorem bytes_eq {x s : ByteArray} (h : x.data.toList = s.data.toList) : x = s := by
  have e1 : x.data = s.data := Array.toList_inj.1 h
  cases x; cases s
  simp only at e1
  rw [e1]
theorem beq_yes {x s : ByteArray} (h : x = s) : (x.toList == s.toList) = true := by rw [h]; simp
theorem beq_no {x s : ByteArray} (h : ¬ x = s) : (x.toList == s.toList) = false := by
  cases hb : (x.toList == s.toList) with
  | false => rfl
  | true =>
    rw [beq_iff_eq, ByteArray.toList_eq, ByteArray.toList_eq] at hb
    exact absurd (bytes_eq hb) h
theorem idx_here (xs : List ByteArray) (s : ByteArray) (k : Nat) (x : ByteArray) (h : xs[k]? = some x) : (x = s → idxFrom s k (xs.drop k) = k) ∧ (¬ x = s → idxFrom s k (xs.drop k) = idxFrom s (k + 1) (xs.drop (k + 1))) := by
  have hk : k < xs.length := (List.getElem?_eq_some_iff.1 h).1
  have e : xs[k] = x := (List.getElem?_eq_some_iff.1 h).2
  rw [List.drop_eq_getElem_cons hk, e]
  exact ⟨fun h => by rw [idxFrom, if_pos h], fun h => by rw [idxFrom, if_neg h]⟩

set_option maxHeartbeats 1000000 in
theorem idx_any (A : Option Addr) (xs : List ByteArray) (cap : Nat) (s : ByteArray) (w : World) (hs : Strs w A xs) (hn : xs.length ≤ 140737488355328) :
    Calls Try.prog 99 #[.slice A xs.length cap, .string s] w fun e w' => e = .returned (.int .i64 (idx xs s)) ∧ w = w' := by
  obtain ⟨n, hnn⟩ : ∃ n, n = xs.length := ⟨_, rfl⟩
  have HN := Lib.hid hnn
  have HS := Lib.hid hs
  rw [← hnn]
  rw [← hnn] at hn
  clear hs hnn
  go_enter Try.func99, Try.ntmps99
  go_wp2
  go_loop [5] (fun i => ∃ k : Nat, k ≤ n ∧ i = .int .i64 (k : Int) ∧ Hid (idx xs s = idxFrom s k (xs.drop k))) (fun i => n - (intOf i).toNat)
  case atStart => exact ⟨0, Nat.zero_le _, rfl, Lib.hid rfl⟩
  case round =>
    obtain ⟨k, hk, rfl, HK⟩ := hrel
    by_cases hlt : k < n
    · obtain ⟨a, x, rfl, hc, -, hx, -, -⟩ := HS.out.get k (by rw [← HN.out]; exact hlt)
      have HD := Lib.hid (idx_here xs s k x hx)
      clear hx
      by_cases e : x = s
      · have hb := beq_yes e
        have HE := Lib.hid (HK.out.trans (HD.out.1 e))
        clear e
        go_wp2
        go_ret
        exact ⟨by rw [HE.out]; rfl, rfl⟩
      · have hb := beq_no e
        have HE := Lib.hid (HK.out.trans (HD.out.2 e))
        clear e
        go_wp2
        go_round
        case rel => exact ⟨k + 1, by omega, by go_num, HE⟩
        case measure => simp [intOf]; omega
    · have HE := Lib.hid (show idxFrom s k (xs.drop k) = -1 by rw [List.drop_eq_nil_of_le (by rw [← HN.out]; omega)]; rfl)
      go_wp2
      go_ret
      exact ⟨by rw [HK.out, HE.out]; rfl, rfl⟩

theorem name_list (s : ByteArray) (h : 1 ≤ s.size) : s.data.toList = s[0] :: s.data.toList.drop 1 := by
  have := drop_at s 0 h
  simpa using this
theorem name_in (lo hi : Nat) (s : ByteArray) (h : 1 ≤ s.size) (h6 : s.size ≤ 6) (h0 : lo ≤ s[0].toNat) (h1 : s[0].toNat ≤ hi) : nameL lo hi s.data.toList = tail1 s := by
  have e := name_list s h
  have hl : (s.data.toList.drop 1).length ≤ 5 := by rw [List.length_drop, sizeN]; omega
  unfold tail1
  generalize s.data.toList.drop 1 = r at *
  rw [e]
  simp [nameL, hl, h0, h1]
theorem name_first (lo hi : Nat) (s : ByteArray) (h : 1 ≤ s.size) (h0 : s[0].toNat < lo ∨ hi < s[0].toNat) : nameL lo hi s.data.toList = false := by
  have e := name_list s h
  generalize s.data.toList.drop 1 = r at *
  rw [e]
  simp only [nameL, Bool.and_eq_false_iff, decide_eq_false_iff_not]
  omega
theorem name_size (lo hi : Nat) (s : ByteArray) (h : s.size < 1 ∨ 6 < s.size) : nameL lo hi s.data.toList = false := by
  by_cases h1 : s.size < 1
  · have : s.data.toList = [] := List.eq_nil_of_length_eq_zero (by rw [sizeN]; omega)
    rw [this]; rfl
  · have e := name_list s (by omega)
    have hl : ¬ (s.data.toList.drop 1).length ≤ 5 := by rw [List.length_drop, sizeN]; omega
    generalize s.data.toList.drop 1 = r at *
    rw [e]
    simp [nameL, hl]

end Go.Proofs.Ytbnghkgfbjipdaa

namespace Go.Proofs.Ytbnghkgfbjipdaa
open Go Go.RowKit

mutual
def exEq : Ex → Ex → Bool
  | .mk k s l, .mk k' s' l' => decide (k = k') && (decide (s = s') && exEqs l l')
def exEqs : List Ex → List Ex → Bool
  | [], [] => true
  | e :: r, e' :: r' => exEq e e' && exEqs r r'
  | _, _ => false
end
theorem eqs_len : ∀ (l l' : List Ex), exEqs l l' = true → l.length = l'.length := by
  intro l
  induction l with
  | nil => intro l' h; cases l' with
    | nil => rfl
    | cons e r => simp [exEqs] at h
  | cons e r ih => intro l' h; cases l' with
    | nil => simp [exEqs] at h
    | cons e' r' =>
      rw [exEqs, Bool.and_eq_true] at h
      rw [List.length_cons, List.length_cons, ih r' h.2]
theorem eqs_at : ∀ (l l' : List Ex) (k : Nat) (e e' : Ex), l[k]? = some e → l'[k]? = some e' → exEq e e' = false → exEqs l l' = false := by
  intro l
  induction l with
  | nil => intro l' k e e' h _ _; simp at h
  | cons x r ih => intro l' k e e' h h' he; cases l' with
    | nil => simp at h'
    | cons x' r' =>
      rw [exEqs]
      cases k with
      | zero =>
        simp at h h'
        subst h; subst h'
        rw [he, Bool.false_and]
      | succ k => rw [ih r' k e e' (by simpa using h) (by simpa using h') he, Bool.and_false]
theorem eqs_drop (l l' : List Ex) (k : Nat) (e e' : Ex) (h : l[k]? = some e) (h' : l'[k]? = some e') (he : exEq e e' = true) : exEqs (l.drop k) (l'.drop k) = exEqs (l.drop (k + 1)) (l'.drop (k + 1)) := by
  have hk : k < l.length := (List.getElem?_eq_some_iff.1 h).1
  have hk' : k < l'.length := (List.getElem?_eq_some_iff.1 h').1
  rw [List.drop_eq_getElem_cons hk, List.drop_eq_getElem_cons hk', (List.getElem?_eq_some_iff.1 h).2, (List.getElem?_eq_some_iff.1 h').2, exEqs, he, Bool.true_and]
theorem exEq_parts (a b : Ex) : exEq a b = (decide (a.kind = b.kind) && (decide (a.name = b.name) && exEqs a.args b.args)) := by cases a; cases b; rfl

/-- Eight cells that stay. -/
theorem keep8_start {wr : World} {a b c d e f g h : Addr} {x1 x2 x3 x4 x5 x6 x7 x8 : Value} (H : wr.cell? a = some x1 ∧ wr.cell? b = some x2 ∧ wr.cell? c = some x3 ∧ wr.cell? d = some x4 ∧ wr.cell? e = some x5 ∧ wr.cell? f = some x6 ∧ wr.cell? g = some x7 ∧ wr.cell? h = some x8) :
    wr.drew.cell? a = some x1 ∧ wr.drew.cell? b = some x2 ∧ wr.drew.cell? c = some x3 ∧ wr.drew.cell? d = some x4 ∧ wr.drew.cell? e = some x5 ∧ wr.drew.cell? f = some x6 ∧ wr.drew.cell? g = some x7 ∧ wr.drew.cell? h = some x8 ∧ Hid (Below wr.heap.size wr wr.drew) :=
  ⟨H.1, H.2.1, H.2.2.1, H.2.2.2.1, H.2.2.2.2.1, H.2.2.2.2.2.1, H.2.2.2.2.2.2.1, H.2.2.2.2.2.2.2, Lib.hid (Below.refl _ _).drew⟩
theorem keep8_step {wr X w2 : World} {a b c d e f g h : Addr} {x1 x2 x3 x4 x5 x6 x7 x8 : Value} (H : Hid (wr.cell? a = some x1 ∧ wr.cell? b = some x2 ∧ wr.cell? c = some x3 ∧ wr.cell? d = some x4 ∧ wr.cell? e = some x5 ∧ wr.cell? f = some x6 ∧ wr.cell? g = some x7 ∧ wr.cell? h = some x8)) (hb : Below X.heap.size X w2)
    (hX : X.cell? a = some x1 ∧ X.cell? b = some x2 ∧ X.cell? c = some x3 ∧ X.cell? d = some x4 ∧ X.cell? e = some x5 ∧ X.cell? f = some x6 ∧ X.cell? g = some x7 ∧ X.cell? h = some x8 ∧ Hid (Below wr.heap.size wr X)) :
    w2.cell? a = some x1 ∧ w2.cell? b = some x2 ∧ w2.cell? c = some x3 ∧ w2.cell? d = some x4 ∧ w2.cell? e = some x5 ∧ w2.cell? f = some x6 ∧ w2.cell? g = some x7 ∧ w2.cell? h = some x8 ∧ Hid (Below wr.heap.size wr w2) := by
  have HB := hX.2.2.2.2.2.2.2.2
  have hw := HB.out.trans (hb.mono HB.out.size)
  have k : ∀ {p : Addr} {x : Value}, wr.cell? p = some x → w2.cell? p = some x := fun {p x} hp => (hw.cell (p := p) (World.block_lt_of_cell? wr _ hp)).trans hp
  obtain ⟨h1, h2, h3, h4, h5, h6, h7, h8⟩ := H.out
  exact ⟨k h1, k h2, k h3, k h4, k h5, k h6, k h7, k h8, Lib.hid hw⟩

set_option maxHeartbeats 4000000 in
theorem equal_any (n : Nat) : ∀ (a b : Ex) (v v' : Value) (bs bs' : List Nat) (w : World), exSize a ≤ n → ExIs w v a bs → ExIs w v' b bs' →
    Calls Try.prog 59 #[v, v'] w (RetPost (.bool (exEq a b)) w) := by
  induction n with
  | zero => intro a b v v' bs bs' w h; have := exSize_pos a; omega
  | succ n ih =>
    intro a b v v' bs bs' w hle hv hv'
    obtain ⟨u, rfl, hsz, hu⟩ := hv
    obtain ⟨u', rfl, hsz', hu'⟩ := hv'
    obtain ⟨A, c, rfl, hc1, hc2, -⟩ := id hu
    obtain ⟨A', c', rfl, hc1', hc2', -⟩ := id hu'
    have HU := Lib.hid hu
    have HV := Lib.hid hu'
    have HF := Lib.hid (exEq_parts a b)
    have HE := Lib.hid (show exSize a = exSizes a.args + 1 by cases a; rfl)
    have HN := Lib.hid hle
    have HIH := Lib.hid ih
    clear hu hu' hle ih
    generalize exEq a b = R at *
    generalize a.kind = K at *
    generalize b.kind = K' at *
    generalize a.name = S at *
    generalize b.name = S' at *
    generalize hL : a.args = L at *
    generalize hL' : b.args = L' at *
    clear hL hL'
    obtain ⟨m, hm⟩ : ∃ m, m = L.length := ⟨_, rfl⟩
    obtain ⟨m', hm'⟩ : ∃ m', m' = L'.length := ⟨_, rfl⟩
    rw [← hm, ← hm']
    rw [← hm] at hc1 HU
    rw [← hm'] at hc1' HV
    have HM := Lib.hid hm
    have HM' := Lib.hid hm'
    clear hm hm'
    have hm1 : (m : Int) ≤ 9223372036854775807 := by omega
    have hm2 : (m' : Int) ≤ 9223372036854775807 := by omega
    by_cases hk : K = K'
    · subst hk
      by_cases hs : S = S'
      · subst hs
        by_cases hl : m = m'
        · subst hl
          have hR : R = exEqs L L' := by rw [HF.out, decide_eq_true rfl, decide_eq_true rfl, Bool.true_and, Bool.true_and]
          have HR := Lib.hid hR
          clear hR HF
          go_enter Try.func59, Try.ntmps59
          go_wp2_with fail
          go_loopw [5] (fun i wr => ∃ (k : Nat), k ≤ m ∧ i = .int .i64 (k : Int) ∧ Hid (R = exEqs (L.drop k) (L'.drop k)) ∧ Hid (Below w.heap.size w wr) ∧ wr.heap[w.heap.size]? = some (.cells #[.int .i64 K, .string S, .slice A m c] 26 (0, 0)) ∧ wr.heap[w.heap.size + 1]? = some (.cells #[.int .i64 K, .string S, .slice A' m c'] 26 (0, 0))) (fun i _ => m - (intOf i).toNat)
          case atStart => exact ⟨0, Nat.zero_le _, rfl, HR, Lib.hid (((Below.refl _ _).alloc (Nat.le_refl _) _).alloc (by simp) _), (Below.heap_alloc _ _ _ (by simp)).trans (heap_alloc_new _ _), by
            have e : w.heap.size + 1 = (w.alloc (.cells #[.int .i64 K, .string S, .slice A m c] 26)).heap.size := by simp
            rw [e]; exact heap_alloc_new _ _⟩
          case round =>
            obtain ⟨k, hk, rfl, HZ, HB, hbox, hbox'⟩ := hrel
            have d2 : wr.cell? ⟨w.heap.size, 2, none⟩ = some (.slice A m c) := by simp [World.cell?, hbox]
            have d2' : wr.cell? ⟨w.heap.size + 1, 2, none⟩ = some (.slice A' m c') := by simp [World.cell?, hbox']
            have hgo := HB.out.size
            have hboxlt : w.heap.size < wr.heap.size := (Array.getElem?_eq_some_iff.1 hbox).1
            have hboxlt' : w.heap.size + 1 < wr.heap.size := (Array.getElem?_eq_some_iff.1 hbox').1
            have HBOX := Lib.hid hbox
            have HBOX' := Lib.hid hbox'
            clear hbox hbox'
            by_cases hlt : k < m
            · obtain ⟨g, o, e1, u, b1, rfl, hbl, hget, hmem, c1, c2, c3, his, -⟩ := (HU.out.below HB.out).get k (by rw [← HM.out]; exact hlt)
              obtain ⟨h, p, e2, u', b2, rfl, hbl', hget', -, c4, c5, c6, his', -⟩ := (HV.out.below HB.out).get k (by rw [← HM'.out]; exact hlt)
              have HCALL := Lib.hid (fun (W : World) (hb : Hid (Below wr.heap.size wr W)) => HIH.out e1 e2 _ _ b1 b2 W (by have := HE.out; have := exSizes_mem hmem; have := HN.out; omega) (his.below hb.out) (his'.below hb.out))
              have HAT := Lib.hid (eqs_at L L' k e1 e2 hget hget')
              have HDP := Lib.hid (eqs_drop L L' k e1 e2 hget hget')
              clear his his' hget hget' hmem
              generalize exEq e1 e2 = q at *
              have H8 := Lib.hid (And.intro d2 (And.intro d2' (And.intro c1 (And.intro c2 (And.intro c3 (And.intro c4 (And.intro c5 c6)))))))
              have HDR := Lib.hid (Below.drew (Below.refl wr.heap.size wr))
              have hk0 : 0 ≤ (k : Int) := by omega
              have hkm : (k : Int) < (m : Int) := by omega
              cases q
              · have HR0 := Lib.hid (show R = false from HR.out.trans (HAT.out rfl))
                go_wp2_with fail
                go_region_held3 (fun X => X.cell? ⟨w.heap.size, 2, none⟩ = some (.slice (some ⟨g, o, none⟩) m c) ∧ X.cell? ⟨w.heap.size + 1, 2, none⟩ = some (.slice (some ⟨h, p, none⟩) m c') ∧ X.cell? ⟨g, o + k * 3, none⟩ = some (.int .i64 e1.kind) ∧ X.cell? ⟨g, o + k * 3 + 1, none⟩ = some (.string e1.name) ∧ X.cell? ⟨g, o + k * 3 + 2, none⟩ = some u ∧ X.cell? ⟨h, p + k * 3, none⟩ = some (.int .i64 e2.kind) ∧ X.cell? ⟨h, p + k * 3 + 1, none⟩ = some (.string e2.name) ∧ X.cell? ⟨h, p + k * 3 + 2, none⟩ = some u' ∧ Hid (Below wr.heap.size wr X))
                  (first | exact keep8_start H8.out | exact keep8_step H8 hb2 (by assumption))
                  (first | (go_at_call 59; refine (HCALL.out _ (by assumption)).mono ?_; rintro e w2 ⟨rfl, hb2⟩))
                all_goals
                  have hx := ‹_ ∧ _ ∧ _ ∧ _ ∧ _ ∧ _ ∧ _ ∧ _ ∧ Hid (Below wr.heap.size wr w2)›
                  have HX := Lib.hid (HB.out.trans (hx.2.2.2.2.2.2.2.2.out.mono HB.out.size))
                  clear hx
                  go_wp2_with fail
                  go_ret
                  exact ⟨by rw [HR0.out]; rfl, HX.out⟩
              · go_wp2_with fail
                go_region_held3 (fun X => X.cell? ⟨w.heap.size, 2, none⟩ = some (.slice (some ⟨g, o, none⟩) m c) ∧ X.cell? ⟨w.heap.size + 1, 2, none⟩ = some (.slice (some ⟨h, p, none⟩) m c') ∧ X.cell? ⟨g, o + k * 3, none⟩ = some (.int .i64 e1.kind) ∧ X.cell? ⟨g, o + k * 3 + 1, none⟩ = some (.string e1.name) ∧ X.cell? ⟨g, o + k * 3 + 2, none⟩ = some u ∧ X.cell? ⟨h, p + k * 3, none⟩ = some (.int .i64 e2.kind) ∧ X.cell? ⟨h, p + k * 3 + 1, none⟩ = some (.string e2.name) ∧ X.cell? ⟨h, p + k * 3 + 2, none⟩ = some u' ∧ Hid (Below wr.heap.size wr X))
                  (first | exact keep8_start H8.out | exact keep8_step H8 hb2 (by assumption))
                  (first | (go_at_call 59; refine (HCALL.out _ (by assumption)).mono ?_; rintro e w2 ⟨rfl, hb2⟩))
                all_goals
                  have hx := ‹_ ∧ _ ∧ _ ∧ _ ∧ _ ∧ _ ∧ _ ∧ _ ∧ Hid (Below wr.heap.size wr w2)›
                  have HX0 := Lib.hid hx.2.2.2.2.2.2.2.2.out
                  have HX := Lib.hid (HB.out.trans (HX0.out.mono HB.out.size))
                  clear hx
                  go_wp2_with fail
                  go_roundw
                  case rel => exact ⟨k + 1, by omega, by go_num, Lib.hid (HZ.out.trans (HDP.out (by first | rfl | trivial))), HX, (HX0.out.block _ hboxlt).trans HBOX.out, (HX0.out.block _ hboxlt').trans HBOX'.out⟩
                  case measure => simp [intOf]; omega
            · have HR1 := Lib.hid (show R = true by
                rw [HZ.out, List.drop_eq_nil_of_le (by rw [← HM.out]; omega), List.drop_eq_nil_of_le (by rw [← HM'.out]; omega)]; rfl)
              go_wp2_with fail
              go_ret
              exact ⟨by rw [HR1.out]; rfl, HB.out⟩
        · have HR := Lib.hid (show R = false by
            rw [HF.out]
            cases h : exEqs L L' with
            | false => simp
            | true => have := eqs_len L L' h; have := HM.out; have := HM'.out; omega)
          have hd : ((m : Int) == (m' : Int)) = false := by simp; omega
          clear hl
          go_enter Try.func59, Try.ntmps59
          go_wp2_with fail
          go_ret
          exact ⟨by rw [HR.out]; rfl, ((Below.refl _ _).alloc (Nat.le_refl _) _).alloc (by simp) _⟩
      · have HR := Lib.hid (show R = false by rw [HF.out, decide_eq_false hs, Bool.false_and, Bool.and_false])
        have hb := beq_no hs
        clear hs
        go_enter Try.func59, Try.ntmps59
        go_wp2_with fail
        go_ret
        exact ⟨by rw [HR.out]; rfl, ((Below.refl _ _).alloc (Nat.le_refl _) _).alloc (by simp) _⟩
    · have HR := Lib.hid (show R = false by rw [HF.out, decide_eq_false hk, Bool.false_and])
      have hb : (K != K') = true := by simpa using hk
      clear hk
      go_enter Try.func59, Try.ntmps59
      go_wp2_with fail
      go_ret
      exact ⟨by rw [HR.out]; rfl, ((Below.refl _ _).alloc (Nat.le_refl _) _).alloc (by simp) _⟩
end Go.Proofs.Ytbnghkgfbjipdaa
