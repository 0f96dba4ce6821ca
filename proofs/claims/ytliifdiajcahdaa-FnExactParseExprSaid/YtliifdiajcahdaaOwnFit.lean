/- What the program's parser has to find: the expressions whose texts stand at a place. No condition. -/
import Derived.Test.YtliifdiajcahdaaOwnTake
import Derived.Test.YtliifdiajcahdaaGramAll
namespace Go.Proofs.Ytliifdiajcahdaa
open Go Go.RowKit

def delim (c : UInt8) : Bool := ([40, 41, 44] : List UInt8).contains c
theorem cut_app {w r : List UInt8} (hw : ∀ c ∈ w, delim c = false) (hr : r = [] ∨ ∃ c t, r = c :: t ∧ delim c = true) : wordCut (w ++ r) = w := by
  induction w with
  | nil =>
    rcases hr with rfl | ⟨c, t, rfl, hc⟩
    · rfl
    · rw [List.nil_append, wordCut, List.takeWhile_cons]
      unfold delim at hc
      rw [hc]; rfl
  | cons c w ih =>
    have h1 := hw c (by simp)
    unfold delim at h1
    have h2 := ih (fun x hx => hw x (by simp [hx]))
    unfold wordCut at h2 ⊢
    rw [List.cons_append, List.takeWhile_cons, h1, h2]
    rfl
theorem word_delim {c : UInt8} (h : wordOk c = true) : delim c = false := by
  have h1 : ¬ c = 40 := fun e => by subst e; exact absurd h (by decide)
  have h2 : ¬ c = 41 := fun e => by subst e; exact absurd h (by decide)
  have h3 : ¬ c = 44 := fun e => by subst e; exact absurd h (by decide)
  simp [delim, h1, h2, h3]
theorem stop_delim {r : List UInt8} (h : Stop r) : r = [] ∨ ∃ c t, r = c :: t ∧ delim c = true := by
  rcases h with rfl | ⟨c, t, rfl, rfl | rfl⟩
  · exact Or.inl rfl
  · exact Or.inr ⟨_, _, rfl, by decide⟩
  · exact Or.inr ⟨_, _, rfl, by decide⟩
theorem node_con {w : List UInt8} {o : Bool} (h : nameL 65 90 w = true) : nodeK w o = some 2 := by unfold nodeK; rw [if_pos h]
theorem not_con {w : List UInt8} (h : nameL 97 122 w = true) : nameL 65 90 w = false := by
  obtain ⟨-, c, r, rfl, h1, h2⟩ := name_word (Or.inr ⟨Nat.le_refl _, Nat.le_refl _⟩) h
  simp only [nameL, Bool.and_eq_false_iff, decide_eq_false_iff_not]
  omega
theorem node_name {w : List UInt8} {o : Bool} (h : nameL 97 122 w = true) : nodeK w o = if o then some 3 else some 1 := by
  unfold nodeK
  rw [not_con h, h]
  rfl

/-- A text is made of its first word and what follows. -/
theorem fit_word {k : Int} {S : ByteArray} {L : List Ex} {l t : List UInt8} (ha : exAll (.mk k S L) = true) (hl : l = exText (.mk k S L) ++ t) (ht : Stop t) :
    ((wordCut l).length ≤ l.length ∧ hd (l.drop (wordCut l).length) 40 = false ∧ L = [] ∧ l.drop (wordCut l).length = t ∧ nodeE ⟨(wordCut l).toArray⟩ false = (.mk k S [], true)) ∨
    ((wordCut l).length ≤ l.length ∧ hd (l.drop (wordCut l).length) 40 = true ∧ (l.drop (wordCut l).length).drop 1 = Lib.join (exTexts L) [44] ++ 41 :: t ∧ nodeE ⟨(wordCut l).toArray⟩ true = (.mk k S [], true)) := by
  rw [exAll, Bool.and_eq_true] at ha
  have hform := ha.2
  unfold exFormOf at hform
  have plain : (∀ c ∈ S.data.toList, wordOk c = true) → exText (.mk k S L) = S.data.toList → L = [] → k ≠ 4 → nodeK S.data.toList false = some k →
      ((wordCut l).length ≤ l.length ∧ hd (l.drop (wordCut l).length) 40 = false ∧ L = [] ∧ l.drop (wordCut l).length = t ∧ nodeE ⟨(wordCut l).toArray⟩ false = (.mk k S [], true)) := fun h1 h2 h3 h4 h5 => by
    have hc : wordCut l = S.data.toList := by rw [hl, h2]; exact cut_app (fun c hc => word_delim (h1 c hc)) (stop_delim ht)
    have hd2 : l.drop (wordCut l).length = t := by rw [hc, hl, h2, List.drop_left]
    refine ⟨by rw [hc, hl, h2, List.length_append]; omega, by rw [hd2]; exact ht.no.2, h3, hd2, ?_⟩
    rw [hc, nodeE, show (⟨S.data.toList.toArray⟩ : ByteArray).data.toList = S.data.toList from rfl, h5]
    simp only [if_neg h4, str_eta]
  have call : (∀ c ∈ S.data.toList, wordOk c = true) → exText (.mk k S L) = S.data.toList ++ [40] ++ Lib.join (exTexts L) [44] ++ [41] → k ≠ 4 → nodeK S.data.toList true = some k →
      ((wordCut l).length ≤ l.length ∧ hd (l.drop (wordCut l).length) 40 = true ∧ (l.drop (wordCut l).length).drop 1 = Lib.join (exTexts L) [44] ++ 41 :: t ∧ nodeE ⟨(wordCut l).toArray⟩ true = (.mk k S [], true)) := fun h1 h2 h4 h5 => by
    have hl2 : l = S.data.toList ++ 40 :: (Lib.join (exTexts L) [44] ++ 41 :: t) := by rw [hl, h2]; simp
    have hc : wordCut l = S.data.toList := by rw [hl2]; exact cut_app (fun c hc => word_delim (h1 c hc)) (Or.inr ⟨_, _, rfl, by decide⟩)
    have hd2 : l.drop (wordCut l).length = 40 :: (Lib.join (exTexts L) [44] ++ 41 :: t) := by rw [hc, hl2, List.drop_left]
    refine ⟨by rw [hc, hl2, List.length_append]; omega, by rw [hd2]; rfl, by rw [hd2]; rfl, ?_⟩
    rw [hc, nodeE, show (⟨S.data.toList.toArray⟩ : ByteArray).data.toList = S.data.toList from rfl, h5]
    simp only [if_neg h4, str_eta]
  split at hform
  · rename_i hk
    subst hk
    rw [Bool.and_eq_true] at hform
    refine Or.inl (plain (name_word (Or.inr ⟨Nat.le_refl _, Nat.le_refl _⟩) hform.1).1 ?_ (List.eq_nil_of_length_eq_zero (of_decide_eq_true hform.2)) (by decide) (by rw [node_name hform.1]; rfl))
    rw [exText, if_neg (by decide), if_pos (Or.inl rfl)]
  · rename_i hk1
    split at hform
    · rename_i hk
      subst hk
      rw [Bool.and_eq_true] at hform
      by_cases hL : L.length = 0
      · refine Or.inl (plain (name_word (Or.inl ⟨Nat.le_refl _, Nat.le_refl _⟩) hform.1).1 ?_ (List.eq_nil_of_length_eq_zero hL) (by decide) (node_con hform.1))
        rw [exText, if_neg (by decide), if_pos (Or.inr ⟨rfl, hL⟩)]
      · refine Or.inr (call (name_word (Or.inl ⟨Nat.le_refl _, Nat.le_refl _⟩) hform.1).1 ?_ (by decide) (node_con hform.1))
        rw [exText, if_neg (by decide), if_neg (by simp [hL])]
    · rename_i hk2
      split at hform
      · rename_i hk
        subst hk
        rw [Bool.and_eq_true] at hform
        refine Or.inr (call (name_word (Or.inr ⟨Nat.le_refl _, Nat.le_refl _⟩) hform.1).1 ?_ (by decide) (by rw [node_name hform.1]; rfl))
        rw [exText, if_neg (by decide), if_neg (by simp)]
      · split at hform
        · rename_i hk
          subst hk
          rw [Bool.and_eq_true] at hform
          have hS : S = ⟨#[]⟩ := size_nil (of_decide_eq_true hform.1)
          have hL : L = [] := List.eq_nil_of_length_eq_zero (of_decide_eq_true hform.2)
          have hx : exText (.mk 4 S L) = [33] := by rw [exText, if_pos rfl]
          have hc : wordCut l = [33] := by rw [hl, hx]; exact cut_app (fun c hc => by rw [List.mem_singleton] at hc; rw [hc]; decide) (stop_delim ht)
          have hd2 : l.drop (wordCut l).length = t := by rw [hc, hl, hx, List.drop_left]
          refine Or.inl ⟨by rw [hc, hl, hx, List.length_append]; omega, by rw [hd2]; exact ht.no.2, hL, hd2, ?_⟩
          rw [hc, hS]
          rfl
        · cases hform

/-- What an expression that is read stands for: if a right one's text stands at a, and there is room for its nodes, this one is found. -/
def Fits (s : ByteArray) (a n : Nat) (e : Ex) (a2 n2 : Nat) (ok : Bool) : Prop :=
  ∀ e0 t, exAll e0 = true → rest s a = exText e0 ++ t → Stop t → n + exSize e0 ≤ 80 → ok = true ∧ e = e0 ∧ rest s a2 = t ∧ n2 = n + exSize e0
def FitsL (s : ByteArray) (a n : Nat) (l : List Ex) (a2 n2 : Nat) (ok : Bool) : Prop :=
  ∀ L t, exAllL L = true → rest s a = Lib.join (exTexts L) [44] ++ 41 :: t → n + exSizes L ≤ 80 → ok = true ∧ l = L ∧ rest s a2 = t ∧ n2 = n + exSizes L
def ExprO (b : Nat) (s : ByteArray) (a n : Nat) (w : World) (r : Ending) (w2 : World) : Prop :=
  ∃ v e bs a2 n2 ok, r = .returned (.tuple #[v, .bool ok]) ∧ ExIs w2 v e bs ∧ Mine w2 w.heap.size bs ∧ Fr [b + 1, b + 2] w w2 ∧ Env w2 b s a2 n2 ∧ a ≤ a2 ∧ a2 ≤ s.size ∧ (ok = true → a < a2 ∧ n2 ≤ 80 ∧ exSize e + n ≤ n2) ∧ Fits s a n e a2 n2 ok
def ArgsO (b : Nat) (s : ByteArray) (a n : Nat) (w : World) (r : Ending) (w2 : World) : Prop :=
  ∃ v l bs a2 n2 ok, r = .returned (.tuple #[v, .bool ok]) ∧ SlIs w2 v l bs ∧ Mine w2 w.heap.size bs ∧ Fr [b + 1, b + 2] w w2 ∧ Env w2 b s a2 n2 ∧ a ≤ a2 ∧ a2 ≤ s.size ∧ (ok = true → n2 ≤ 80 ∧ exSizes l + n ≤ n2) ∧ FitsL s a n l a2 n2 ok
end Go.Proofs.Ytliifdiajcahdaa
