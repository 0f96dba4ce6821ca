/- Every valid expression is what its text stands for. No condition. -/
import Derived.Test.YtmndlhbgacgnlaaSpecParse
namespace Go.Proofs.Ytmndlhbgacgnlaa
open Go Go.RowKit

/-- What may follow an expression. -/
def Stop (r : List UInt8) : Prop := r = [] ∨ ∃ c t, r = c :: t ∧ (c = 41 ∨ c = 44)
theorem Stop.no {r : List UInt8} (h : Stop r) : wordL r = [] ∧ hd r 40 = false := by
  rcases h with rfl | ⟨c, t, rfl, rfl | rfl⟩
  · exact ⟨rfl, rfl⟩
  · exact ⟨word_no (by decide), by simp [hd]⟩
  · exact ⟨word_no (by decide), by simp [hd]⟩
theorem word_app {w r : List UInt8} (hw : ∀ c ∈ w, wordOk c = true) (hr : wordL r = []) : wordL (w ++ r) = w := by
  induction w with
  | nil => exact hr
  | cons c w ih =>
    rw [List.cons_append, word_yes (hw c (by simp)), ih (fun x hx => hw x (by simp [hx]))]
theorem name_word {lo hi : Nat} {w : List UInt8} (hl : (65 ≤ lo ∧ hi ≤ 90) ∨ (97 ≤ lo ∧ hi ≤ 122)) (h : nameL lo hi w = true) : (∀ c ∈ w, wordOk c = true) ∧ ∃ c r, w = c :: r ∧ lo ≤ c.toNat ∧ c.toNat ≤ hi := by
  cases w with
  | nil => cases h
  | cons c r =>
    simp only [nameL, Bool.and_eq_true, decide_eq_true_eq] at h
    obtain ⟨⟨-, h1, h2⟩, h3⟩ := h
    refine ⟨fun x hx => ?_, c, r, rfl, h1, h2⟩
    rcases List.mem_cons.1 hx with rfl | hx
    · unfold wordOk tailOk
      rcases hl with hl | hl
      · have a1 : 65 ≤ x.toNat := by omega
        have a2 : x.toNat ≤ 90 := by omega
        simp [a1, a2]
      · have a1 : 97 ≤ x.toNat := by omega
        have a2 : x.toNat ≤ 122 := by omega
        simp [a1, a2]
    · have := List.all_eq_true.1 h3 x hx
      unfold wordOk
      rw [this, Bool.or_true]
theorem kind_word {k : Int} {w : List UInt8} {p : Bool} (h : (k = 2 ∧ nameL 65 90 w = true) ∨ (nameL 97 122 w = true ∧ k = if p then 3 else 1)) : kindW p w = k := by
  unfold kindW
  rcases h with ⟨rfl, h⟩ | ⟨h, rfl⟩
  · have : nameL 97 122 w = false := by
      obtain ⟨-, c, r, rfl, h1, h2⟩ := name_word (Or.inl ⟨Nat.le_refl _, Nat.le_refl _⟩) h
      simp only [nameL, Bool.and_eq_false_iff, decide_eq_false_iff_not]
      omega
    rw [this]; rfl
  · rw [h]; rfl
/-- Where a text begins. -/
theorem head_no {w t : List UInt8} {c : UInt8} (h : ∃ x r, w = x :: r ∧ x ≠ c) : hd (w ++ t) c = false := by
  obtain ⟨x, r, rfl, hx⟩ := h
  simp [hd, hx]
theorem node_word {f : Nat} {w r : List UInt8} {k : Int} (hw : ∀ c ∈ w, wordOk c = true) (hn : ∃ x t, w = x :: t ∧ x ≠ 33) (hr : Stop r) (hk : kindW false w = k) : pNode (f + 1) (w ++ r) = some (.mk k ⟨w.toArray⟩ [], r) := by
  have h1 := word_app hw hr.no.1
  have hne : w ≠ [] := by obtain ⟨x, t, rfl, -⟩ := hn; simp
  rw [pNode, head_no hn, h1, List.drop_left, hr.no.2, hk]
  simp [hne]
theorem node_call {f : Nat} {w t r : List UInt8} {k : Int} {l : List Ex} (hw : ∀ c ∈ w, wordOk c = true) (hn : ∃ x t, w = x :: t ∧ x ≠ 33) (hk : kindW true w = k) (ha : pArgs (pNode f) t = some (l, r)) : pNode (f + 1) (w ++ 40 :: t) = some (.mk k ⟨w.toArray⟩ l, r) := by
  have h1 : wordL (w ++ 40 :: t) = w := word_app hw (word_no (by decide))
  have hne : w ≠ [] := by obtain ⟨x, t, rfl, -⟩ := hn; simp
  rw [pNode, head_no hn, h1, List.drop_left]
  simp only [hd, List.head?_cons, beq_self_eq_true, if_true, List.drop_succ_cons, List.drop_zero, Bool.false_eq_true, if_false]
  rw [ha, hk]
  simp [hne]
theorem join_many {L : List (List UInt8)} (h : ∀ x ∈ L, x ≠ []) : L.length ≤ (Lib.join L [44]).length + 1 := by
  cases L with
  | nil => simp
  | cons x r =>
    rw [Lib.join_cons, List.length_append, tail_length, List.length_cons]
    simp only [List.length_cons, List.length_nil]
    omega
/-- The text of a valid expression begins so. -/
theorem text_head {e : Ex} (h : exAll e = true) : ∃ x t, exText e = x :: t ∧ x ≠ 41 := by
  cases e with
  | mk k s l =>
    rw [exAll, Bool.and_eq_true] at h
    rw [exText]
    have hform := h.2
    unfold exFormOf at hform
    have go : ∀ lo hi, ((65 ≤ lo ∧ hi ≤ 90) ∨ (97 ≤ lo ∧ hi ≤ 122)) → nameL lo hi s.data.toList = true → ∃ x t, s.data.toList = x :: t ∧ x ≠ 41 := fun lo hi hl hn => by
      obtain ⟨-, c, r, e1, h1, h2⟩ := name_word hl hn
      exact ⟨c, r, e1, fun e2 => by subst e2; have : (41 : UInt8).toNat = 41 := rfl; omega⟩
    have out : ∀ {y : List UInt8}, (∃ x t, s.data.toList = x :: t ∧ x ≠ 41) → ∃ x t, s.data.toList ++ y = x :: t ∧ x ≠ 41 := fun {y} ⟨x, t, e1, e2⟩ => ⟨x, t ++ y, by rw [e1]; rfl, e2⟩
    split
    · exact ⟨33, [], rfl, by decide⟩
    · have hs : ∃ x t, s.data.toList = x :: t ∧ x ≠ 41 := by
        split at hform
        · exact go 97 122 (Or.inr ⟨Nat.le_refl _, Nat.le_refl _⟩) (by rw [Bool.and_eq_true] at hform; exact hform.1)
        · split at hform
          · exact go 65 90 (Or.inl ⟨Nat.le_refl _, Nat.le_refl _⟩) (by rw [Bool.and_eq_true] at hform; exact hform.1)
          · split at hform
            · exact go 97 122 (Or.inr ⟨Nat.le_refl _, Nat.le_refl _⟩) (by rw [Bool.and_eq_true] at hform; exact hform.1)
            · cases hform
      split
      · exact hs
      · rw [List.append_assoc, List.append_assoc]; exact out hs
theorem size_nil {s : ByteArray} (h : s.size = 0) : s = ⟨#[]⟩ := by
  apply ByteArray.ext
  exact Array.eq_empty_of_size_eq_zero h
theorem str_eta (s : ByteArray) : (⟨s.data.toList.toArray⟩ : ByteArray) = s := by
  apply ByteArray.ext
  simp

theorem text_read (n : Nat) : (∀ (e : Ex), exSize e ≤ n → exAll e = true → ∀ f, exDepth e ≤ f → ∀ r, Stop r → pNode f (exText e ++ r) = some (e, r)) ∧
    (∀ (e : Ex) (l : List Ex), exSizes (e :: l) ≤ n → exAllL (e :: l) = true → ∀ f, exDeep (e :: l) ≤ f → ∀ r m, (e :: l).length ≤ m → pList (pNode f) m (Lib.join (exTexts (e :: l)) [44] ++ 41 :: r) = some (e :: l, r)) := by
  induction n with
  | zero =>
    refine ⟨fun e h => by have := exSize_pos e; omega, fun e l h => by rw [exSizes] at h; have := exSize_pos e; omega⟩
  | succ n ih =>
    have hE : ∀ (e : Ex), exSize e ≤ n + 1 → exAll e = true → ∀ f, exDepth e ≤ f → ∀ r, Stop r → pNode f (exText e ++ r) = some (e, r) := by
      intro e h ha f hf r hr
      cases e with
      | mk k s l =>
        rw [exSize] at h
        rw [exDepth] at hf
        obtain ⟨f, rfl⟩ : ∃ g, f = g + 1 := ⟨f - 1, by omega⟩
        rw [exAll, Bool.and_eq_true] at ha
        have hform := ha.2
        unfold exFormOf at hform
        have hargs : pArgs (pNode f) (Lib.join (exTexts l) [44] ++ 41 :: r) = some (l, r) := by
          cases l with
          | nil => simp [pArgs, exTexts, Lib.join_nil, hd]
          | cons e l =>
            have h1 := ih.2 e l (by omega) ha.1 f (by omega) r ((Lib.join (exTexts (e :: l)) [44] ++ 41 :: r).length + 1) (by
              have h3 := join_many (L := exTexts (e :: l)) (fun x hx => by
                rw [texts_map, List.mem_map] at hx
                obtain ⟨y, hy, rfl⟩ := hx
                have hya : exAll y = true := by
                  cases hq : exAll y
                  · rw [all_false hy hq] at ha; exact absurd ha.1 (by simp)
                  · rfl
                obtain ⟨x, t, e1, -⟩ := text_head hya
                rw [e1]; simp)
              rw [texts_map, List.length_map] at h3
              rw [List.length_append]
              rw [texts_map]
              omega)
            unfold pArgs
            have h2 : hd (Lib.join (exTexts (e :: l)) [44] ++ 41 :: r) 41 = false := by
              rw [exAllL, Bool.and_eq_true] at ha
              obtain ⟨x, t, e1, e2⟩ := text_head ha.1.1
              rw [exTexts, Lib.join_cons, e1]
              simp [hd, e2]
            rw [h2]
            exact h1
        have nm : ∀ lo hi, ((65 ≤ lo ∧ hi ≤ 90) ∨ (97 ≤ lo ∧ hi ≤ 122)) → nameL lo hi s.data.toList = true → (∀ c ∈ s.data.toList, wordOk c = true) ∧ ∃ x t, s.data.toList = x :: t ∧ x ≠ 33 := fun lo hi hl hn => by
          obtain ⟨h0, c, r, e1, h1, h2⟩ := name_word hl hn
          exact ⟨h0, c, r, e1, fun e2 => by subst e2; have : (33 : UInt8).toNat = 33 := rfl; omega⟩
        have plain : (∀ c ∈ s.data.toList, wordOk c = true) ∧ (∃ x t, s.data.toList = x :: t ∧ x ≠ 33) → kindW false s.data.toList = k → l = [] → pNode (f + 1) (s.data.toList ++ r) = some (.mk k s l, r) := fun h1 h2 h3 => by
          rw [node_word h1.1 h1.2 hr h2, str_eta, h3]
        have call : (∀ c ∈ s.data.toList, wordOk c = true) ∧ (∃ x t, s.data.toList = x :: t ∧ x ≠ 33) → kindW true s.data.toList = k → pNode (f + 1) (s.data.toList ++ [40] ++ Lib.join (exTexts l) [44] ++ [41] ++ r) = some (.mk k s l, r) := fun h1 h2 => by
          have h3 := node_call (f := f) h1.1 h1.2 h2 hargs
          rw [str_eta] at h3
          rw [← h3]
          simp
        rw [exText]
        split at hform
        · rename_i hk
          subst hk
          rw [Bool.and_eq_true] at hform
          have hl : l = [] := List.eq_nil_of_length_eq_zero (of_decide_eq_true hform.2)
          rw [if_neg (by decide), if_pos (Or.inl rfl)]
          exact plain (nm 97 122 (Or.inr ⟨Nat.le_refl _, Nat.le_refl _⟩) hform.1) (kind_word (Or.inr ⟨hform.1, rfl⟩)) hl
        · rename_i hk1
          split at hform
          · rename_i hk
            subst hk
            rw [Bool.and_eq_true] at hform
            rw [if_neg (by decide)]
            by_cases hl : l.length = 0
            · rw [if_pos (Or.inr ⟨rfl, hl⟩)]
              exact plain (nm 65 90 (Or.inl ⟨Nat.le_refl _, Nat.le_refl _⟩) hform.1) (kind_word (Or.inl ⟨rfl, hform.1⟩)) (List.eq_nil_of_length_eq_zero hl)
            · rw [if_neg (by simp [hl])]
              exact call (nm 65 90 (Or.inl ⟨Nat.le_refl _, Nat.le_refl _⟩) hform.1) (kind_word (Or.inl ⟨rfl, hform.1⟩))
          · rename_i hk2
            split at hform
            · rename_i hk
              subst hk
              rw [Bool.and_eq_true] at hform
              rw [if_neg (by decide), if_neg (by simp)]
              exact call (nm 97 122 (Or.inr ⟨Nat.le_refl _, Nat.le_refl _⟩) hform.1) (kind_word (Or.inr ⟨hform.1, rfl⟩))
            · split at hform
              · rename_i hk
                subst hk
                rw [Bool.and_eq_true] at hform
                have hs : s = ⟨#[]⟩ := size_nil (of_decide_eq_true hform.1)
                have hl : l = [] := List.eq_nil_of_length_eq_zero (of_decide_eq_true hform.2)
                subst hs hl
                rw [if_pos rfl, pNode]
                simp [hd]
              · cases hform
    refine ⟨hE, ?_⟩
    intro e l
    induction l generalizing e with
    | nil =>
      intro h ha f hf r m hm
      obtain ⟨m, rfl⟩ : ∃ q, m = q + 1 := ⟨m - 1, by simp at hm; omega⟩
      rw [exSizes] at h
      rw [exAllL, Bool.and_eq_true] at ha
      rw [exDeep] at hf
      have h1 := hE e (by omega) ha.1 f (by omega) (41 :: r) (Or.inr ⟨41, r, rfl, Or.inl rfl⟩)
      rw [exTexts, exTexts, Lib.join_one, pList, h1]
      simp [hd]
    | cons x l ihl =>
      intro h ha f hf r m hm
      obtain ⟨m, rfl⟩ : ∃ q, m = q + 1 := ⟨m - 1, by simp at hm; omega⟩
      have h' : exSizes (e :: x :: l) = exSize e + exSizes (x :: l) := by rw [exSizes]
      rw [exAllL, Bool.and_eq_true] at ha
      rw [exDeep] at hf
      have hep := exSize_pos e
      have h1 := hE e (by omega) ha.1 f (by omega) (44 :: (Lib.join (exTexts (x :: l)) [44] ++ 41 :: r)) (Or.inr ⟨44, _, rfl, Or.inr rfl⟩)
      have h2 := ihl x (by omega) ha.2 f (by omega) r m (by simp at hm ⊢; omega)
      have h3 : Lib.join (exTexts (e :: x :: l)) [44] ++ 41 :: r = exText e ++ 44 :: (Lib.join (exTexts (x :: l)) [44] ++ 41 :: r) := by
        rw [exTexts, exTexts, Lib.join_cons, Lib.join_cons]
        simp [Lib.joinTail]
      rw [h3, pList, h1]
      simp only [hd, List.head?_cons, beq_self_eq_true, if_true, List.drop_succ_cons, List.drop_zero]
      rw [h2]
      rfl
theorem parse_text {e : Ex} (h : exValid e = true) : exParse (exFmt e) = some e := by
  have hf : exFmt e = exStr e := by unfold exFmt; rw [h]; rfl
  have hv := h
  unfold exValid at h
  rw [Bool.and_eq_true, Bool.and_eq_true] at h
  have h1 := (text_read (exSize e)).1 e (Nat.le_refl _) h.2.2 24 (of_decide_eq_true h.2.1) [] (Or.inl rfl)
  have h2 : rest (exStr e) 0 = exText e ++ [] := by unfold rest exStr; simp
  unfold exParse
  rw [hf, h2, h1]
  simp [hf]
theorem parse_none {e : Ex} (h : exValid e = false) : exParse (exFmt e) = none := by
  have hf : exFmt e = ⟨#[]⟩ := by unfold exFmt; rw [h]; rfl
  rw [hf]
  rfl
end Go.Proofs.Ytmndlhbgacgnlaa
