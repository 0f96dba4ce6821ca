/- A part of the proof of the seat's statement: SpecDistinct. Condition: as each says. -/
import Derived.Test.YthljhiklpopmgaaGreatDoorSpecNode
import Derived.Test.YthljhiklpopmgaaGreatDoorSpecNames
import Derived.Deep.QuietTactic
import Derived.BigQuiet
set_option maxHeartbeats 8000000
namespace Go.Proofs.YthljhiklpopmgaaGreatDoor
open Go Go.RowKit
theorem node_all (R : Nat) (s : ByteArray) (hs : s.size ≤ 1048576) : ∀ (f d : Nat), f + d = 25 → 1 ≤ d → ∀ (a : Nat) (w : World), Rd w R s a false → a ≤ s.size →
 Calls Tryz.prog 36 #[.pointer (some ⟨R, 0, none⟩), .int .i64 (d : Int)] w (NodePost f R s a w) := by
 intro f
 induction f with
 | zero =>
  intro d hd h1 a w h ha
  obtain rfl : d = 25 := by omega
  exact node_deep R s a w h ha
 | succ f ih =>
  intro d hd h1 a w h ha
  exact node_step f R s d hs h1 (by omega) (fun a w h ha => args_any4 f R s (d + 1) hs (by omega) (fun a w h ha => ih (d + 1) (by omega) (by omega) a w h ha) a w h ha) a w h ha
def exParse (s : ByteArray) : Option Ex := match pNode 24 (rest s 0) with
 | none => none
 | some (e, r) => if r = [] ∧ exFmt e = s then some e else none
def zeroEx : Ex := .mk 0 ⟨#[]⟩ []
def ParsePost (s : ByteArray) (w : World) (r : Ending) (w2 : World) : Prop :=
 ∃ v bs, r = .returned (.tuple #[v, .bool (exParse s).isSome]) ∧ ExIs w2 v ((exParse s).getD zeroEx) bs ∧ Mine w2 w.heap.size bs ∧ Below w.heap.size w w2
theorem parse_not {s : ByteArray} {e : Ex} {a : Nat} {b : Bool} (hg : Got (pNode 24 (rest s 0)) e s a b) (ha : a ≤ s.size) (h : b = true ∨ a ≠ s.size ∨ exFmt e ≠ s) : exParse s = none := by
 unfold Got at hg
 unfold exParse
 rw [hg]
 cases b
 · have hr : rest s a = [] → a = s.size := fun hh => by have := rest_len s a; rw [hh] at this; simp at this; omega
   simp only [Bool.false_eq_true, if_false, false_or] at h ⊢
   rw [if_neg]
   rintro ⟨h1, h2⟩
   rcases h with h | h
   · exact h (hr h1)
   exact h h2
 rfl
theorem parse_yes {s : ByteArray} {e : Ex} {a : Nat} (hg : Got (pNode 24 (rest s 0)) e s a false) (ha : a = s.size) (h : exFmt e = s) : exParse s = some e := by
 unfold Got at hg
 unfold exParse
 rw [hg]
 have hr : rest s a = [] := List.eq_nil_of_length_eq_zero (by rw [rest_len]; omega)
 simp [hr, h]
theorem zero_end {s : ByteArray} {w V W : World} (hn : exParse s = none) (hl : Below w.heap.size w V) (hb : Bx V w.heap.size 0 ⟨#[]⟩ (.slice none 0 0))
 (hW : W = ((V.setCell ⟨w.heap.size, 0, none⟩ (.int .i64 0)).setCell ⟨w.heap.size, 1, none⟩ (.string ⟨#[]⟩)).setCell ⟨w.heap.size, 2, none⟩ (.slice none 0 0)) :
 ∃ W2, W2 = W ∧ ParsePost s w (.returned (.tuple #[.agg #[.int .i64 0, .string ⟨#[]⟩, .slice none 0 0], .bool false])) W2 ∧ Bx W2 w.heap.size 0 ⟨#[]⟩ (.slice none 0 0) := by
 refine ⟨W, rfl, ⟨_, [], by rw [hn]; rfl, ?_, Mine.nil _ _, ?_⟩, ?_⟩
 · rw [hn]; exact leaf_isN _ (by decide)
 · rw [hW]
   exact ((hl.setCell (Nat.le_refl _) _).setCell (Nat.le_refl _) _).setCell (Nat.le_refl _) _
 rw [hW]
 exact ((hb.set0 0).set1 _).set2 _
theorem zero_end2 {s : ByteArray} {w V W : World} {o : Obj} (hn : exParse s = none) (hl : Below w.heap.size w V) (hb : Bx V w.heap.size 0 ⟨#[]⟩ (.slice none 0 0))
 (hW : W = (((V.setCell ⟨w.heap.size, 0, none⟩ (.int .i64 0)).setCell ⟨w.heap.size, 1, none⟩ (.string ⟨#[]⟩)).setCell ⟨w.heap.size, 2, none⟩ (.slice none 0 0)).alloc o) :
 ∃ W2, W2 = W ∧ ParsePost s w (.returned (.tuple #[.agg #[.int .i64 0, .string ⟨#[]⟩, .slice none 0 0], .bool false])) W2 ∧ Bx W2 w.heap.size 0 ⟨#[]⟩ (.slice none 0 0) := by
 obtain ⟨W3, h3, ⟨v, bs, e1, -, -, hl3⟩, hb3⟩ := zero_end hn hl hb rfl
 have hb4 : Bx W w.heap.size 0 ⟨#[]⟩ (.slice none 0 0) := by rw [hW, ← h3]; exact hb3.keep (Fr.alloc (S := []) _ _) (by simp)
 refine ⟨W, rfl, ⟨_, [], by rw [hn]; rfl, ?_, Mine.nil _ _, ?_⟩, hb4⟩
 · rw [hn]; exact leaf_isN _ (by decide)
 rw [hW, ← h3]
 exact hl3.alloc hl3.size _
theorem good_end {s S : ByteArray} {w w2 V W : World} {e : Ex} {b1 : List Nat} {K : Int} {u : Value} {C : Nat} (hn : exParse s = some e) (hl : Below w.heap.size w V) (hb : Bx V w.heap.size 0 ⟨#[]⟩ (.slice none 0 0)) (hV : Below w2.heap.size w2 V) (hC : w.heap.size < C)
 (hi : ExIs w2 (.agg #[.int .i64 K, .string S, u]) e b1 ∧ Mine w2 C b1)
 (hW : W = ((V.setCell ⟨w.heap.size, 0, none⟩ (.int .i64 K)).setCell ⟨w.heap.size, 1, none⟩ (.string S)).setCell ⟨w.heap.size, 2, none⟩ u) :
 ∃ W2, W2 = W ∧ ParsePost s w (.returned (.tuple #[.agg #[.int .i64 K, .string S, u], .bool true])) W2 ∧ Bx W2 w.heap.size K S u := by
 have hf : Fr [w.heap.size] w2 W := by
  rw [hW]
  exact (((Fr.of_below hV).trans (Fr.set (S := [w.heap.size]) V ⟨w.heap.size, 0, none⟩ _ (by simp)) (fun x hx => Or.inl hx)).trans (Fr.set (S := [w.heap.size]) _ ⟨w.heap.size, 1, none⟩ _ (by simp)) (fun x hx => Or.inl hx)).trans (Fr.set (S := [w.heap.size]) _ ⟨w.heap.size, 2, none⟩ _ (by simp)) (fun x hx => Or.inl hx)
 have hk : Keeps w2 W b1 := ⟨hf.size, fun x hx hlt => hf.block x hlt (by have := (hi.2.range x hx).1; simp; omega)⟩
 refine ⟨W, rfl, ⟨_, b1, by rw [hn]; rfl, ?_, (hi.2.keeps hk).mono (by omega), ?_⟩, ?_⟩
 · rw [hn]; exact hi.1.keeps hk
 · rw [hW]
   exact ((hl.setCell (Nat.le_refl _) _).setCell (Nat.le_refl _) _).setCell (Nat.le_refl _) _
 rw [hW]
 exact ((hb.set0 K).set1 _).set2 _
theorem parse_any (s : ByteArray) (w : World) (hs : s.size ≤ 1048576) :
 Calls Tryz.prog 17 #[.string s] w (ParsePost s w) := by
 obtain ⟨W1, hW1⟩ : ∃ W1, W1 = (w.alloc (.cells #[.int .i64 0, .string ⟨#[]⟩, .slice none 0 0] 34)).alloc (.cells #[.string s, .int .i64 0, .bool false] 79) := ⟨_, rfl⟩
 have hR1 : Rd W1 (w.heap.size + 1) s 0 false := by
  rw [hW1]
  have := heap_alloc_new (w.alloc (.cells #[.int .i64 0, .string ⟨#[]⟩, .slice none 0 0] 34)) (.cells #[.string s, .int .i64 0, .bool false] 79)
  simpa [Rd] using this
 have hB1 : Bx W1 w.heap.size 0 ⟨#[]⟩ (.slice none 0 0) := by
  rw [hW1]
  exact Bx.keep (W := w.alloc (.cells #[.int .i64 0, .string ⟨#[]⟩, .slice none 0 0] 34)) (heap_alloc_new w _) (Fr.alloc (S := []) _ _) (by simp)
 have hL1 : Below w.heap.size w W1 := by
  rw [hW1]
  exact ((Below.refl w.heap.size w).alloc (Nat.le_refl _) _).alloc (by simp) _
 have HCALL := zH (show Calls Tryz.prog 36 #[.pointer (some ⟨w.heap.size + 1, 0, none⟩), .int .i64 1] W1 (NodePost 24 (w.heap.size + 1) s 0 W1) from node_all (w.heap.size + 1) s hs 24 1 rfl (Nat.le_refl _) 0 W1 hR1 (Nat.zero_le _))
 have HB1 := zH hB1
 have HL1 := zH hL1
 have HW1 := zH hW1
 have hsz1 : W1.heap.size = w.heap.size + 2 := by rw [hW1]; simp
 clear hR1 hB1 hL1 hW1
 go_enter Tryz.func17, Tryz.ntmps17
 go_wp2_with fail
 go_at_call 36
 rw [← HW1.out]
 refine HCALL.out.mono ?_
 rintro r w2 ⟨v2, e, b1, a2, b2, rfl, his, hm2, hf2, hr2, -, hhi, htot, hgot⟩
 obtain ⟨u2, rfl, hns, hu2⟩ := id his
 obtain ⟨A2, c2, rfl, -⟩ := id hu2
 have HL2 := zH (show Below w.heap.size w w2 from HL1.out.trans (hf2.below (by simp) (by omega)))
 have hb2 := HB1.out.keep hf2 (by simp)
 obtain ⟨e0, e1, e2, hBw⟩ := hb2.cells
 have g0 := hb2.thaw 0
 have g1 := hb2.thaw 1
 have g2 := hb2.thaw 2
 obtain ⟨-, d1, d2, hRl⟩ := hr2.cells
 have HB2 := zH hb2
 have HI2 := zH (And.intro his hm2)
 have HG := zH hgot
 have hhi2 : (a2 : Int) ≤ (s.size : Int) := by omega
 have HTT := zH (show exTot e ≤ 1048576 by omega)
 have hss : w.heap.size < w2.heap.size := hBw
 clear hb2 his hm2 hf2 hr2 hgot hu2 HCALL HB1 HL1 htot
 obtain ⟨q, hq⟩ : ∃ q, q = e.args.length := ⟨_, rfl⟩
 obtain ⟨K, hK⟩ : ∃ K, K = e.kind := ⟨_, rfl⟩
 obtain ⟨S, hS⟩ : ∃ S, S = e.name := ⟨_, rfl⟩
 rw [← hq, ← hK, ← hS] at HI2 ⊢
 have HQ := zH (And.intro hq (And.intro hK hS))
 clear hq hK hS
 have HL3 := zH (HL2.out.alloc (by omega) (.cells #[.int .i64 K, .string S, .slice A2 q c2] 34))
 have HB3 := zH (HB2.out.keep (Fr.alloc (S := []) w2 (.cells #[.int .i64 K, .string S, .slice A2 q c2] 34)) (by simp))
 have HE3 := zH (show Bx (w2.alloc (.cells #[.int .i64 K, .string S, .slice A2 q c2] 34)) w2.heap.size K S (.slice A2 q c2) from heap_alloc_new _ _)
 cases b2
 · by_cases ha : a2 = s.size
   · have HA := zH ha
     have hne1 : ((a2 : Int) != (s.size : Int)) = false := by simp [ha]
     have HFM := zH (fun (W : World) (v : Value) (bs : List Nat) (h : ExIs W v e bs) => format_any e v bs W h HTT.out)
     clear ha
     generalize hfm : exFmt e = t at HFM
     by_cases ht : t = s
     · have hte := beq_yes ht
       have HYES := zH (parse_yes HG.out HA.out (hfm.trans ht))
       clear ht hfm
       go_wp2_with (go_at_call 37; refine (HFM.out _ _ b1 (HI2.out.1.below ((Below.refl _ _).alloc (Nat.le_refl _) _))).mono ?_; rintro r w4 ⟨rfl, hb4⟩; have hb5 := HB3.out.keep (Fr.of_below (S := []) hb4) (by simp); have HL4 := zH (HL3.out.trans (hb4.mono HL3.out.size)); have HV4 := zH (((Below.refl w2.heap.size w2).alloc (Nat.le_refl _) _).trans (hb4.mono (by simp))); obtain ⟨e0, e1, e2, hBw4⟩ := hb5.cells; have g0 := hb5.thaw 0; have g1 := hb5.thaw 1; have g2 := hb5.thaw 2; have HB5 := zH hb5; have he5 := HE3.out.keep (Fr.of_below (S := []) hb4) (by simp); obtain ⟨k0, k1, k2, hBx4⟩ := he5.cells; clear hb4 hb5 he5)
       obtain ⟨W2, hW2, hpost, hbx⟩ := good_end (C := W1.heap.size) HYES.out HL4.out HB5.out HV4.out (by omega) HI2.out rfl
       rw [← hW2]
       obtain ⟨y0, y1, y2, -⟩ := hbx.cells
       refine bodyPost_ret (v := .tuple #[.agg #[.int .i64 K, .string S, .slice A2 q c2], .bool true]) (by simp [results, Tryz.results17, go_sem, y0, y1, y2]) rfl ?_
       exact hpost
     have hte := beq_no ht
     have HNO := zH (parse_not HG.out hhi (Or.inr (Or.inr (by rw [hfm]; exact ht))))
     clear ht hfm
     go_wp2_with (go_at_call 37; refine (HFM.out _ _ b1 (HI2.out.1.below ((Below.refl _ _).alloc (Nat.le_refl _) _))).mono ?_; rintro r w4 ⟨rfl, hb4⟩; have hb5 := HB3.out.keep (Fr.of_below (S := []) hb4) (by simp); have HL4 := zH (HL3.out.trans (hb4.mono HL3.out.size)); have HV4 := zH (((Below.refl w2.heap.size w2).alloc (Nat.le_refl _) _).trans (hb4.mono (by simp))); obtain ⟨e0, e1, e2, hBw4⟩ := hb5.cells; have g0 := hb5.thaw 0; have g1 := hb5.thaw 1; have g2 := hb5.thaw 2; have HB5 := zH hb5; have he5 := HE3.out.keep (Fr.of_below (S := []) hb4) (by simp); obtain ⟨k0, k1, k2, hBx4⟩ := he5.cells; clear hb4 hb5 he5)
     obtain ⟨W2, hW2, hpost, hbx⟩ := zero_end HNO.out HL4.out HB5.out rfl
     rw [← hW2]
     obtain ⟨y0, y1, y2, -⟩ := hbx.cells
     refine bodyPost_ret (v := .tuple #[.agg #[.int .i64 0, .string ⟨#[]⟩, .slice none 0 0], .bool false]) (by simp [results, Tryz.results17, go_sem, y0, y1, y2]) rfl ?_
     exact hpost
   have hne1 : ((a2 : Int) != (s.size : Int)) = true := by simp; omega
   have HNO := zH (parse_not HG.out hhi (Or.inr (Or.inl ha)))
   clear ha
   go_wp2_with fail
   obtain ⟨W2, hW2, hpost, hbx⟩ := zero_end2 (o := .cells #[.int .i64 K, .string S, .slice A2 q c2] 34) HNO.out HL2.out HB2.out rfl
   rw [← hW2]
   obtain ⟨y0, y1, y2, -⟩ := hbx.cells
   refine bodyPost_ret (v := .tuple #[.agg #[.int .i64 0, .string ⟨#[]⟩, .slice none 0 0], .bool false]) (by simp [results, Tryz.results17, go_sem, y0, y1, y2]) rfl ?_
   exact hpost
 have HNO := zH (parse_not HG.out hhi (Or.inl rfl))
 go_wp2_with fail
 obtain ⟨W2, hW2, hpost, hbx⟩ := zero_end2 (o := .cells #[.int .i64 K, .string S, .slice A2 q c2] 34) HNO.out HL2.out HB2.out rfl
 rw [← hW2]
 obtain ⟨y0, y1, y2, -⟩ := hbx.cells
 refine bodyPost_ret (v := .tuple #[.agg #[.int .i64 0, .string ⟨#[]⟩, .slice none 0 0], .bool false]) (by simp [results, Tryz.results17, go_sem, y0, y1, y2]) rfl ?_
 exact hpost
def Stop (r : List UInt8) : Prop := r = [] ∨ ∃ c t, r = c :: t ∧ (c = 41 ∨ c = 44)
theorem Stop.no {r : List UInt8} (h : Stop r) : wordL r = [] ∧ hd r 40 = false := by
 rcases h with rfl | ⟨c, t, rfl, rfl | rfl⟩
 · exact ⟨rfl, rfl⟩
 · exact ⟨word_no (by decide), by simp [hd]⟩
 exact ⟨word_no (by decide), by simp [hd]⟩
theorem word_app {w r : List UInt8} (hw : ∀ c ∈ w, wordOk c = true) (hr : wordL r = []) : wordL (w ++ r) = w := by
 induction w with
 | nil => exact hr
 | cons c w ih =>
  rw [List.cons_append, word_yes (hw c (by simp)), ih (fun x hx => hw x (by simp [hx]))]
theorem name_word {lo hi : Nat} {w : List UInt8} (hl : (65 ≤ lo ∧ hi ≤ 90) ∨ (97 ≤ lo ∧ hi ≤ 122)) (h : nameL lo hi w = true) : (∀ c ∈ w, wordOk c = true) ∧ ∃ c r, w = c :: r ∧ lo ≤ c.toNat ∧ c.toNat ≤ hi := by
 cases w with
 | nil => cases h
 | cons c r =>
  simp only [nameL, Bool.and_eq_true, decide_eq_true_eq] at h
  obtain ⟨⟨-, h1, h2⟩, h3⟩ := h
  refine ⟨fun x hx => ?_, c, r, rfl, h1, h2⟩
  rcases List.mem_cons.1 hx with rfl | hx
  · unfold wordOk tailOk
    rcases hl with hl | hl
    · have a1 : 65 ≤ x.toNat := by omega
      have a2 : x.toNat ≤ 90 := by omega
      simp [a1, a2]
    have a1 : 97 ≤ x.toNat := by omega
    have a2 : x.toNat ≤ 122 := by omega
    simp [a1, a2]
  have := List.all_eq_true.1 h3 x hx
  unfold wordOk
  rw [this, Bool.or_true]
theorem kind_word {k : Int} {w : List UInt8} {p : Bool} (h : (k = 2 ∧ nameL 65 90 w = true) ∨ (nameL 97 122 w = true ∧ k = if p then 3 else 1)) : kindW p w = k := by
 unfold kindW
 rcases h with ⟨rfl, h⟩ | ⟨h, rfl⟩
 · have : nameL 97 122 w = false := by
    obtain ⟨-, c, r, rfl, h1, h2⟩ := name_word (Or.inl ⟨Nat.le_refl _, Nat.le_refl _⟩) h
    simp only [nameL, Bool.and_eq_false_iff, decide_eq_false_iff_not]
    omega
   rw [this]; rfl
 rw [h]; rfl
theorem head_no {w t : List UInt8} {c : UInt8} (h : ∃ x r, w = x :: r ∧ x ≠ c) : hd (w ++ t) c = false := by
 obtain ⟨x, r, rfl, hx⟩ := h
 simp [hd, hx]
theorem node_word {f : Nat} {w r : List UInt8} {k : Int} (hw : ∀ c ∈ w, wordOk c = true) (hn : ∃ x t, w = x :: t ∧ x ≠ 33) (hr : Stop r) (hk : kindW false w = k) : pNode (f + 1) (w ++ r) = some (.mk k ⟨w.toArray⟩ [], r) := by
 have h1 := word_app hw hr.no.1
 have hne : w ≠ [] := by obtain ⟨x, t, rfl, -⟩ := hn; simp
 rw [pNode, head_no hn, h1, List.drop_left, hr.no.2, hk]
 simp [hne]
theorem node_call {f : Nat} {w t r : List UInt8} {k : Int} {l : List Ex} (hw : ∀ c ∈ w, wordOk c = true) (hn : ∃ x t, w = x :: t ∧ x ≠ 33) (hk : kindW true w = k) (ha : pArgs (pNode f) t = some (l, r)) : pNode (f + 1) (w ++ 40 :: t) = some (.mk k ⟨w.toArray⟩ l, r) := by
 have h1 : wordL (w ++ 40 :: t) = w := word_app hw (word_no (by decide))
 have hne : w ≠ [] := by obtain ⟨x, t, rfl, -⟩ := hn; simp
 rw [pNode, head_no hn, h1, List.drop_left]
 simp only [hd, List.head?_cons, beq_self_eq_true, if_true, List.drop_succ_cons, List.drop_zero, Bool.false_eq_true, if_false]
 rw [ha, hk]
 simp [hne]
theorem join_many {L : List (List UInt8)} (h : ∀ x ∈ L, x ≠ []) : L.length ≤ (Lib.join L [44]).length + 1 := by
 cases L with
 | nil => simp
 | cons x r =>
  rw [Lib.join_cons, List.length_append, tail_length, List.length_cons]
  simp only [List.length_cons, List.length_nil]
  omega
theorem text_head {e : Ex} (h : exAll e = true) : ∃ x t, exText e = x :: t ∧ x ≠ 41 := by
 cases e with
 | mk k s l =>
  rw [exAll, Bool.and_eq_true] at h
  rw [exText]
  have hform := h.2
  unfold exFormOf at hform
  have go : ∀ lo hi, ((65 ≤ lo ∧ hi ≤ 90) ∨ (97 ≤ lo ∧ hi ≤ 122)) → nameL lo hi s.data.toList = true → ∃ x t, s.data.toList = x :: t ∧ x ≠ 41 := fun lo hi hl hn => by
   obtain ⟨-, c, r, e1, h1, h2⟩ := name_word hl hn
   exact ⟨c, r, e1, fun e2 => by subst e2; have : (41 : UInt8).toNat = 41 := rfl; omega⟩
  have out : ∀ {y : List UInt8}, (∃ x t, s.data.toList = x :: t ∧ x ≠ 41) → ∃ x t, s.data.toList ++ y = x :: t ∧ x ≠ 41 := fun {y} ⟨x, t, e1, e2⟩ => ⟨x, t ++ y, by rw [e1]; rfl, e2⟩
  split
  · exact ⟨33, [], rfl, by decide⟩
  have hs : ∃ x t, s.data.toList = x :: t ∧ x ≠ 41 := by
   split at hform
   · exact go 97 122 (Or.inr ⟨Nat.le_refl _, Nat.le_refl _⟩) (by rw [Bool.and_eq_true] at hform; exact hform.1)
   split at hform
   · exact go 65 90 (Or.inl ⟨Nat.le_refl _, Nat.le_refl _⟩) (by rw [Bool.and_eq_true] at hform; exact hform.1)
   split at hform
   · exact go 97 122 (Or.inr ⟨Nat.le_refl _, Nat.le_refl _⟩) (by rw [Bool.and_eq_true] at hform; exact hform.1)
   cases hform
  split
  · exact hs
  rw [List.append_assoc, List.append_assoc]; exact out hs
theorem size_nil {s : ByteArray} (h : s.size = 0) : s = ⟨#[]⟩ := by
 apply ByteArray.ext
 exact Array.eq_empty_of_size_eq_zero h
theorem str_eta (s : ByteArray) : (⟨s.data.toList.toArray⟩ : ByteArray) = s := by
 apply ByteArray.ext
 simp
theorem text_read (n : Nat) : (∀ (e : Ex), exSize e ≤ n → exAll e = true → ∀ f, exDepth e ≤ f → ∀ r, Stop r → pNode f (exText e ++ r) = some (e, r)) ∧
 (∀ (e : Ex) (l : List Ex), exSizes (e :: l) ≤ n → exAllL (e :: l) = true → ∀ f, exDeep (e :: l) ≤ f → ∀ r m, (e :: l).length ≤ m → pList (pNode f) m (Lib.join (exTexts (e :: l)) [44] ++ 41 :: r) = some (e :: l, r)) := by
 induction n with
 | zero =>
  refine ⟨fun e h => by have := exSize_pos e; omega, fun e l h => by rw [exSizes] at h; have := exSize_pos e; omega⟩
 | succ n ih =>
  have hE : ∀ (e : Ex), exSize e ≤ n + 1 → exAll e = true → ∀ f, exDepth e ≤ f → ∀ r, Stop r → pNode f (exText e ++ r) = some (e, r) := by
   intro e h ha f hf r hr
   cases e with
   | mk k s l =>
    rw [exSize] at h
    rw [exDepth] at hf
    obtain ⟨f, rfl⟩ : ∃ g, f = g + 1 := ⟨f - 1, by omega⟩
    rw [exAll, Bool.and_eq_true] at ha
    have hform := ha.2
    unfold exFormOf at hform
    have hargs : pArgs (pNode f) (Lib.join (exTexts l) [44] ++ 41 :: r) = some (l, r) := by
     cases l with
     | nil => simp [pArgs, exTexts, Lib.join_nil, hd]
     | cons e l =>
      have h1 := ih.2 e l (by omega) ha.1 f (by omega) r ((Lib.join (exTexts (e :: l)) [44] ++ 41 :: r).length + 1) (by
       have h3 := join_many (L := exTexts (e :: l)) (fun x hx => by
        rw [texts_map, List.mem_map] at hx
        obtain ⟨y, hy, rfl⟩ := hx
        have hya : exAll y = true := by
         cases hq : exAll y
         · rw [all_false hy hq] at ha; exact absurd ha.1 (by simp)
         rfl
        obtain ⟨x, t, e1, -⟩ := text_head hya
        rw [e1]; simp)
       rw [texts_map, List.length_map] at h3
       rw [List.length_append]
       rw [texts_map]
       omega)
      unfold pArgs
      have h2 : hd (Lib.join (exTexts (e :: l)) [44] ++ 41 :: r) 41 = false := by
       rw [exAllL, Bool.and_eq_true] at ha
       obtain ⟨x, t, e1, e2⟩ := text_head ha.1.1
       rw [exTexts, Lib.join_cons, e1]
       simp [hd, e2]
      rw [h2]
      exact h1
    have nm : ∀ lo hi, ((65 ≤ lo ∧ hi ≤ 90) ∨ (97 ≤ lo ∧ hi ≤ 122)) → nameL lo hi s.data.toList = true → (∀ c ∈ s.data.toList, wordOk c = true) ∧ ∃ x t, s.data.toList = x :: t ∧ x ≠ 33 := fun lo hi hl hn => by
     obtain ⟨h0, c, r, e1, h1, h2⟩ := name_word hl hn
     exact ⟨h0, c, r, e1, fun e2 => by subst e2; have : (33 : UInt8).toNat = 33 := rfl; omega⟩
    have plain : (∀ c ∈ s.data.toList, wordOk c = true) ∧ (∃ x t, s.data.toList = x :: t ∧ x ≠ 33) → kindW false s.data.toList = k → l = [] → pNode (f + 1) (s.data.toList ++ r) = some (.mk k s l, r) := fun h1 h2 h3 => by
     rw [node_word h1.1 h1.2 hr h2, str_eta, h3]
    have call : (∀ c ∈ s.data.toList, wordOk c = true) ∧ (∃ x t, s.data.toList = x :: t ∧ x ≠ 33) → kindW true s.data.toList = k → pNode (f + 1) (s.data.toList ++ [40] ++ Lib.join (exTexts l) [44] ++ [41] ++ r) = some (.mk k s l, r) := fun h1 h2 => by
     have h3 := node_call (f := f) h1.1 h1.2 h2 hargs
     rw [str_eta] at h3
     rw [← h3]
     simp
    rw [exText]
    split at hform
    · rename_i hk
      subst hk
      rw [Bool.and_eq_true] at hform
      have hl : l = [] := List.eq_nil_of_length_eq_zero (of_decide_eq_true hform.2)
      rw [if_neg (by decide), if_pos (Or.inl rfl)]
      exact plain (nm 97 122 (Or.inr ⟨Nat.le_refl _, Nat.le_refl _⟩) hform.1) (kind_word (Or.inr ⟨hform.1, rfl⟩)) hl
    rename_i hk1
    split at hform
    · rename_i hk
      subst hk
      rw [Bool.and_eq_true] at hform
      rw [if_neg (by decide)]
      by_cases hl : l.length = 0
      · rw [if_pos (Or.inr ⟨rfl, hl⟩)]
        exact plain (nm 65 90 (Or.inl ⟨Nat.le_refl _, Nat.le_refl _⟩) hform.1) (kind_word (Or.inl ⟨rfl, hform.1⟩)) (List.eq_nil_of_length_eq_zero hl)
      rw [if_neg (by simp [hl])]
      exact call (nm 65 90 (Or.inl ⟨Nat.le_refl _, Nat.le_refl _⟩) hform.1) (kind_word (Or.inl ⟨rfl, hform.1⟩))
    rename_i hk2
    split at hform
    · rename_i hk
      subst hk
      rw [Bool.and_eq_true] at hform
      rw [if_neg (by decide), if_neg (by simp)]
      exact call (nm 97 122 (Or.inr ⟨Nat.le_refl _, Nat.le_refl _⟩) hform.1) (kind_word (Or.inr ⟨hform.1, rfl⟩))
    split at hform
    · rename_i hk
      subst hk
      rw [Bool.and_eq_true] at hform
      have hs : s = ⟨#[]⟩ := size_nil (of_decide_eq_true hform.1)
      have hl : l = [] := List.eq_nil_of_length_eq_zero (of_decide_eq_true hform.2)
      subst hs hl
      rw [if_pos rfl, pNode]
      simp [hd]
    cases hform
  refine ⟨hE, ?_⟩
  intro e l
  induction l generalizing e with
  | nil =>
   intro h ha f hf r m hm
   obtain ⟨m, rfl⟩ : ∃ q, m = q + 1 := ⟨m - 1, by simp at hm; omega⟩
   rw [exSizes] at h
   rw [exAllL, Bool.and_eq_true] at ha
   rw [exDeep] at hf
   have h1 := hE e (by omega) ha.1 f (by omega) (41 :: r) (Or.inr ⟨41, r, rfl, Or.inl rfl⟩)
   rw [exTexts, exTexts, Lib.join_one, pList, h1]
   simp [hd]
  | cons x l ihl =>
   intro h ha f hf r m hm
   obtain ⟨m, rfl⟩ : ∃ q, m = q + 1 := ⟨m - 1, by simp at hm; omega⟩
   have h' : exSizes (e :: x :: l) = exSize e + exSizes (x :: l) := by rw [exSizes]
   rw [exAllL, Bool.and_eq_true] at ha
   rw [exDeep] at hf
   have hep := exSize_pos e
   have h1 := hE e (by omega) ha.1 f (by omega) (44 :: (Lib.join (exTexts (x :: l)) [44] ++ 41 :: r)) (Or.inr ⟨44, _, rfl, Or.inr rfl⟩)
   have h2 := ihl x (by omega) ha.2 f (by omega) r m (by simp at hm ⊢; omega)
   have h3 : Lib.join (exTexts (e :: x :: l)) [44] ++ 41 :: r = exText e ++ 44 :: (Lib.join (exTexts (x :: l)) [44] ++ 41 :: r) := by
    rw [exTexts, exTexts, Lib.join_cons, Lib.join_cons]
    simp [Lib.joinTail]
   rw [h3, pList, h1]
   simp only [hd, List.head?_cons, beq_self_eq_true, if_true, List.drop_succ_cons, List.drop_zero]
   rw [h2]
   rfl
theorem parse_text {e : Ex} (h : exValid e = true) : exParse (exFmt e) = some e := by
 have hf : exFmt e = exStr e := by unfold exFmt; rw [h]; rfl
 have hv := h
 unfold exValid at h
 rw [Bool.and_eq_true, Bool.and_eq_true] at h
 have h1 := (text_read (exSize e)).1 e (Nat.le_refl _) h.2.2 24 (of_decide_eq_true h.2.1) [] (Or.inl rfl)
 have h2 : rest (exStr e) 0 = exText e ++ [] := by unfold rest exStr; simp
 unfold exParse
 rw [hf, h2, h1]
 simp [hf]
theorem parse_none {e : Ex} (h : exValid e = false) : exParse (exFmt e) = none := by
 have hf : exFmt e = ⟨#[]⟩ := by unfold exFmt; rw [h]; rfl
 rw [hf]
 rfl
theorem parse_some {s : ByteArray} {e : Ex} (h : exParse s = some e) : exValid e = true ∧ exFmt e = s := by
 have h0 := h
 unfold exParse at h
 split at h
 · cases h
 split at h
 · rename_i hh
   obtain rfl := Option.some.inj h
   refine ⟨?_, hh.2⟩
   cases hv : exValid _ with
   | true => rfl
   | false =>
    have h1 := parse_none hv
    rw [hh.2, h0] at h1
    cases h1
 cases h
theorem valid_all {e : Ex} (h : exValid e = true) : exAll e = true ∧ exSize e ≤ 80 := by
 unfold exValid at h
 rw [Bool.and_eq_true, Bool.and_eq_true] at h
 exact ⟨h.2.2, of_decide_eq_true h.1⟩
theorem Strs.take {w : World} {A : Option Addr} {xs : List ByteArray} (h : Strs w A xs) (k : Nat) : Strs w A (xs.take k) := fun i x hx => by
 rw [List.getElem?_take] at hx
 split at hx
 · exact h i x hx
 cases hx
theorem Strs.drewN {w : World} {A : Option Addr} {xs : List ByteArray} (h : Strs w A xs) (q : Nat) : Strs (w.drewN q) A xs := h
theorem quiet_sameL {P : Program} {f : FuncId} {args : Array Value} {w : World} {n : Nat} {v : Value}
 (h : Calls P f args (w.drewN n) fun e w' => e = .returned v ∧ w.drewN n = w') : Calls P f args (w.drewN n) fun e w'' => e = .returned v ∧ ∃ m, w'' = w.drewN m :=
 h.mono fun _ _ ⟨he, hm⟩ => ⟨he, n, hm.symm⟩
def DistPost (xs : List ByteArray) (w : World) (e : Ending) (w' : World) : Prop := e = .returned (.bool (distinct xs)) ∧ ∃ q, w' = w.drewN q
theorem dist_end {xs : List ByteArray} {w wr : World} {q n : Nat} {b : Bool} (hb : b = distinct xs) (hw : wr = w.drewN q) : DistPost xs w (.returned (.bool b)) (wr.drewN n) :=
 ⟨by rw [hb], q + n, by rw [hw, World.drewN_drewN]⟩
theorem dist_any (A : Option Addr) (xs : List ByteArray) (cap : Nat) (w : World) (hs : Strs w A xs) (hn : xs.length ≤ 1099511627776) (hcap : xs.length ≤ cap) (_hc2 : cap ≤ 9223372036854775807) :
 Calls Tryz.prog 40 #[.slice A xs.length cap] w (DistPost xs w) := by
 obtain ⟨n, hnn⟩ : ∃ n, n = xs.length := ⟨_, rfl⟩
 have HN := zH hnn
 have HS := zH hs
 rw [← hnn]
 rw [← hnn] at hn hcap
 clear hs hnn
 go_enter Tryz.func40, Tryz.ntmps40
 go_wp2
 go_loopw [3] (fun i wr => ∃ (k q : Nat), k ≤ n ∧ i = .int .i64 (k : Int) ∧ Hid ((xs.take k).Nodup) ∧ Hid (wr = w.drewN q)) (fun i _ => n - (intOf i).toNat)
 case atStart => exact ⟨0, 0, Nat.zero_le _, rfl, zH (by simp), zH (by simp [World.drewN_zero])⟩
 case round =>
  obtain ⟨k, q, hk, rfl, HK, HW⟩ := hrel
  by_cases hlt : k < n
  · obtain ⟨a, x, rfl, hc0, -, hx, htake, -⟩ := HS.out.get k (by rw [← HN.out]; exact hlt)
    have hc : wr.cell? (a.add k) = some (.string x) := by rw [HW.out]; exact hc0
    have hk0 : 0 ≤ (k : Int) := by omega
    have hkn : (k : Int) < (n : Int) := by omega
    have hkc : (k : Int) ≤ (cap : Int) := by omega
    have HD := zH (nodup_take xs k x htake)
    have HL := zH (show (xs.take k).length = k by rw [List.length_take, ← HN.out]; omega)
    have hI := fun (m : Nat) => idx_any (some a) (xs.take k) cap x (wr.drewN m) (by rw [HW.out]; exact (HS.out.take k)) (by rw [HL.out]; omega)
    rw [HL.out] at hI
    have hge := idx_ge (xs.take k) x
    have HM := zH (idx_mem (xs.take k) x)
    clear hx htake hc0
    generalize idx (xs.take k) x = r at *
    have HI := zH hI
    clear hI
    by_cases hr : 0 ≤ r
    · have HF := zH (nodup_of_take xs (k + 1) (fun h => (HD.out.1 h).2 (HM.out.1 hr)))
      go_wp2
      go_quiet ((go_at_call 66; exact quiet_sameL (HI.out _)))
      go_wp2
      go_ret
      exact dist_end (by unfold distinct; exact (decide_eq_false HF.out).symm) HW.out
    have HG := zH (HD.out.2 ⟨HK.out, fun h => hr (HM.out.2 h)⟩)
    go_wp2
    go_quiet ((go_at_call 66; exact quiet_sameL (HI.out _)))
    go_wp2
    go_roundw
    case rel => exact ⟨k + 1, q + nq, by omega, by go_num, HG, zH (by rw [HW.out, World.drewN_drewN])⟩
    case measure => simp [intOf]; omega
  have HF := zH (show xs.Nodup by have h := HK.out; rw [List.take_of_length_le (by rw [← HN.out]; omega)] at h; exact h)
  go_wp2
  go_ret
  exact dist_end (n := 0) (by unfold distinct; exact (decide_eq_true HF.out).symm) HW.out
end Go.Proofs.YthljhiklpopmgaaGreatDoor
