/- The contract of the model's ParseExpr. Condition: a text of at most 1048576 bytes. -/
import Derived.Test.YtmndlhbgacgnlaaSpecNode
namespace Go.Proofs.Ytmndlhbgacgnlaa
open Go Go.RowKit

theorem node_all (R : Nat) (s : ByteArray) (hs : s.size ≤ 1048576) : ∀ (f d : Nat), f + d = 25 → 1 ≤ d → ∀ (a : Nat) (w : World), Rd w R s a false → a ≤ s.size →
    Calls Try.prog 74 #[.pointer (some ⟨R, 0, none⟩), .int .i64 (d : Int)] w (NodePost f R s a w) := by
  intro f
  induction f with
  | zero =>
    intro d hd h1 a w h ha
    obtain rfl : d = 25 := by omega
    exact node_deep R s a w h ha
  | succ f ih =>
    intro d hd h1 a w h ha
    exact node_step f R s d hs h1 (by omega) (fun a w h ha => args_any4 f R s (d + 1) hs (by omega) (fun a w h ha => ih (d + 1) (by omega) (by omega) a w h ha) a w h ha) a w h ha

/-- The expression that a text stands for. -/
def exParse (s : ByteArray) : Option Ex := match pNode 24 (rest s 0) with
  | none => none
  | some (e, r) => if r = [] ∧ exFmt e = s then some e else none
def zeroEx : Ex := .mk 0 ⟨#[]⟩ []
def ParsePost (s : ByteArray) (w : World) (r : Ending) (w2 : World) : Prop :=
  ∃ v bs, r = .returned (.tuple #[v, .bool (exParse s).isSome]) ∧ ExIs w2 v ((exParse s).getD zeroEx) bs ∧ Mine w2 w.heap.size bs ∧ Below w.heap.size w w2
theorem parse_not {s : ByteArray} {e : Ex} {a : Nat} {b : Bool} (hg : Got (pNode 24 (rest s 0)) e s a b) (ha : a ≤ s.size) (h : b = true ∨ a ≠ s.size ∨ exFmt e ≠ s) : exParse s = none := by
  unfold Got at hg
  unfold exParse
  rw [hg]
  cases b
  · have hr : rest s a = [] → a = s.size := fun hh => by have := rest_len s a; rw [hh] at this; simp at this; omega
    simp only [Bool.false_eq_true, if_false, false_or] at h ⊢
    rw [if_neg]
    rintro ⟨h1, h2⟩
    rcases h with h | h
    · exact h (hr h1)
    · exact h h2
  · rfl
theorem parse_yes {s : ByteArray} {e : Ex} {a : Nat} (hg : Got (pNode 24 (rest s 0)) e s a false) (ha : a = s.size) (h : exFmt e = s) : exParse s = some e := by
  unfold Got at hg
  unfold exParse
  rw [hg]
  have hr : rest s a = [] := List.eq_nil_of_length_eq_zero (by rw [rest_len]; omega)
  simp [hr, h]

/-- The ends. -/
theorem zero_end {s : ByteArray} {w V W : World} (hn : exParse s = none) (hl : Below w.heap.size w V) (hb : Bx V w.heap.size 0 ⟨#[]⟩ (.slice none 0 0))
    (hW : W = ((V.setCell ⟨w.heap.size, 0, none⟩ (.int .i64 0)).setCell ⟨w.heap.size, 1, none⟩ (.string ⟨#[]⟩)).setCell ⟨w.heap.size, 2, none⟩ (.slice none 0 0)) :
    ∃ W2, W2 = W ∧ ParsePost s w (.returned (.tuple #[.agg #[.int .i64 0, .string ⟨#[]⟩, .slice none 0 0], .bool false])) W2 ∧ Bx W2 w.heap.size 0 ⟨#[]⟩ (.slice none 0 0) := by
  refine ⟨W, rfl, ⟨_, [], by rw [hn]; rfl, ?_, Mine.nil _ _, ?_⟩, ?_⟩
  · rw [hn]; exact leaf_isN _ (by decide)
  · rw [hW]
    exact ((hl.setCell (Nat.le_refl _) _).setCell (Nat.le_refl _) _).setCell (Nat.le_refl _) _
  · rw [hW]
    exact ((hb.set0 0).set1 _).set2 _
theorem zero_end2 {s : ByteArray} {w V W : World} {o : Obj} (hn : exParse s = none) (hl : Below w.heap.size w V) (hb : Bx V w.heap.size 0 ⟨#[]⟩ (.slice none 0 0))
    (hW : W = (((V.setCell ⟨w.heap.size, 0, none⟩ (.int .i64 0)).setCell ⟨w.heap.size, 1, none⟩ (.string ⟨#[]⟩)).setCell ⟨w.heap.size, 2, none⟩ (.slice none 0 0)).alloc o) :
    ∃ W2, W2 = W ∧ ParsePost s w (.returned (.tuple #[.agg #[.int .i64 0, .string ⟨#[]⟩, .slice none 0 0], .bool false])) W2 ∧ Bx W2 w.heap.size 0 ⟨#[]⟩ (.slice none 0 0) := by
  obtain ⟨W3, h3, ⟨v, bs, e1, -, -, hl3⟩, hb3⟩ := zero_end hn hl hb rfl
  have hb4 : Bx W w.heap.size 0 ⟨#[]⟩ (.slice none 0 0) := by rw [hW, ← h3]; exact hb3.keep (Fr.alloc (S := []) _ _) (by simp)
  refine ⟨W, rfl, ⟨_, [], by rw [hn]; rfl, ?_, Mine.nil _ _, ?_⟩, hb4⟩
  · rw [hn]; exact leaf_isN _ (by decide)
  · rw [hW, ← h3]
    exact hl3.alloc hl3.size _
theorem good_end {s S : ByteArray} {w w2 V W : World} {e : Ex} {b1 : List Nat} {K : Int} {u : Value} {C : Nat} (hn : exParse s = some e) (hl : Below w.heap.size w V) (hb : Bx V w.heap.size 0 ⟨#[]⟩ (.slice none 0 0)) (hV : Below w2.heap.size w2 V) (hC : w.heap.size < C)
    (hi : ExIs w2 (.agg #[.int .i64 K, .string S, u]) e b1 ∧ Mine w2 C b1)
    (hW : W = ((V.setCell ⟨w.heap.size, 0, none⟩ (.int .i64 K)).setCell ⟨w.heap.size, 1, none⟩ (.string S)).setCell ⟨w.heap.size, 2, none⟩ u) :
    ∃ W2, W2 = W ∧ ParsePost s w (.returned (.tuple #[.agg #[.int .i64 K, .string S, u], .bool true])) W2 ∧ Bx W2 w.heap.size K S u := by
  have hf : Fr [w.heap.size] w2 W := by
    rw [hW]
    exact (((Fr.of_below hV).trans (Fr.set (S := [w.heap.size]) V ⟨w.heap.size, 0, none⟩ _ (by simp)) (fun x hx => Or.inl hx)).trans (Fr.set (S := [w.heap.size]) _ ⟨w.heap.size, 1, none⟩ _ (by simp)) (fun x hx => Or.inl hx)).trans (Fr.set (S := [w.heap.size]) _ ⟨w.heap.size, 2, none⟩ _ (by simp)) (fun x hx => Or.inl hx)
  have hk : Keeps w2 W b1 := ⟨hf.size, fun x hx hlt => hf.block x hlt (by have := (hi.2.range x hx).1; simp; omega)⟩
  refine ⟨W, rfl, ⟨_, b1, by rw [hn]; rfl, ?_, (hi.2.keeps hk).mono (by omega), ?_⟩, ?_⟩
  · rw [hn]; exact hi.1.keeps hk
  · rw [hW]
    exact ((hl.setCell (Nat.le_refl _) _).setCell (Nat.le_refl _) _).setCell (Nat.le_refl _) _
  · rw [hW]
    exact ((hb.set0 K).set1 _).set2 _

set_option maxHeartbeats 4000000 in
theorem parse_any (s : ByteArray) (w : World) (hs : s.size ≤ 1048576) :
    Calls Try.prog 33 #[.string s] w (ParsePost s w) := by
  obtain ⟨W1, hW1⟩ : ∃ W1, W1 = (w.alloc (.cells #[.int .i64 0, .string ⟨#[]⟩, .slice none 0 0] 26)).alloc (.cells #[.string s, .int .i64 0, .bool false] 103) := ⟨_, rfl⟩
  have hR1 : Rd W1 (w.heap.size + 1) s 0 false := by
    rw [hW1]
    have := heap_alloc_new (w.alloc (.cells #[.int .i64 0, .string ⟨#[]⟩, .slice none 0 0] 26)) (.cells #[.string s, .int .i64 0, .bool false] 103)
    simpa [Rd] using this
  have hB1 : Bx W1 w.heap.size 0 ⟨#[]⟩ (.slice none 0 0) := by
    rw [hW1]
    exact Bx.keep (W := w.alloc (.cells #[.int .i64 0, .string ⟨#[]⟩, .slice none 0 0] 26)) (heap_alloc_new w _) (Fr.alloc (S := []) _ _) (by simp)
  have hL1 : Below w.heap.size w W1 := by
    rw [hW1]
    exact ((Below.refl w.heap.size w).alloc (Nat.le_refl _) _).alloc (by simp) _
  have HCALL := Lib.hid (show Calls Try.prog 74 #[.pointer (some ⟨w.heap.size + 1, 0, none⟩), .int .i64 1] W1 (NodePost 24 (w.heap.size + 1) s 0 W1) from node_all (w.heap.size + 1) s hs 24 1 rfl (Nat.le_refl _) 0 W1 hR1 (Nat.zero_le _))
  have HB1 := Lib.hid hB1
  have HL1 := Lib.hid hL1
  have HW1 := Lib.hid hW1
  have hsz1 : W1.heap.size = w.heap.size + 2 := by rw [hW1]; simp
  clear hR1 hB1 hL1 hW1
  go_enter Try.func33, Try.ntmps33
  go_wp2_with fail
  go_at_call 74
  rw [← HW1.out]
  refine HCALL.out.mono ?_
  rintro r w2 ⟨v2, e, b1, a2, b2, rfl, his, hm2, hf2, hr2, -, hhi, htot, hgot⟩
  obtain ⟨u2, rfl, hns, hu2⟩ := id his
  obtain ⟨A2, c2, rfl, -⟩ := id hu2
  have HL2 := Lib.hid (show Below w.heap.size w w2 from HL1.out.trans (hf2.below (by simp) (by omega)))
  have hb2 := HB1.out.keep hf2 (by simp)
  obtain ⟨e0, e1, e2, hBw⟩ := hb2.cells
  have g0 := hb2.thaw 0
  have g1 := hb2.thaw 1
  have g2 := hb2.thaw 2
  obtain ⟨-, d1, d2, hRl⟩ := hr2.cells
  have HB2 := Lib.hid hb2
  have HI2 := Lib.hid (And.intro his hm2)
  have HG := Lib.hid hgot
  have hhi2 : (a2 : Int) ≤ (s.size : Int) := by omega
  have HTT := Lib.hid (show exTot e ≤ 1048576 by omega)
  have hss : w.heap.size < w2.heap.size := hBw
  clear hb2 his hm2 hf2 hr2 hgot hu2 HCALL HB1 HL1 htot
  obtain ⟨q, hq⟩ : ∃ q, q = e.args.length := ⟨_, rfl⟩
  obtain ⟨K, hK⟩ : ∃ K, K = e.kind := ⟨_, rfl⟩
  obtain ⟨S, hS⟩ : ∃ S, S = e.name := ⟨_, rfl⟩
  rw [← hq, ← hK, ← hS] at HI2 ⊢
  have HQ := Lib.hid (And.intro hq (And.intro hK hS))
  clear hq hK hS
  have HL3 := Lib.hid (HL2.out.alloc (by omega) (.cells #[.int .i64 K, .string S, .slice A2 q c2] 26))
  have HB3 := Lib.hid (HB2.out.keep (Fr.alloc (S := []) w2 (.cells #[.int .i64 K, .string S, .slice A2 q c2] 26)) (by simp))
  have HE3 := Lib.hid (show Bx (w2.alloc (.cells #[.int .i64 K, .string S, .slice A2 q c2] 26)) w2.heap.size K S (.slice A2 q c2) from heap_alloc_new _ _)
  cases b2
  · by_cases ha : a2 = s.size
    · have HA := Lib.hid ha
      have hne1 : ((a2 : Int) != (s.size : Int)) = false := by simp [ha]
      have HFM := Lib.hid (fun (W : World) (v : Value) (bs : List Nat) (h : ExIs W v e bs) => format_any e v bs W h HTT.out)
      clear ha
      generalize hfm : exFmt e = t at HFM
      by_cases ht : t = s
      · have hte := beq_yes ht
        have HYES := Lib.hid (parse_yes HG.out HA.out (hfm.trans ht))
        clear ht hfm
        go_wp2_with (go_at_call 31; refine (HFM.out _ _ b1 (HI2.out.1.below ((Below.refl _ _).alloc (Nat.le_refl _) _))).mono ?_; rintro r w4 ⟨rfl, hb4⟩; have hb5 := HB3.out.keep (Fr.of_below (S := []) hb4) (by simp); have HL4 := Lib.hid (HL3.out.trans (hb4.mono HL3.out.size)); have HV4 := Lib.hid (((Below.refl w2.heap.size w2).alloc (Nat.le_refl _) _).trans (hb4.mono (by simp))); obtain ⟨e0, e1, e2, hBw4⟩ := hb5.cells; have g0 := hb5.thaw 0; have g1 := hb5.thaw 1; have g2 := hb5.thaw 2; have HB5 := Lib.hid hb5; have he5 := HE3.out.keep (Fr.of_below (S := []) hb4) (by simp); obtain ⟨k0, k1, k2, hBx4⟩ := he5.cells; clear hb4 hb5 he5)
        obtain ⟨W2, hW2, hpost, hbx⟩ := good_end (C := W1.heap.size) HYES.out HL4.out HB5.out HV4.out (by omega) HI2.out rfl
        rw [← hW2]
        obtain ⟨y0, y1, y2, -⟩ := hbx.cells
        refine bodyPost_ret (v := .tuple #[.agg #[.int .i64 K, .string S, .slice A2 q c2], .bool true]) (by simp [results, Try.results33, go_sem, y0, y1, y2]) rfl ?_
        exact hpost
      · have hte := beq_no ht
        have HNO := Lib.hid (parse_not HG.out hhi (Or.inr (Or.inr (by rw [hfm]; exact ht))))
        clear ht hfm
        go_wp2_with (go_at_call 31; refine (HFM.out _ _ b1 (HI2.out.1.below ((Below.refl _ _).alloc (Nat.le_refl _) _))).mono ?_; rintro r w4 ⟨rfl, hb4⟩; have hb5 := HB3.out.keep (Fr.of_below (S := []) hb4) (by simp); have HL4 := Lib.hid (HL3.out.trans (hb4.mono HL3.out.size)); have HV4 := Lib.hid (((Below.refl w2.heap.size w2).alloc (Nat.le_refl _) _).trans (hb4.mono (by simp))); obtain ⟨e0, e1, e2, hBw4⟩ := hb5.cells; have g0 := hb5.thaw 0; have g1 := hb5.thaw 1; have g2 := hb5.thaw 2; have HB5 := Lib.hid hb5; have he5 := HE3.out.keep (Fr.of_below (S := []) hb4) (by simp); obtain ⟨k0, k1, k2, hBx4⟩ := he5.cells; clear hb4 hb5 he5)
        obtain ⟨W2, hW2, hpost, hbx⟩ := zero_end HNO.out HL4.out HB5.out rfl
        rw [← hW2]
        obtain ⟨y0, y1, y2, -⟩ := hbx.cells
        refine bodyPost_ret (v := .tuple #[.agg #[.int .i64 0, .string ⟨#[]⟩, .slice none 0 0], .bool false]) (by simp [results, Try.results33, go_sem, y0, y1, y2]) rfl ?_
        exact hpost
    · have hne1 : ((a2 : Int) != (s.size : Int)) = true := by simp; omega
      have HNO := Lib.hid (parse_not HG.out hhi (Or.inr (Or.inl ha)))
      clear ha
      go_wp2_with fail
      obtain ⟨W2, hW2, hpost, hbx⟩ := zero_end2 (o := .cells #[.int .i64 K, .string S, .slice A2 q c2] 26) HNO.out HL2.out HB2.out rfl
      rw [← hW2]
      obtain ⟨y0, y1, y2, -⟩ := hbx.cells
      refine bodyPost_ret (v := .tuple #[.agg #[.int .i64 0, .string ⟨#[]⟩, .slice none 0 0], .bool false]) (by simp [results, Try.results33, go_sem, y0, y1, y2]) rfl ?_
      exact hpost
  · have HNO := Lib.hid (parse_not HG.out hhi (Or.inl rfl))
    go_wp2_with fail
    obtain ⟨W2, hW2, hpost, hbx⟩ := zero_end2 (o := .cells #[.int .i64 K, .string S, .slice A2 q c2] 26) HNO.out HL2.out HB2.out rfl
    rw [← hW2]
    obtain ⟨y0, y1, y2, -⟩ := hbx.cells
    refine bodyPost_ret (v := .tuple #[.agg #[.int .i64 0, .string ⟨#[]⟩, .slice none 0 0], .bool false]) (by simp [results, Try.results33, go_sem, y0, y1, y2]) rfl ?_
    exact hpost
end Go.Proofs.Ytmndlhbgacgnlaa
