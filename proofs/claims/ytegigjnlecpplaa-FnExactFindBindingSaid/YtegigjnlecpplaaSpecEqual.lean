/- The contract of the model's EqualExpr. No condition but that both expressions lie in memory. -/
import Derived.Test.YtegigjnlecpplaaSpecSizes
import Derived.Test.YtegigjnlecpplaaSpecNames
import Derived.Test.YtegigjnlecpplaaExSz
import Derived.Deep.QuietTactic
import Derived.BigQuiet
import Derived.Deep.RegionHeld3
namespace Go.Proofs.Ytegigjnlecpplaa
open Go Go.RowKit

mutual
def exEq : Ex → Ex → Bool
  | .mk k s l, .mk k' s' l' => decide (k = k') && (decide (s = s') && exEqs l l')
def exEqs : List Ex → List Ex → Bool
  | [], [] => true
  | e :: r, e' :: r' => exEq e e' && exEqs r r'
  | _, _ => false
end
theorem eqs_len : ∀ (l l' : List Ex), exEqs l l' = true → l.length = l'.length := by
  intro l
  induction l with
  | nil => intro l' h; cases l' with
    | nil => rfl
    | cons e r => simp [exEqs] at h
  | cons e r ih => intro l' h; cases l' with
    | nil => simp [exEqs] at h
    | cons e' r' =>
      rw [exEqs, Bool.and_eq_true] at h
      rw [List.length_cons, List.length_cons, ih r' h.2]
theorem eqs_at : ∀ (l l' : List Ex) (k : Nat) (e e' : Ex), l[k]? = some e → l'[k]? = some e' → exEq e e' = false → exEqs l l' = false := by
  intro l
  induction l with
  | nil => intro l' k e e' h _ _; simp at h
  | cons x r ih => intro l' k e e' h h' he; cases l' with
    | nil => simp at h'
    | cons x' r' =>
      rw [exEqs]
      cases k with
      | zero =>
        simp at h h'
        subst h; subst h'
        rw [he, Bool.false_and]
      | succ k => rw [ih r' k e e' (by simpa using h) (by simpa using h') he, Bool.and_false]
theorem eqs_drop (l l' : List Ex) (k : Nat) (e e' : Ex) (h : l[k]? = some e) (h' : l'[k]? = some e') (he : exEq e e' = true) : exEqs (l.drop k) (l'.drop k) = exEqs (l.drop (k + 1)) (l'.drop (k + 1)) := by
  have hk : k < l.length := (List.getElem?_eq_some_iff.1 h).1
  have hk' : k < l'.length := (List.getElem?_eq_some_iff.1 h').1
  rw [List.drop_eq_getElem_cons hk, List.drop_eq_getElem_cons hk', (List.getElem?_eq_some_iff.1 h).2, (List.getElem?_eq_some_iff.1 h').2, exEqs, he, Bool.true_and]
theorem exEq_parts (a b : Ex) : exEq a b = (decide (a.kind = b.kind) && (decide (a.name = b.name) && exEqs a.args b.args)) := by cases a; cases b; rfl

/-- Eight cells that stay. -/
theorem keep8_start {wr : World} {a b c d e f g h : Addr} {x1 x2 x3 x4 x5 x6 x7 x8 : Value} (H : wr.cell? a = some x1 ∧ wr.cell? b = some x2 ∧ wr.cell? c = some x3 ∧ wr.cell? d = some x4 ∧ wr.cell? e = some x5 ∧ wr.cell? f = some x6 ∧ wr.cell? g = some x7 ∧ wr.cell? h = some x8) :
    wr.drew.cell? a = some x1 ∧ wr.drew.cell? b = some x2 ∧ wr.drew.cell? c = some x3 ∧ wr.drew.cell? d = some x4 ∧ wr.drew.cell? e = some x5 ∧ wr.drew.cell? f = some x6 ∧ wr.drew.cell? g = some x7 ∧ wr.drew.cell? h = some x8 ∧ Hid (Below wr.heap.size wr wr.drew) :=
  ⟨H.1, H.2.1, H.2.2.1, H.2.2.2.1, H.2.2.2.2.1, H.2.2.2.2.2.1, H.2.2.2.2.2.2.1, H.2.2.2.2.2.2.2, Lib.hid (Below.refl _ _).drew⟩
theorem keep8_step {wr X w2 : World} {a b c d e f g h : Addr} {x1 x2 x3 x4 x5 x6 x7 x8 : Value} (H : Hid (wr.cell? a = some x1 ∧ wr.cell? b = some x2 ∧ wr.cell? c = some x3 ∧ wr.cell? d = some x4 ∧ wr.cell? e = some x5 ∧ wr.cell? f = some x6 ∧ wr.cell? g = some x7 ∧ wr.cell? h = some x8)) (hb : Below X.heap.size X w2)
    (hX : X.cell? a = some x1 ∧ X.cell? b = some x2 ∧ X.cell? c = some x3 ∧ X.cell? d = some x4 ∧ X.cell? e = some x5 ∧ X.cell? f = some x6 ∧ X.cell? g = some x7 ∧ X.cell? h = some x8 ∧ Hid (Below wr.heap.size wr X)) :
    w2.cell? a = some x1 ∧ w2.cell? b = some x2 ∧ w2.cell? c = some x3 ∧ w2.cell? d = some x4 ∧ w2.cell? e = some x5 ∧ w2.cell? f = some x6 ∧ w2.cell? g = some x7 ∧ w2.cell? h = some x8 ∧ Hid (Below wr.heap.size wr w2) := by
  have HB := hX.2.2.2.2.2.2.2.2
  have hw := HB.out.trans (hb.mono HB.out.size)
  have k : ∀ {p : Addr} {x : Value}, wr.cell? p = some x → w2.cell? p = some x := fun {p x} hp => (hw.cell (p := p) (World.block_lt_of_cell? wr _ hp)).trans hp
  obtain ⟨h1, h2, h3, h4, h5, h6, h7, h8⟩ := H.out
  exact ⟨k h1, k h2, k h3, k h4, k h5, k h6, k h7, k h8, Lib.hid hw⟩

set_option maxHeartbeats 4000000 in
theorem equal_any (n : Nat) : ∀ (a b : Ex) (v v' : Value) (bs bs' : List Nat) (w : World), exSize a ≤ n → ExIs w v a bs → ExIs w v' b bs' →
    Calls Try.prog 47 #[v, v'] w (RetPost (.bool (exEq a b)) w) := by
  induction n with
  | zero => intro a b v v' bs bs' w h; have := exSize_pos a; omega
  | succ n ih =>
    intro a b v v' bs bs' w hle hv hv'
    obtain ⟨u, rfl, hsz, hu⟩ := hv
    obtain ⟨u', rfl, hsz', hu'⟩ := hv'
    obtain ⟨A, c, rfl, hc1, hc2, -⟩ := id hu
    obtain ⟨A', c', rfl, hc1', hc2', -⟩ := id hu'
    have HU := Lib.hid hu
    have HV := Lib.hid hu'
    have HF := Lib.hid (exEq_parts a b)
    have HE := Lib.hid (show exSize a = exSizes a.args + 1 by cases a; rfl)
    have HN := Lib.hid hle
    have HIH := Lib.hid ih
    clear hu hu' hle ih
    generalize exEq a b = R at *
    generalize a.kind = K at *
    generalize b.kind = K' at *
    generalize a.name = S at *
    generalize b.name = S' at *
    generalize hL : a.args = L at *
    generalize hL' : b.args = L' at *
    clear hL hL'
    obtain ⟨m, hm⟩ : ∃ m, m = L.length := ⟨_, rfl⟩
    obtain ⟨m', hm'⟩ : ∃ m', m' = L'.length := ⟨_, rfl⟩
    rw [← hm, ← hm']
    rw [← hm] at hc1 HU
    rw [← hm'] at hc1' HV
    have HM := Lib.hid hm
    have HM' := Lib.hid hm'
    clear hm hm'
    have hm1 : (m : Int) ≤ 9223372036854775807 := by omega
    have hm2 : (m' : Int) ≤ 9223372036854775807 := by omega
    by_cases hk : K = K'
    · subst hk
      by_cases hs : S = S'
      · subst hs
        by_cases hl : m = m'
        · subst hl
          have hR : R = exEqs L L' := by rw [HF.out, decide_eq_true rfl, decide_eq_true rfl, Bool.true_and, Bool.true_and]
          have HR := Lib.hid hR
          clear hR HF
          go_enter Try.func47, Try.ntmps47
          go_wp2_with fail
          go_loopw [5] (fun i wr => ∃ (k : Nat), k ≤ m ∧ i = .int .i64 (k : Int) ∧ Hid (R = exEqs (L.drop k) (L'.drop k)) ∧ Hid (Below w.heap.size w wr) ∧ wr.heap[w.heap.size]? = some (.cells #[.int .i64 K, .string S, .slice A m c] 26 (0, 0)) ∧ wr.heap[w.heap.size + 1]? = some (.cells #[.int .i64 K, .string S, .slice A' m c'] 26 (0, 0))) (fun i _ => m - (intOf i).toNat)
          case atStart => exact ⟨0, Nat.zero_le _, rfl, HR, Lib.hid (((Below.refl _ _).alloc (Nat.le_refl _) _).alloc (by simp) _), (Below.heap_alloc _ _ _ (by simp)).trans (heap_alloc_new _ _), by
            have e : w.heap.size + 1 = (w.alloc (.cells #[.int .i64 K, .string S, .slice A m c] 26)).heap.size := by simp
            rw [e]; exact heap_alloc_new _ _⟩
          case round =>
            obtain ⟨k, hk, rfl, HZ, HB, hbox, hbox'⟩ := hrel
            have d2 : wr.cell? ⟨w.heap.size, 2, none⟩ = some (.slice A m c) := by simp [World.cell?, hbox]
            have d2' : wr.cell? ⟨w.heap.size + 1, 2, none⟩ = some (.slice A' m c') := by simp [World.cell?, hbox']
            have hgo := HB.out.size
            have hboxlt : w.heap.size < wr.heap.size := (Array.getElem?_eq_some_iff.1 hbox).1
            have hboxlt' : w.heap.size + 1 < wr.heap.size := (Array.getElem?_eq_some_iff.1 hbox').1
            have HBOX := Lib.hid hbox
            have HBOX' := Lib.hid hbox'
            clear hbox hbox'
            by_cases hlt : k < m
            · obtain ⟨g, o, e1, u, b1, rfl, hbl, hget, hmem, c1, c2, c3, his, -⟩ := (HU.out.below HB.out).get k (by rw [← HM.out]; exact hlt)
              obtain ⟨h, p, e2, u', b2, rfl, hbl', hget', -, c4, c5, c6, his', -⟩ := (HV.out.below HB.out).get k (by rw [← HM'.out]; exact hlt)
              have HCALL := Lib.hid (fun (W : World) (hb : Hid (Below wr.heap.size wr W)) => HIH.out e1 e2 _ _ b1 b2 W (by have := HE.out; have := exSizes_mem hmem; have := HN.out; omega) (his.below hb.out) (his'.below hb.out))
              have HAT := Lib.hid (eqs_at L L' k e1 e2 hget hget')
              have HDP := Lib.hid (eqs_drop L L' k e1 e2 hget hget')
              clear his his' hget hget' hmem
              generalize exEq e1 e2 = q at *
              have H8 := Lib.hid (And.intro d2 (And.intro d2' (And.intro c1 (And.intro c2 (And.intro c3 (And.intro c4 (And.intro c5 c6)))))))
              have HDR := Lib.hid (Below.drew (Below.refl wr.heap.size wr))
              have hk0 : 0 ≤ (k : Int) := by omega
              have hkm : (k : Int) < (m : Int) := by omega
              cases q
              · have HR0 := Lib.hid (show R = false from HR.out.trans (HAT.out rfl))
                go_wp2_with fail
                go_region_held3 (fun X => X.cell? ⟨w.heap.size, 2, none⟩ = some (.slice (some ⟨g, o, none⟩) m c) ∧ X.cell? ⟨w.heap.size + 1, 2, none⟩ = some (.slice (some ⟨h, p, none⟩) m c') ∧ X.cell? ⟨g, o + k * 3, none⟩ = some (.int .i64 e1.kind) ∧ X.cell? ⟨g, o + k * 3 + 1, none⟩ = some (.string e1.name) ∧ X.cell? ⟨g, o + k * 3 + 2, none⟩ = some u ∧ X.cell? ⟨h, p + k * 3, none⟩ = some (.int .i64 e2.kind) ∧ X.cell? ⟨h, p + k * 3 + 1, none⟩ = some (.string e2.name) ∧ X.cell? ⟨h, p + k * 3 + 2, none⟩ = some u' ∧ Hid (Below wr.heap.size wr X))
                  (first | exact keep8_start H8.out | exact keep8_step H8 hb2 (by assumption))
                  (first | (go_at_call 47; refine (HCALL.out _ (by assumption)).mono ?_; rintro e w2 ⟨rfl, hb2⟩))
                all_goals
                  have hx := ‹_ ∧ _ ∧ _ ∧ _ ∧ _ ∧ _ ∧ _ ∧ _ ∧ Hid (Below wr.heap.size wr w2)›
                  have HX := Lib.hid (HB.out.trans (hx.2.2.2.2.2.2.2.2.out.mono HB.out.size))
                  clear hx
                  go_wp2_with fail
                  go_ret
                  exact ⟨by rw [HR0.out]; rfl, HX.out⟩
              · go_wp2_with fail
                go_region_held3 (fun X => X.cell? ⟨w.heap.size, 2, none⟩ = some (.slice (some ⟨g, o, none⟩) m c) ∧ X.cell? ⟨w.heap.size + 1, 2, none⟩ = some (.slice (some ⟨h, p, none⟩) m c') ∧ X.cell? ⟨g, o + k * 3, none⟩ = some (.int .i64 e1.kind) ∧ X.cell? ⟨g, o + k * 3 + 1, none⟩ = some (.string e1.name) ∧ X.cell? ⟨g, o + k * 3 + 2, none⟩ = some u ∧ X.cell? ⟨h, p + k * 3, none⟩ = some (.int .i64 e2.kind) ∧ X.cell? ⟨h, p + k * 3 + 1, none⟩ = some (.string e2.name) ∧ X.cell? ⟨h, p + k * 3 + 2, none⟩ = some u' ∧ Hid (Below wr.heap.size wr X))
                  (first | exact keep8_start H8.out | exact keep8_step H8 hb2 (by assumption))
                  (first | (go_at_call 47; refine (HCALL.out _ (by assumption)).mono ?_; rintro e w2 ⟨rfl, hb2⟩))
                all_goals
                  have hx := ‹_ ∧ _ ∧ _ ∧ _ ∧ _ ∧ _ ∧ _ ∧ _ ∧ Hid (Below wr.heap.size wr w2)›
                  have HX0 := Lib.hid hx.2.2.2.2.2.2.2.2.out
                  have HX := Lib.hid (HB.out.trans (HX0.out.mono HB.out.size))
                  clear hx
                  go_wp2_with fail
                  go_roundw
                  case rel => exact ⟨k + 1, by omega, by go_num, Lib.hid (HZ.out.trans (HDP.out (by first | rfl | trivial))), HX, (HX0.out.block _ hboxlt).trans HBOX.out, (HX0.out.block _ hboxlt').trans HBOX'.out⟩
                  case measure => simp [intOf]; omega
            · have HR1 := Lib.hid (show R = true by
                rw [HZ.out, List.drop_eq_nil_of_le (by rw [← HM.out]; omega), List.drop_eq_nil_of_le (by rw [← HM'.out]; omega)]; rfl)
              go_wp2_with fail
              go_ret
              exact ⟨by rw [HR1.out]; rfl, HB.out⟩
        · have HR := Lib.hid (show R = false by
            rw [HF.out]
            cases h : exEqs L L' with
            | false => simp
            | true => have := eqs_len L L' h; have := HM.out; have := HM'.out; omega)
          have hd : ((m : Int) == (m' : Int)) = false := by simp; omega
          clear hl
          go_enter Try.func47, Try.ntmps47
          go_wp2_with fail
          go_ret
          exact ⟨by rw [HR.out]; rfl, ((Below.refl _ _).alloc (Nat.le_refl _) _).alloc (by simp) _⟩
      · have HR := Lib.hid (show R = false by rw [HF.out, decide_eq_false hs, Bool.false_and, Bool.and_false])
        have hb := beq_no hs
        clear hs
        go_enter Try.func47, Try.ntmps47
        go_wp2_with fail
        go_ret
        exact ⟨by rw [HR.out]; rfl, ((Below.refl _ _).alloc (Nat.le_refl _) _).alloc (by simp) _⟩
    · have HR := Lib.hid (show R = false by rw [HF.out, decide_eq_false hk, Bool.false_and])
      have hb : (K != K') = true := by simpa using hk
      clear hk
      go_enter Try.func47, Try.ntmps47
      go_wp2_with fail
      go_ret
      exact ⟨by rw [HR.out]; rfl, ((Below.refl _ _).alloc (Nat.le_refl _) _).alloc (by simp) _⟩
end Go.Proofs.Ytegigjnlecpplaa
