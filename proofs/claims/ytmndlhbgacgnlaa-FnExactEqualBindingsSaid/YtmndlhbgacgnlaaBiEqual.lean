/- When lists of bindings are equal, and the contract of the model's EqualBindings. Condition: they lie in memory. -/
import Derived.Test.YtmndlhbgacgnlaaBiSz
import Derived.Test.YtmndlhbgacgnlaaSpecEqual
namespace Go.Proofs.Ytmndlhbgacgnlaa
open Go Go.RowKit

def biEq (r s : Bi) : Bool := decide (r.name = s.name) && exEq r.val s.val
def eqBl : List Bi → List Bi → Bool
  | [], [] => true
  | r :: a, s :: b => biEq r s && eqBl a b
  | _, _ => false
theorem eqBl_len : ∀ (a b : List Bi), a.length ≠ b.length → eqBl a b = false := by
  intro a
  induction a with
  | nil => intro b h; cases b with
    | nil => exact absurd rfl h
    | cons y b => rfl
  | cons x a ih => intro b h; cases b with
    | nil => rfl
    | cons y b => rw [eqBl, ih b (fun hh => h (by simp [hh])), Bool.and_false]
theorem eqBl_here {a b : List Bi} {k : Nat} {x y : Bi} (h : a[k]? = some x) (h' : b[k]? = some y) : eqBl (a.drop k) (b.drop k) = (biEq x y && eqBl (a.drop (k + 1)) (b.drop (k + 1))) := by
  obtain ⟨h1, h2⟩ := List.getElem?_eq_some_iff.1 h
  obtain ⟨h3, h4⟩ := List.getElem?_eq_some_iff.1 h'
  rw [List.drop_eq_getElem_cons h1, h2, List.drop_eq_getElem_cons h3, h4, eqBl]
theorem bi_slice {w : World} {u : Value} {e : Ex} {bs : List Nat} {k : Int} {s : ByteArray} (h : ExIs w (.agg #[.int .i64 k, .string s, u]) e bs) : ∃ A n c, u = .slice A n c := by
  obtain ⟨u', e3, -, A, c, e4, -⟩ := h
  simp only [Value.agg.injEq, Array.mk.injEq, List.cons.injEq, and_true] at e3
  exact ⟨A, _, c, by rw [e3.2.2, e4]⟩
set_option maxRecDepth 100000 in
set_option maxHeartbeats 8000000 in
theorem equalb_any (l m : List Bi) (v v2 : Value) (bs b2 : List Nat) (w : World) (hv : BlIs w v l bs) (hv2 : BlIs w v2 m b2) :
    Calls Try.prog 49 #[v, v2] w (RetPost (.bool (eqBl l m)) w) := by
  obtain ⟨A, c, rfl, hc1, hc2, -⟩ := id hv
  obtain ⟨A2, c2, rfl, hc3, hc4, -⟩ := id hv2
  obtain ⟨n, hn⟩ : ∃ n, n = l.length := ⟨_, rfl⟩
  obtain ⟨q, hq⟩ : ∃ q, q = m.length := ⟨_, rfl⟩
  have HU := Lib.hid hv
  have HU2 := Lib.hid hv2
  rw [← hn] at hc1 HU ⊢
  rw [← hq] at hc3 HU2 ⊢
  have HN := Lib.hid hn
  have HM := Lib.hid hq
  clear hv hv2 hn hq
  by_cases hne : n = q
  · subst hne
    have HE := Lib.hid (show eqBl l m = eqBl (l.drop 0) (m.drop 0) from rfl)
    go_enter Try.func49, Try.ntmps49
    go_wp2_with fail
    go_loopw [5] (fun i wr => ∃ (k : Nat), k ≤ n ∧ i = .int .i64 (k : Int) ∧ Hid (eqBl l m = eqBl (l.drop k) (m.drop k)) ∧ Hid (Below w.heap.size w wr)) (fun i _ => n - (intOf i).toNat)
    case atStart => exact ⟨0, Nat.zero_le _, rfl, HE, Lib.hid (Below.refl _ _)⟩
    case round =>
      obtain ⟨k, hk, rfl, HK, HB⟩ := hrel
      by_cases hlt : k < n
      · obtain ⟨g, o, r, u, b1, hA⟩ := (HU.out.below HB.out).get k (by rw [← HN.out]; exact hlt)
        obtain ⟨h, p, s, y, b3, hA2⟩ := (HU2.out.below HB.out).get k (by rw [← HM.out]; exact hlt)
        obtain rfl := hA.eq
        obtain rfl := hA2.eq
        have HG := Lib.hid (eqBl_here hA.get hA2.get)
        obtain ⟨u', e1, -, hs3⟩ := hA.is
        simp only [Value.agg.injEq, Array.mk.injEq, List.cons.injEq, and_true, true_and] at e1
        subst e1
        obtain ⟨y', e2, -, ht3⟩ := hA2.is
        simp only [Value.agg.injEq, Array.mk.injEq, List.cons.injEq, and_true, true_and] at e2
        subst e2
        have HV3 := Lib.hid (fun (W : World) (hb : Below wr.heap.size wr W) => equal_any (exSize r.val) r.val s.val _ _ b1 b3 W (Nat.le_refl _) (hs3.below hb) (ht3.below hb))
        have HC := Lib.hid (fun (W : World) (hb : Below wr.heap.size wr W) => And.intro (hA.cells.of (w' := W) (fun j _ _ => hb.cell (p := ⟨g, j, none⟩) hA.lt)) (hA2.cells.of (w' := W) (fun j _ _ => hb.cell (p := ⟨h, j, none⟩) hA2.lt)))
        obtain ⟨X3, n3, i3, rfl⟩ := bi_slice hs3
        obtain ⟨X6, n6, i6, rfl⟩ := bi_slice ht3
        have HRE := Lib.hid (show biEq r s = (decide (r.name = s.name) && exEq r.val s.val) from rfl)
        obtain ⟨c0, c1, c2', c3⟩ := hA.cells
        obtain ⟨k0, k1, k2, k3⟩ := hA2.cells
        clear hs3 ht3 hA hA2
        generalize r.name = N1 at *
        generalize r.val.kind = K1 at *
        generalize r.val.name = S1 at *
        generalize s.name = N2 at *
        generalize s.val.kind = K2 at *
        generalize s.val.name = S2 at *
        generalize exEq r.val s.val = t3 at *
        have hk0 : (0 : Int) ≤ (k : Int) := by omega
        have hkn : (k : Int) < (n : Int) := by omega
        by_cases hx : N1 = N2
        · have hbe := beq_yes hx
          rw [decide_eq_true hx] at HRE
          clear hx
          have HS := Lib.hid (show ∀ W, Below wr.heap.size wr W → W.cell? ⟨g, o + k * 4, none⟩ = some (.string N1) ∧ W.cell? ⟨g, o + k * 4 + 1, none⟩ = some (.int .i64 K1) ∧ W.cell? ⟨g, o + k * 4 + 2, none⟩ = some (.string S1) ∧ W.cell? ⟨g, o + k * 4 + 3, none⟩ = some (.slice X3 n3 i3) ∧ W.cell? ⟨h, p + k * 4, none⟩ = some (.string N2) ∧ W.cell? ⟨h, p + k * 4 + 1, none⟩ = some (.int .i64 K2) ∧ W.cell? ⟨h, p + k * 4 + 2, none⟩ = some (.string S2) ∧ W.cell? ⟨h, p + k * 4 + 3, none⟩ = some (.slice X6 n6 i6) from fun W hb => by
            obtain ⟨⟨a0, a1, a2, a3⟩, ⟨b0, b1, b2, b3⟩⟩ := HC.out W hb
            exact ⟨a0, a1, a2, a3, b0, b1, b2, b3⟩)
          cases t3
          all_goals
            go_wp2_with fail
            go_region_held3 (fun W => W.cell? ⟨g, o + k * 4, none⟩ = some (.string N1) ∧ W.cell? ⟨g, o + k * 4 + 1, none⟩ = some (.int .i64 K1) ∧ W.cell? ⟨g, o + k * 4 + 2, none⟩ = some (.string S1) ∧ W.cell? ⟨g, o + k * 4 + 3, none⟩ = some (.slice X3 n3 i3) ∧ W.cell? ⟨h, p + k * 4, none⟩ = some (.string N2) ∧ W.cell? ⟨h, p + k * 4 + 1, none⟩ = some (.int .i64 K2) ∧ W.cell? ⟨h, p + k * 4 + 2, none⟩ = some (.string S2) ∧ W.cell? ⟨h, p + k * 4 + 3, none⟩ = some (.slice X6 n6 i6))
              (first
              | exact HS.out _ (Below.refl _ _).drew
              | exact HS.out _ HB2.out)
              (first
              | (go_at_call 27; refine (HV3.out _ (Below.refl _ _).drew).mono ?_; rintro e w2 ⟨rfl, hb2⟩; have HB2 := Lib.hid ((Below.refl _ wr).drew.trans hb2); clear hb2))
            clear ‹_ ∧ _›
          · have HE2 := Lib.hid (show eqBl l m = false by rw [HK.out, HG.out, HRE.out]; rfl)
            go_wp2_with fail
            go_ret
            exact ⟨by rw [HE2.out]; rfl, HB.out.trans (HB2.out.mono HB.out.size)⟩
          · have HE2 := Lib.hid (show eqBl l m = eqBl (l.drop (k + 1)) (m.drop (k + 1)) by rw [HK.out, HG.out, HRE.out]; rfl)
            go_wp2_with fail
            go_roundw
            case rel => exact ⟨k + 1, by omega, by go_num, HE2, Lib.hid (HB.out.trans (HB2.out.mono HB.out.size))⟩
            case measure => simp [intOf]; omega
        · have hbe := beq_no hx
          rw [decide_eq_false hx] at HRE
          have HE2 := Lib.hid (show eqBl l m = false by rw [HK.out, HG.out, HRE.out]; rfl)
          clear hx
          go_wp2_with fail
          go_quiet (fail)
          go_wp2_with fail
          go_ret
          exact ⟨by rw [HE2.out]; rfl, HB.out.trans ((below_drewN (Below.refl _ wr) _).mono HB.out.size)⟩
      · have HE2 := Lib.hid (show eqBl l m = true by rw [HK.out, List.drop_eq_nil_of_le (by rw [← HN.out]; omega), List.drop_eq_nil_of_le (by rw [← HM.out]; omega)]; rfl)
        go_wp2_with fail
        go_ret
        exact ⟨by rw [HE2.out]; rfl, HB.out⟩
  · have HE := Lib.hid (show eqBl l m = false from eqBl_len l m (by rw [← HN.out, ← HM.out]; exact hne))
    have hne2 : ((n : Int) != (q : Int)) = true := by simp; omega
    clear hne
    go_enter Try.func49, Try.ntmps49
    go_wp2_with fail
    go_ret
    exact ⟨by rw [HE.out]; rfl, Below.refl _ _⟩
end Go.Proofs.Ytmndlhbgacgnlaa
