/- The contracts of the model's l5Texts and EqualProgram. Condition: nodes and letters together at most 1048576. -/
import Derived.Test.YtmndlhbgacgnlaaRuLight
import Derived.Test.YtmndlhbgacgnlaaRuFits
import Derived.Test.YtmndlhbgacgnlaaSpecEqual
namespace Go.Proofs.Ytmndlhbgacgnlaa
open Go Go.RowKit

/-- What the model's l5Texts and EqualProgram answer. -/
def textsEq : List ByteArray → List ByteArray → Bool
  | [], [] => true
  | x :: a, y :: b => decide (x = y) && textsEq a b
  | _, _ => false
def ruEq (r s : Ru) : Bool := decide (r.name = s.name) && (decide (r.con = s.con) && (textsEq r.vars s.vars && (textsEq r.params s.params && exEq r.body s.body)))
def eqR : List Ru → List Ru → Bool
  | [], [] => true
  | r :: a, s :: b => ruEq r s && eqR a b
  | _, _ => false
theorem texts_len : ∀ (a b : List ByteArray), a.length ≠ b.length → textsEq a b = false := by
  intro a
  induction a with
  | nil => intro b h; cases b with
    | nil => exact absurd rfl h
    | cons y b => rfl
  | cons x a ih => intro b h; cases b with
    | nil => rfl
    | cons y b => rw [textsEq, ih b (fun hh => h (by simp [hh])), Bool.and_false]
theorem eqR_len : ∀ (a b : List Ru), a.length ≠ b.length → eqR a b = false := by
  intro a
  induction a with
  | nil => intro b h; cases b with
    | nil => exact absurd rfl h
    | cons y b => rfl
  | cons x a ih => intro b h; cases b with
    | nil => rfl
    | cons y b => rw [eqR, ih b (fun hh => h (by simp [hh])), Bool.and_false]
theorem texts_here {a b : List ByteArray} {k : Nat} {x y : ByteArray} (h : a[k]? = some x) (h' : b[k]? = some y) : textsEq (a.drop k) (b.drop k) = (decide (x = y) && textsEq (a.drop (k + 1)) (b.drop (k + 1))) := by
  obtain ⟨h1, h2⟩ := List.getElem?_eq_some_iff.1 h
  obtain ⟨h3, h4⟩ := List.getElem?_eq_some_iff.1 h'
  rw [List.drop_eq_getElem_cons h1, h2, List.drop_eq_getElem_cons h3, h4, textsEq]
theorem eqR_here {a b : List Ru} {k : Nat} {x y : Ru} (h : a[k]? = some x) (h' : b[k]? = some y) : eqR (a.drop k) (b.drop k) = (ruEq x y && eqR (a.drop (k + 1)) (b.drop (k + 1))) := by
  obtain ⟨h1, h2⟩ := List.getElem?_eq_some_iff.1 h
  obtain ⟨h3, h4⟩ := List.getElem?_eq_some_iff.1 h'
  rw [List.drop_eq_getElem_cons h1, h2, List.drop_eq_getElem_cons h3, h4, eqR]

set_option maxHeartbeats 2000000 in
theorem texts_any (xs ys : List ByteArray) (v v2 : Value) (bs b2 : List Nat) (w : World) (hv : SsIs w v xs bs) (hv2 : SsIs w v2 ys b2) :
    Calls Try.prog 91 #[v, v2] w (RetPost (.bool (textsEq xs ys)) w) := by
  obtain ⟨A, c, rfl⟩ := hv.slice
  obtain ⟨-, hc1, hc2, hs, -⟩ := hv.strs
  obtain ⟨A2, c2, rfl⟩ := hv2.slice
  obtain ⟨-, hc3, hc4, hs2, -⟩ := hv2.strs
  obtain ⟨n, hn⟩ : ∃ n, n = xs.length := ⟨_, rfl⟩
  obtain ⟨m, hm⟩ : ∃ m, m = ys.length := ⟨_, rfl⟩
  rw [← hn] at hc1 ⊢
  rw [← hm] at hc3 ⊢
  have HN := Lib.hid hn
  have HM := Lib.hid hm
  have HS := Lib.hid hs
  have HS2 := Lib.hid hs2
  clear hs hs2 hn hm hv hv2
  by_cases hne : n = m
  · subst hne
    have HE := Lib.hid (show textsEq xs ys = textsEq (xs.drop 0) (ys.drop 0) from rfl)
    go_enter Try.func91, Try.ntmps91
    go_wp2_with fail
    go_loopw [5] (fun i wr => ∃ (k q : Nat), k ≤ n ∧ i = .int .i64 (k : Int) ∧ Hid (textsEq xs ys = textsEq (xs.drop k) (ys.drop k)) ∧ wr = w.drewN q) (fun i _ => n - (intOf i).toNat)
    case atStart => exact ⟨0, 0, Nat.zero_le _, rfl, HE, rfl⟩
    case round =>
      obtain ⟨k, q, hk, rfl, HK, rfl⟩ := hrel
      by_cases hlt : k < n
      · obtain ⟨a, e1, hca, hla⟩ := HS.out.at_ k (by rw [← HN.out]; exact hlt)
        obtain ⟨b, e2, hcb, hlb⟩ := HS2.out.at_ k (by rw [← HM.out]; exact hlt)
        have HG := Lib.hid (texts_here (a := xs) (b := ys) (k := k) (List.getElem?_eq_getElem (by rw [← HN.out]; exact hlt)) (List.getElem?_eq_getElem (by rw [← HM.out]; exact hlt)))
        subst e1
        subst e2
        generalize xs[k]'(by rw [← HN.out]; exact hlt) = x at *
        generalize ys[k]'(by rw [← HM.out]; exact hlt) = y at *
        have hk0 : (0 : Int) ≤ (k : Int) := by omega
        have hkn : (k : Int) < (n : Int) := by omega
        by_cases hx : x = y
        · have hbe := beq_yes hx
          have HE2 := Lib.hid (show textsEq xs ys = textsEq (xs.drop (k + 1)) (ys.drop (k + 1)) by rw [HK.out, HG.out, decide_eq_true hx, Bool.true_and])
          clear hx
          go_wp2_with fail
          go_quiet (fail)
          go_wp2
          go_roundw
          case rel => exact ⟨k + 1, _, by omega, by go_num, HE2, rfl⟩
          case measure => simp [intOf]; omega
        · have hbe := beq_no hx
          have HE2 := Lib.hid (show textsEq xs ys = false by rw [HK.out, HG.out, decide_eq_false hx, Bool.false_and])
          clear hx
          go_wp2_with fail
          go_quiet (fail)
          go_wp2
          go_ret
          exact ⟨by rw [HE2.out]; rfl, ⟨rfl, rfl, rfl, Nat.le_refl _, fun _ _ => rfl⟩⟩
      · have HE2 := Lib.hid (show textsEq xs ys = true by rw [HK.out, List.drop_eq_nil_of_le (by rw [← HN.out]; omega), List.drop_eq_nil_of_le (by rw [← HM.out]; omega)]; rfl)
        go_wp2
        go_ret
        exact ⟨by rw [HE2.out]; rfl, ⟨rfl, rfl, rfl, Nat.le_refl _, fun _ _ => rfl⟩⟩
  · have HE := Lib.hid (show textsEq xs ys = false from texts_len xs ys (by rw [← HN.out, ← HM.out]; exact hne))
    have hne2 : ((n : Int) != (m : Int)) = true := by simp; omega
    clear hne
    go_enter Try.func91, Try.ntmps91
    go_wp2_with fail
    go_ret
    exact ⟨by rw [HE.out]; rfl, Below.refl _ _⟩

/-- The boxes of two rules. -/
theorem two_boxes {w W : World} {T : TypeId} {x0 x1 x2 x3 x4 x5 x6 y0 y1 y2 y3 y4 y5 y6 : Value}
    (h : Below ((w.alloc (.cells #[x0, x1, x2, x3, x4, x5, x6] T)).alloc (.cells #[y0, y1, y2, y3, y4, y5, y6] T)).heap.size ((w.alloc (.cells #[x0, x1, x2, x3, x4, x5, x6] T)).alloc (.cells #[y0, y1, y2, y3, y4, y5, y6] T)) W) :
    Box7 W w.heap.size T x0 x1 x2 x3 x4 x5 x6 ∧ Box7 W (w.heap.size + 1) T y0 y1 y2 y3 y4 y5 y6 ∧ Below w.heap.size w W := by
  have h2 := box_low h
  have h3 := box7_new h
  simp only [World.size_alloc] at h3
  exact ⟨box7_new h2, h3, box_low h2⟩
set_option maxRecDepth 100000 in
set_option maxHeartbeats 8000000 in
theorem equalp_any (l m : List Ru) (v v2 : Value) (bs b2 : List Nat) (w : World) (hv : PrIs w v l bs) (hv2 : PrIs w v2 m b2) (_hn : rusTot l ≤ 1048576) (_hm : rusTot m ≤ 1048576) :
    Calls Try.prog 46 #[v, v2] w (RetPost (.bool (eqR l m)) w) := by
  obtain ⟨u, rfl, hu⟩ := hv
  obtain ⟨A, c, rfl, hc1, hc2, -⟩ := id hu
  obtain ⟨u2, rfl, hu2⟩ := hv2
  obtain ⟨A2, c2, rfl, hc3, hc4, -⟩ := id hu2
  obtain ⟨n, hn⟩ : ∃ n, n = l.length := ⟨_, rfl⟩
  obtain ⟨q, hq⟩ : ∃ q, q = m.length := ⟨_, rfl⟩
  have HU := Lib.hid hu
  have HU2 := Lib.hid hu2
  rw [← hn] at hc1 HU ⊢
  rw [← hq] at hc3 HU2 ⊢
  have HN := Lib.hid hn
  have HM := Lib.hid hq
  clear hu hu2 hn hq
  have HB0 := Lib.hid (((Below.refl w.heap.size w).alloc (Nat.le_refl _) (.cells #[.slice A n c] 53)).alloc (by simp) (.cells #[.slice A2 q c2] 53))
  have HBX := Lib.hid (fun (W : World) (h : Below ((w.alloc (.cells #[.slice A n c] 53)).alloc (.cells #[.slice A2 q c2] 53)).heap.size ((w.alloc (.cells #[.slice A n c] 53)).alloc (.cells #[.slice A2 q c2] 53)) W) => show W.cell? ⟨w.heap.size, 0, none⟩ = some (.slice A n c) ∧ W.cell? ⟨w.heap.size + 1, 0, none⟩ = some (.slice A2 q c2) by
    have e := pbox h
    simp only [World.size_alloc] at e
    exact ⟨pbox (box_low h), e⟩)
  by_cases hne : n = q
  · subst hne
    have HE := Lib.hid (show eqR l m = eqR (l.drop 0) (m.drop 0) from rfl)
    go_enter Try.func46, Try.ntmps46
    go_wp2_with fail
    go_loopw [5] (fun i wr => ∃ (k : Nat), k ≤ n ∧ i = .int .i64 (k : Int) ∧ Hid (eqR l m = eqR (l.drop k) (m.drop k)) ∧ Hid (Below ((w.alloc (.cells #[.slice A n c] 53)).alloc (.cells #[.slice A2 n c2] 53)).heap.size ((w.alloc (.cells #[.slice A n c] 53)).alloc (.cells #[.slice A2 n c2] 53)) wr)) (fun i _ => n - (intOf i).toNat)
    case atStart => exact ⟨0, Nat.zero_le _, rfl, HE, Lib.hid (Below.refl _ _)⟩
    case round =>
      obtain ⟨k, hk, rfl, HK, HB⟩ := hrel
      obtain ⟨x0, y0⟩ := HBX.out wr HB.out
      have HLB := Lib.hid (HB0.out.trans (HB.out.mono HB0.out.size))
      have hz1 : w.heap.size < wr.heap.size := by have := HB.out.size; simp at this; omega
      have hz2 : w.heap.size + 1 < wr.heap.size := by have := HB.out.size; simp at this; omega
      by_cases hlt : k < n
      · obtain ⟨g, o, r, v1, v2, u, b1, hA⟩ := (HU.out.below HLB.out).get k (by rw [← HN.out]; exact hlt)
        obtain ⟨h, p, s, z1, z2, y, b3, hA2⟩ := (HU2.out.below HLB.out).get k (by rw [← HM.out]; exact hlt)
        obtain rfl := hA.eq
        obtain rfl := hA2.eq
        have HG := Lib.hid (eqR_here hA.get hA2.get)
        obtain ⟨e1, e2, e3, -, -, -, hs1, hs2, hs3⟩ := hA.is.parts
        obtain ⟨f1, f2, f3, -, -, -, ht1, ht2, ht3⟩ := hA2.is.parts
        have HV1 := Lib.hid (fun (W : World) (hb : Below wr.heap.size wr W) => texts_any r.vars s.vars v1 z1 e1 f1 W (hs1.below hb) (ht1.below hb))
        have HV2 := Lib.hid (fun (W : World) (hb : Below wr.heap.size wr W) => texts_any r.params s.params v2 z2 e2 f2 W (hs2.below hb) (ht2.below hb))
        have HV3 := Lib.hid (fun (W : World) (hb : Below wr.heap.size wr W) => equal_any (exSize r.body) r.body s.body _ _ e3 f3 W (Nat.le_refl _) (hs3.below hb) (ht3.below hb))
        obtain ⟨c0, c1, c2', c3, c4, c5, c6⟩ := hA.cells
        obtain ⟨k0, k1, k2, k3, k4, k5, k6⟩ := hA2.cells
        have hgl := hA.lt
        have hhl := hA2.lt
        obtain ⟨X1, i1, rfl⟩ := hs1.slice
        obtain ⟨X2, i2, rfl⟩ := hs2.slice
        obtain ⟨X4, i4, rfl⟩ := ht1.slice
        obtain ⟨X5, i5, rfl⟩ := ht2.slice
        obtain ⟨X3, n3, i3, rfl⟩ := his_slice0 hs3
        obtain ⟨X6, n6, i6, rfl⟩ := his_slice0 ht3
        obtain ⟨nv1, hnv1⟩ : ∃ x, x = r.vars.length := ⟨_, rfl⟩
        obtain ⟨nv2, hnv2⟩ : ∃ x, x = r.params.length := ⟨_, rfl⟩
        obtain ⟨nv4, hnv4⟩ : ∃ x, x = s.vars.length := ⟨_, rfl⟩
        obtain ⟨nv5, hnv5⟩ : ∃ x, x = s.params.length := ⟨_, rfl⟩
        rw [← hnv1] at HV1 c2'
        rw [← hnv2] at HV2 c3
        rw [← hnv4] at HV1 k2
        rw [← hnv5] at HV2 k3
        have HRE := Lib.hid (show ruEq r s = (decide (r.name = s.name) && (decide (r.con = s.con) && (textsEq r.vars s.vars && (textsEq r.params s.params && exEq r.body s.body)))) from rfl)
        have HGG := Lib.hid (show eqR (l.drop k) (m.drop k) = (ruEq r s && eqR (l.drop (k + 1)) (m.drop (k + 1))) from HG.out)
        clear HG hs1 hs2 hs3 ht1 ht2 ht3 hA hA2 hnv1 hnv2 hnv4 hnv5
        have HG := HGG
        clear HGG
        generalize r.name = N1 at *
        generalize r.con = C1 at *
        generalize r.body.kind = K1 at *
        generalize r.body.name = S1 at *
        generalize s.name = N2 at *
        generalize s.con = C2 at *
        generalize s.body.kind = K2 at *
        generalize s.body.name = S2 at *
        have HBB := Lib.hid (((Below.refl wr.heap.size wr).alloc (Nat.le_refl _) (.cells #[.string N1, .string C1, .slice X1 nv1 i1, .slice X2 nv2 i2, .int .i64 K1, .string S1, .slice X3 n3 i3] 110)).alloc (by simp) (.cells #[.string N2, .string C2, .slice X4 nv4 i4, .slice X5 nv5 i5, .int .i64 K2, .string S2, .slice X6 n6 i6] 110))
        generalize textsEq r.vars s.vars = t1 at *
        generalize textsEq r.params s.params = t2 at *
        generalize exEq r.body s.body = t3 at *
        by_cases hx : N1 = N2
        · have hbe := beq_yes hx
          by_cases hy : C1 = C2
          · have hbc := beq_yes hy
            rw [decide_eq_true hx, decide_eq_true hy] at HRE
            clear hx hy
            cases t1
            · have HE2 := Lib.hid (show eqR l m = false by rw [HK.out, HG.out, HRE.out]; rfl)
              go_wp2_with fail
              go_at_call 91
              refine (HV1.out _ HBB.out).mono ?_
              rintro e w1 ⟨rfl, hb1⟩
              have HC1 := Lib.hid hb1
              obtain ⟨pa, pb, hl1⟩ := two_boxes hb1
              obtain ⟨-, -, -, d3, d4, d5, d6⟩ := pa.cells
              obtain ⟨-, -, -, g3, g4, g5, g6⟩ := pb.cells
              have HL1 := Lib.hid hl1
              clear hb1 pa pb hl1
              go_wp2_with fail
              go_ret
              exact ⟨by rw [HE2.out]; rfl, HLB.out.trans (HL1.out.mono HLB.out.size)⟩
            · cases t2
              · have HE2 := Lib.hid (show eqR l m = false by rw [HK.out, HG.out, HRE.out]; rfl)
                go_wp2_with fail
                go_at_call 91
                refine (HV1.out _ HBB.out).mono ?_
                rintro e w1 ⟨rfl, hb1⟩
                have HC1 := Lib.hid hb1
                obtain ⟨pa, pb, hl1⟩ := two_boxes hb1
                obtain ⟨-, -, -, d3, d4, d5, d6⟩ := pa.cells
                obtain ⟨-, -, -, g3, g4, g5, g6⟩ := pb.cells
                have HL1 := Lib.hid hl1
                clear hb1 pa pb hl1
                go_wp2_with fail
                go_at_call 91
                refine (HV2.out _ HL1.out).mono ?_
                rintro e w2 ⟨rfl, hb2⟩
                have HC2 := Lib.hid (HC1.out.trans (hb2.mono HC1.out.size))
                obtain ⟨pa, pb, hl2⟩ := two_boxes HC2.out
                obtain ⟨-, -, -, -, d4', d5', d6'⟩ := pa.cells
                obtain ⟨-, -, -, -, g4', g5', g6'⟩ := pb.cells
                have HL2 := Lib.hid hl2
                clear hb2 pa pb hl2
                go_wp2_with fail
                go_ret
                exact ⟨by rw [HE2.out]; rfl, HLB.out.trans (HL2.out.mono HLB.out.size)⟩
              · cases t3
                · have HE2 := Lib.hid (show eqR l m = false by rw [HK.out, HG.out, HRE.out]; rfl)
                  go_wp2_with fail
                  go_at_call 91
                  refine (HV1.out _ HBB.out).mono ?_
                  rintro e w1 ⟨rfl, hb1⟩
                  have HC1 := Lib.hid hb1
                  obtain ⟨pa, pb, hl1⟩ := two_boxes hb1
                  obtain ⟨-, -, -, d3, d4, d5, d6⟩ := pa.cells
                  obtain ⟨-, -, -, g3, g4, g5, g6⟩ := pb.cells
                  have HL1 := Lib.hid hl1
                  clear hb1 pa pb hl1
                  go_wp2_with fail
                  go_at_call 91
                  refine (HV2.out _ HL1.out).mono ?_
                  rintro e w2 ⟨rfl, hb2⟩
                  have HC2 := Lib.hid (HC1.out.trans (hb2.mono HC1.out.size))
                  obtain ⟨pa, pb, hl2⟩ := two_boxes HC2.out
                  obtain ⟨-, -, -, -, d4', d5', d6'⟩ := pa.cells
                  obtain ⟨-, -, -, -, g4', g5', g6'⟩ := pb.cells
                  have HL2 := Lib.hid hl2
                  clear hb2 pa pb hl2
                  go_wp2_with fail
                  go_at_call 27
                  refine (HV3.out _ HL2.out).mono ?_
                  rintro e w3 ⟨rfl, hb3⟩
                  have HL3 := Lib.hid (HL2.out.trans (hb3.mono HL2.out.size))
                  clear hb3
                  go_wp2_with fail
                  go_ret
                  exact ⟨by rw [HE2.out]; rfl, HLB.out.trans (HL3.out.mono HLB.out.size)⟩
                · have HE2 := Lib.hid (show eqR l m = eqR (l.drop (k + 1)) (m.drop (k + 1)) by rw [HK.out, HG.out, HRE.out]; rfl)
                  go_wp2_with fail
                  go_at_call 91
                  refine (HV1.out _ HBB.out).mono ?_
                  rintro e w1 ⟨rfl, hb1⟩
                  have HC1 := Lib.hid hb1
                  obtain ⟨pa, pb, hl1⟩ := two_boxes hb1
                  obtain ⟨-, -, -, d3, d4, d5, d6⟩ := pa.cells
                  obtain ⟨-, -, -, g3, g4, g5, g6⟩ := pb.cells
                  have HL1 := Lib.hid hl1
                  clear hb1 pa pb hl1
                  go_wp2_with fail
                  go_at_call 91
                  refine (HV2.out _ HL1.out).mono ?_
                  rintro e w2 ⟨rfl, hb2⟩
                  have HC2 := Lib.hid (HC1.out.trans (hb2.mono HC1.out.size))
                  obtain ⟨pa, pb, hl2⟩ := two_boxes HC2.out
                  obtain ⟨-, -, -, -, d4', d5', d6'⟩ := pa.cells
                  obtain ⟨-, -, -, -, g4', g5', g6'⟩ := pb.cells
                  have HL2 := Lib.hid hl2
                  clear hb2 pa pb hl2
                  go_wp2_with fail
                  go_at_call 27
                  refine (HV3.out _ HL2.out).mono ?_
                  rintro e w3 ⟨rfl, hb3⟩
                  have HL3 := Lib.hid (HL2.out.trans (hb3.mono HL2.out.size))
                  clear hb3
                  go_wp2_with fail
                  go_roundw
                  case rel => exact ⟨k + 1, by omega, by go_num, HE2, Lib.hid (HB.out.trans (HL3.out.mono HB.out.size))⟩
                  case measure => simp [intOf]; omega
          · have hbc := beq_no hy
            rw [decide_eq_true hx, decide_eq_false hy] at HRE
            have HE2 := Lib.hid (show eqR l m = false by rw [HK.out, HG.out, HRE.out]; rfl)
            clear hx hy
            go_wp2_with fail
            go_ret
            exact ⟨by rw [HE2.out]; rfl, HLB.out.trans (HBB.out.mono HLB.out.size)⟩
        · have hbe := beq_no hx
          rw [decide_eq_false hx] at HRE
          have HE2 := Lib.hid (show eqR l m = false by rw [HK.out, HG.out, HRE.out]; rfl)
          clear hx
          go_wp2_with fail
          go_ret
          exact ⟨by rw [HE2.out]; rfl, HLB.out.trans (HBB.out.mono HLB.out.size)⟩
      · have HE2 := Lib.hid (show eqR l m = true by rw [HK.out, List.drop_eq_nil_of_le (by rw [← HN.out]; omega), List.drop_eq_nil_of_le (by rw [← HM.out]; omega)]; rfl)
        go_wp2
        go_ret
        exact ⟨by rw [HE2.out]; rfl, HLB.out⟩
  · have HE := Lib.hid (show eqR l m = false from eqR_len l m (by rw [← HN.out, ← HM.out]; exact hne))
    have hne2 : ((n : Int) != (q : Int)) = true := by simp; omega
    clear hne
    go_enter Try.func46, Try.ntmps46
    go_wp2_with fail
    go_ret
    exact ⟨by rw [HE.out]; rfl, HB0.out⟩
end Go.Proofs.Ytmndlhbgacgnlaa
