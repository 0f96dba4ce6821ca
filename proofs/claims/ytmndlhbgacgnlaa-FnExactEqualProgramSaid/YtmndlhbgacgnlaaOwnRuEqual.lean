/- The contracts of the library's slices.Equal on strings and slices.EqualFunc on rules, and of the program's own equalRules and EqualProgram. Conditions: fewer than 2^40 nodes; no string shares the memory of the arguments. -/
import Derived.Test.YtmndlhbgacgnlaaOwnEqual
import Derived.Test.YtmndlhbgacgnlaaRuEqual
import Derived.Test.YtmndlhbgacgnlaaRuGet
namespace Go.Proofs.Ytmndlhbgacgnlaa
open Go Go.RowKit

set_option maxHeartbeats 2000000 in
theorem own_sleq (xs ys : List ByteArray) (v v2 : Value) (bs b2 : List Nat) (w : World) (hv : SsIs w v xs bs) (hv2 : SsIs w v2 ys b2) :
    Calls Try.prog 141 #[v, v2] w (RetPost (.bool (textsEq xs ys)) w) := by
  obtain ⟨A, c, rfl⟩ := hv.slice
  obtain ⟨-, hc1, hc2, hs, -⟩ := hv.strs
  obtain ⟨A2, c2, rfl⟩ := hv2.slice
  obtain ⟨-, hc3, hc4, hs2, -⟩ := hv2.strs
  obtain ⟨n, hn⟩ : ∃ n, n = xs.length := ⟨_, rfl⟩
  obtain ⟨m, hm⟩ : ∃ m, m = ys.length := ⟨_, rfl⟩
  rw [← hn] at hc1 ⊢
  rw [← hm] at hc3 ⊢
  have HN := Lib.hid hn
  have HM := Lib.hid hm
  have HS := Lib.hid hs
  have HS2 := Lib.hid hs2
  clear hs hs2 hn hm hv hv2
  by_cases hne : n = m
  · subst hne
    have HE := Lib.hid (show textsEq xs ys = textsEq (xs.drop 0) (ys.drop 0) from rfl)
    go_enter Try.func141, Try.ntmps141
    go_wp2_with fail
    go_loopw [13] (fun i wr => ∃ (k q : Nat), k ≤ n ∧ i = .int .i64 (k : Int) ∧ Hid (textsEq xs ys = textsEq (xs.drop k) (ys.drop k)) ∧ wr = w.drewN q) (fun i _ => n - (intOf i).toNat)
    case atStart => exact ⟨0, 0, Nat.zero_le _, rfl, HE, rfl⟩
    case round =>
      obtain ⟨k, q, hk, rfl, HK, rfl⟩ := hrel
      by_cases hlt : k < n
      · obtain ⟨a, e1, hca, hla⟩ := HS.out.at_ k (by rw [← HN.out]; exact hlt)
        obtain ⟨b, e2, hcb, hlb⟩ := HS2.out.at_ k (by rw [← HM.out]; exact hlt)
        have HG := Lib.hid (texts_here (a := xs) (b := ys) (k := k) (List.getElem?_eq_getElem (by rw [← HN.out]; exact hlt)) (List.getElem?_eq_getElem (by rw [← HM.out]; exact hlt)))
        subst e1
        subst e2
        generalize xs[k]'(by rw [← HN.out]; exact hlt) = x at *
        generalize ys[k]'(by rw [← HM.out]; exact hlt) = y at *
        have hk0 : (0 : Int) ≤ (k : Int) := by omega
        have hkn : (k : Int) < (n : Int) := by omega
        by_cases hx : x = y
        · have hbe := beq_yes hx
          have HE2 := Lib.hid (show textsEq xs ys = textsEq (xs.drop (k + 1)) (ys.drop (k + 1)) by rw [HK.out, HG.out, decide_eq_true hx, Bool.true_and])
          clear hx
          go_wp2_with fail
          go_quiet (fail)
          go_wp2
          go_roundw
          case rel => exact ⟨k + 1, _, by omega, by go_num, HE2, rfl⟩
          case measure => simp [intOf]; omega
        · have hbe := beq_no hx
          have HE2 := Lib.hid (show textsEq xs ys = false by rw [HK.out, HG.out, decide_eq_false hx, Bool.false_and])
          clear hx
          go_wp2_with fail
          go_quiet (fail)
          go_wp2
          go_ret
          exact ⟨by rw [HE2.out]; rfl, ⟨rfl, rfl, rfl, Nat.le_refl _, fun _ _ => rfl⟩⟩
      · have HE2 := Lib.hid (show textsEq xs ys = true by rw [HK.out, List.drop_eq_nil_of_le (by rw [← HN.out]; omega), List.drop_eq_nil_of_le (by rw [← HM.out]; omega)]; rfl)
        go_wp2
        go_ret
        exact ⟨by rw [HE2.out]; rfl, ⟨rfl, rfl, rfl, Nat.le_refl _, fun _ _ => rfl⟩⟩
  · have HE := Lib.hid (show textsEq xs ys = false from texts_len xs ys (by rw [← HN.out, ← HM.out]; exact hne))
    have hne2 : ((n : Int) != (m : Int)) = true := by simp; omega
    clear hne
    go_enter Try.func141, Try.ntmps141
    go_wp2_with fail
    go_ret
    exact ⟨by rw [HE.out]; rfl, Below.refl _ _⟩


set_option maxRecDepth 100000 in
set_option maxHeartbeats 4000000 in
theorem own_eqrule (r s : Ru) (v v2 : Value) (b b2 : List Nat) (w : World) (hv : RuIs w v r b) (hv2 : RuIs w v2 s b2) (hb : exSize r.body ≤ 1099511627776) (hfr : ∀ x ∈ b ++ b2, ∀ o, w.frozen? ⟨x, o, none⟩ = false) :
    Calls Try.prog 93 #[v, v2] w (RetPost (.bool (ruEq r s)) w) := by
  obtain ⟨v1, v2, u, e1, e2, e3, rfl, -, -, rfl, hs1, hs2, hs3⟩ := hv
  obtain ⟨z1, z2, y, f1, f2, f3, rfl, -, -, rfl, ht1, ht2, ht3⟩ := hv2
  have hf3 : ∀ x ∈ e3 ++ f3, ∀ o, w.frozen? ⟨x, o, none⟩ = false := fun x hx => hfr x (by
    simp only [List.mem_append] at hx ⊢
    rcases hx with hx | hx
    · exact Or.inl (Or.inr (Or.inr hx))
    · exact Or.inr (Or.inr (Or.inr hx)))
  have HV1 := Lib.hid (fun (W : World) (hb : Below w.heap.size w W) => own_sleq r.vars s.vars v1 z1 e1 f1 W (hs1.below hb) (ht1.below hb))
  have HV2 := Lib.hid (fun (W : World) (hb : Below w.heap.size w W) => own_sleq r.params s.params v2 z2 e2 f2 W (hs2.below hb) (ht2.below hb))
  have HV3 := Lib.hid (fun (W : World) (hbw : Below w.heap.size w W) => own_equal r.body s.body _ _ e3 f3 W (hs3.below hbw) (ht3.below hbw) hb (fun x hx o => by
    by_cases hl : x < w.heap.size
    · exact (hbw.frozen (p := ⟨x, o, none⟩) hl).trans (hf3 x hx o)
    · exfalso
      rcases List.mem_append.1 hx with hx | hx
      · exact hl (ru_lt hs3 x hx)
      · exact hl (ru_lt ht3 x hx)))
  obtain ⟨X1, i1, rfl⟩ := hs1.slice
  obtain ⟨X2, i2, rfl⟩ := hs2.slice
  obtain ⟨X4, i4, rfl⟩ := ht1.slice
  obtain ⟨X5, i5, rfl⟩ := ht2.slice
  obtain ⟨X3, n3, i3, rfl⟩ := his_slice0 hs3
  obtain ⟨X6, n6, i6, rfl⟩ := his_slice0 ht3
  have HRE := Lib.hid (show ruEq r s = (decide (r.name = s.name) && (decide (r.con = s.con) && (textsEq r.vars s.vars && (textsEq r.params s.params && exEq r.body s.body)))) from rfl)
  obtain ⟨nv1, hnv1⟩ : ∃ x, x = r.vars.length := ⟨_, rfl⟩
  obtain ⟨nv2, hnv2⟩ : ∃ x, x = r.params.length := ⟨_, rfl⟩
  obtain ⟨nv4, hnv4⟩ : ∃ x, x = s.vars.length := ⟨_, rfl⟩
  obtain ⟨nv5, hnv5⟩ : ∃ x, x = s.params.length := ⟨_, rfl⟩
  rw [← hnv1, ← hnv4] at HV1
  rw [← hnv2, ← hnv5] at HV2
  rw [← hnv1, ← hnv2, ← hnv4, ← hnv5]
  clear hs1 hs2 hs3 ht1 ht2 ht3 hnv1 hnv2 hnv4 hnv5 hfr hf3 hb
  generalize r.name = N1 at *
  generalize r.con = C1 at *
  generalize r.body.kind = K1 at *
  generalize r.body.name = S1 at *
  generalize s.name = N2 at *
  generalize s.con = C2 at *
  generalize s.body.kind = K2 at *
  generalize s.body.name = S2 at *
  have HBB := Lib.hid (((Below.refl w.heap.size w).alloc (Nat.le_refl _) (.cells #[.string N1, .string C1, .slice X1 nv1 i1, .slice X2 nv2 i2, .int .i64 K1, .string S1, .slice X3 n3 i3] 110)).alloc (by simp) (.cells #[.string N2, .string C2, .slice X4 nv4 i4, .slice X5 nv5 i5, .int .i64 K2, .string S2, .slice X6 n6 i6] 110))
  generalize textsEq r.vars s.vars = t1 at *
  generalize textsEq r.params s.params = t2 at *
  generalize exEq r.body s.body = t3 at *
  have HE2 := Lib.hid (show ∀ a b : Bool, decide (N1 = N2) = a → decide (C1 = C2) = b → ruEq r s = (a && (b && (t1 && (t2 && t3)))) from fun a b h1 h2 => by rw [HRE.out, h1, h2])
  go_enter Try.func93, Try.ntmps93
  by_cases hx : N1 = N2
  · have hbe := beq_yes hx
    have HX := Lib.hid (decide_eq_true hx)
    clear hx
    by_cases hy : C1 = C2
    · have hbc := beq_yes hy
      have HY := Lib.hid (decide_eq_true hy)
      clear hy
      have HE := Lib.hid (HE2.out _ _ HX.out HY.out)
      cases t1
      · go_wp2_with fail
        go_at_call 141
        refine (HV1.out _ HBB.out).mono ?_
        rintro e w1 ⟨rfl, hb1⟩
        obtain ⟨-, -, hl1⟩ := two_boxes hb1
        have HL1 := Lib.hid hl1
        clear hb1 hl1
        go_wp2_with fail
        go_ret
        exact ⟨by rw [HE.out]; rfl, HL1.out⟩
      · go_wp2_with fail
        go_at_call 141
        refine (HV1.out _ HBB.out).mono ?_
        rintro e w1 ⟨rfl, hb1⟩
        have HC1 := Lib.hid hb1
        obtain ⟨pa, pb, hl1⟩ := two_boxes hb1
        obtain ⟨-, -, -, d3, d4, d5, d6⟩ := pa.cells
        obtain ⟨-, -, -, g3, g4, g5, g6⟩ := pb.cells
        have HL1 := Lib.hid hl1
        clear hb1 pa pb hl1
        cases t2
        · go_wp2_with fail
          go_at_call 141
          refine (HV2.out _ HL1.out).mono ?_
          rintro e w2 ⟨rfl, hb2⟩
          obtain ⟨-, -, hl2⟩ := two_boxes (HC1.out.trans (hb2.mono HC1.out.size))
          have HL2 := Lib.hid hl2
          clear hb2 hl2
          go_wp2_with fail
          go_ret
          exact ⟨by rw [HE.out]; rfl, HL2.out⟩
        · go_wp2_with fail
          go_at_call 141
          refine (HV2.out _ HL1.out).mono ?_
          rintro e w2 ⟨rfl, hb2⟩
          have HC2 := Lib.hid (HC1.out.trans (hb2.mono HC1.out.size))
          obtain ⟨pa, pb, hl2⟩ := two_boxes HC2.out
          obtain ⟨-, -, -, -, d4', d5', d6'⟩ := pa.cells
          obtain ⟨-, -, -, -, g4', g5', g6'⟩ := pb.cells
          have HL2 := Lib.hid hl2
          clear hb2 pa pb hl2
          go_wp2_with fail
          go_at_call 26
          refine (HV3.out _ HL2.out).mono ?_
          rintro e w3 ⟨rfl, hb3⟩
          have HL3 := Lib.hid (HL2.out.trans (hb3.mono HL2.out.size))
          clear hb3
          go_wp2_with fail
          go_ret
          exact ⟨by rw [HE.out]; simp, HL3.out⟩
    · have hbc := beq_no hy
      have HE := Lib.hid (HE2.out _ _ HX.out (decide_eq_false hy))
      clear hy
      go_wp2_with fail
      go_ret
      exact ⟨by rw [HE.out]; simp, HBB.out⟩
  · have hbe := beq_no hx
    have HE := Lib.hid (HE2.out _ _ (decide_eq_false hx) rfl)
    clear hx
    go_wp2_with fail
    go_ret
    exact ⟨by rw [HE.out]; simp, HBB.out⟩

set_option maxRecDepth 100000 in
set_option maxHeartbeats 4000000 in
theorem own_eqfunc (l m : List Ru) (v v2 : Value) (bs b2 : List Nat) (w : World) (hv : RsIs w v l bs) (hv2 : RsIs w v2 m b2) (hb : ∀ r ∈ l, exSize r.body ≤ 1099511627776) (hfr : ∀ x ∈ bs ++ b2, x < w.heap.size ∧ ∀ o, w.frozen? ⟨x, o, none⟩ = false) :
    Calls Try.prog 92 #[v, v2, .func (.func 93) #[] #[]] w (RetPost (.bool (eqR l m)) w) := by
  obtain ⟨A, c, rfl, hc1, hc2, -⟩ := id hv
  obtain ⟨A2, c2, rfl, hc3, hc4, -⟩ := id hv2
  obtain ⟨n, hn⟩ : ∃ n, n = l.length := ⟨_, rfl⟩
  obtain ⟨q, hq⟩ : ∃ q, q = m.length := ⟨_, rfl⟩
  rw [← hn] at hc1 hv ⊢
  rw [← hq] at hc3 hv2 ⊢
  have HU := Lib.hid hv
  have HU2 := Lib.hid hv2
  have HN := Lib.hid hn
  have HM := Lib.hid hq
  have HBD := Lib.hid hb
  have HFR := Lib.hid hfr
  clear hv hv2 hn hq hb hfr
  by_cases hne : n = q
  · subst hne
    have HE := Lib.hid (show eqR l m = eqR (l.drop 0) (m.drop 0) from rfl)
    go_enter Try.func92, Try.ntmps92
    go_wp2_with fail
    go_loopw [17] (fun i wr => ∃ (k : Nat), k ≤ n ∧ i = .int .i64 (k : Int) ∧ Hid (eqR l m = eqR (l.drop k) (m.drop k)) ∧ Hid (Below w.heap.size w wr)) (fun i _ => n - (intOf i).toNat)
    case atStart => exact ⟨0, Nat.zero_le _, rfl, HE, Lib.hid (Below.refl _ _)⟩
    case round =>
      obtain ⟨k, hk, rfl, HK, HB⟩ := hrel
      by_cases hlt : k < n
      · obtain ⟨g, o, r, v1, v2, u, b1, hA, hsub⟩ := HU.out.get2 k (by rw [← HN.out]; exact hlt)
        obtain ⟨h, p, s, z1, z2, y, b3, hA2, hsub2⟩ := HU2.out.get2 k (by rw [← HM.out]; exact hlt)
        obtain rfl := hA.eq
        obtain rfl := hA2.eq
        have HG := Lib.hid (show eqR (l.drop k) (m.drop k) = (ruEq r s && eqR (l.drop (k + 1)) (m.drop (k + 1))) from eqR_here hA.get hA2.get)
        obtain ⟨c0, c1, c2', c3, c4, c5, c6⟩ := hA.cells.of (w' := wr) (fun mm _ _ => HB.out.cell (p := ⟨g, mm, none⟩) hA.lt)
        obtain ⟨k0, k1, k2, k3, k4, k5, k6⟩ := hA2.cells.of (w' := wr) (fun mm _ _ => HB.out.cell (p := ⟨h, mm, none⟩) hA2.lt)
        have hwz := HB.out.size
        have hgl : g < wr.heap.size := Nat.lt_of_lt_of_le hA.lt hwz
        have hhl : h < wr.heap.size := Nat.lt_of_lt_of_le hA2.lt hwz
        have HCL := Lib.hid (fun (W : World) (hbw : Below wr.heap.size wr W) => own_eqrule r s _ _ b1 b3 W ((hA.is.below HB.out).below hbw) ((hA2.is.below HB.out).below hbw) (HBD.out r hA.mem) (fun x hx o => by
          have h9 := HFR.out x (by
            rcases List.mem_append.1 hx with hx | hx
            · exact List.mem_append_left _ (hsub x hx)
            · exact List.mem_append_right _ (hsub2 x hx))
          exact ((hbw.frozen (p := ⟨x, o, none⟩) (Nat.lt_of_lt_of_le h9.1 hwz)).trans (HB.out.frozen (p := ⟨x, o, none⟩) h9.1)).trans (h9.2 o)))
        obtain ⟨q1, q2, q3, -, -, -, hs1, hs2, hs3⟩ := hA.is.parts
        obtain ⟨q4, q5, q6, -, -, -, ht1, ht2, ht3⟩ := hA2.is.parts
        obtain ⟨X1, i1, rfl⟩ := hs1.slice
        obtain ⟨X2, i2, rfl⟩ := hs2.slice
        obtain ⟨X4, i4, rfl⟩ := ht1.slice
        obtain ⟨X5, i5, rfl⟩ := ht2.slice
        obtain ⟨X3, n3, i3, rfl⟩ := his_slice0 hs3
        obtain ⟨X6, n6, i6, rfl⟩ := his_slice0 ht3
        clear hs1 hs2 hs3 ht1 ht2 ht3 hA hA2 hsub hsub2 hwz
        have hk0 : (0 : Int) ≤ (k : Int) := by omega
        have hkn : (k : Int) < (n : Int) := by omega
        have HBB := Lib.hid (((Below.refl wr.heap.size wr).alloc (Nat.le_refl _) (.cells #[.string r.name, .string r.con, .slice X1 r.vars.length i1, .slice X2 r.params.length i2, .int .i64 r.body.kind, .string r.body.name, .slice X3 n3 i3] 110)).alloc (by simp) (.cells #[.string s.name, .string s.con, .slice X4 s.vars.length i4, .slice X5 s.params.length i5, .int .i64 s.body.kind, .string s.body.name, .slice X6 n6 i6] 110))
        cases hre : ruEq r s
        · have HE2 := Lib.hid (show eqR l m = false by rw [HK.out, HG.out, hre, Bool.false_and])
          rw [hre] at HCL
          clear hre
          go_wp2_with fail
          go_at_call 93
          refine (HCL.out _ HBB.out).mono ?_
          rintro e w1 ⟨rfl, hb1⟩
          obtain ⟨-, -, hl1⟩ := two_boxes hb1
          have HL1 := Lib.hid hl1
          clear hb1 hl1
          go_wp2_with fail
          go_ret
          exact ⟨by rw [HE2.out]; rfl, HB.out.trans (HL1.out.mono HB.out.size)⟩
        · have HE2 := Lib.hid (show eqR l m = eqR (l.drop (k + 1)) (m.drop (k + 1)) by rw [HK.out, HG.out, hre, Bool.true_and])
          rw [hre] at HCL
          clear hre
          go_wp2_with fail
          go_at_call 93
          refine (HCL.out _ HBB.out).mono ?_
          rintro e w1 ⟨rfl, hb1⟩
          obtain ⟨-, -, hl1⟩ := two_boxes hb1
          have HL1 := Lib.hid hl1
          clear hb1 hl1
          go_wp2_with fail
          go_roundw
          case rel => exact ⟨k + 1, by omega, by go_num, HE2, Lib.hid (HB.out.trans (HL1.out.mono HB.out.size))⟩
          case measure => simp [intOf]; omega
      · have HE2 := Lib.hid (show eqR l m = true by rw [HK.out, List.drop_eq_nil_of_le (by rw [← HN.out]; omega), List.drop_eq_nil_of_le (by rw [← HM.out]; omega)]; rfl)
        go_wp2_with fail
        go_ret
        exact ⟨by rw [HE2.out]; rfl, HB.out⟩
  · have HE := Lib.hid (show eqR l m = false from eqR_len l m (by rw [← HN.out, ← HM.out]; exact hne))
    have hne2 : ((n : Int) != (q : Int)) = true := by simp; omega
    clear hne
    go_enter Try.func92, Try.ntmps92
    go_wp2_with fail
    go_ret
    exact ⟨by rw [HE.out]; rfl, Below.refl _ _⟩

set_option maxHeartbeats 1000000 in
theorem own_equalp (l m : List Ru) (v v2 : Value) (bs b2 : List Nat) (w : World) (hv : PrIs w v l bs) (hv2 : PrIs w v2 m b2) (hb : ∀ r ∈ l, exSize r.body ≤ 1099511627776) (hfr : ∀ x ∈ bs ++ b2, x < w.heap.size ∧ ∀ o, w.frozen? ⟨x, o, none⟩ = false) :
    Calls Try.prog 47 #[v, v2] w (RetPost (.bool (eqR l m)) w) := by
  obtain ⟨u, rfl, hu⟩ := hv
  obtain ⟨A, c, rfl, hc1, hc2, -⟩ := id hu
  obtain ⟨u2, rfl, hu2⟩ := hv2
  obtain ⟨A2, c2, rfl, hc3, hc4, -⟩ := id hu2
  have hb0 : Below w.heap.size w ((w.alloc (.cells #[.slice A l.length c] 53)).alloc (.cells #[.slice A2 m.length c2] 53)) := ((Below.refl w.heap.size w).alloc (Nat.le_refl _) _).alloc (by simp) _
  have HC := Lib.hid (own_eqfunc l m _ _ bs b2 _ (hu.below hb0) (hu2.below hb0) hb (fun x hx => ⟨Nat.lt_of_lt_of_le (hfr x hx).1 hb0.size, fun o => (hb0.frozen (p := ⟨x, o, none⟩) (hfr x hx).1).trans ((hfr x hx).2 o)⟩))
  have HB0 := Lib.hid hb0
  clear hu hu2 hb0 hfr hb
  generalize l.length = n at *
  generalize m.length = q at *
  go_enter Try.func47, Try.ntmps47
  go_wp2_with fail
  go_at_call 92
  refine HC.out.mono ?_
  rintro e w1 ⟨rfl, hb1⟩
  have HB1 := Lib.hid (HB0.out.trans (hb1.mono HB0.out.size))
  clear hb1
  go_wp2_with fail
  go_ret
  exact ⟨rfl, HB1.out⟩
end Go.Proofs.Ytmndlhbgacgnlaa
