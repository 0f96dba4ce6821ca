/- The contract of the laws' look at the marks in an expression's memory. Condition: fewer than 2^38 nodes. -/
import Derived.Test.YtegigjnlecpplaaExMark
import Derived.Deep.RegionHeld3
namespace Go.Proofs.Ytegigjnlecpplaa
open Go Go.RowKit

theorem mkExs_get : ∀ (l : List Ex) (M : Int) (k : Nat) (e : Ex), l[k]? = some e → (mkExs M l)[k]? = some (mkEx (M + 2 * (exSizes (l.take k) : Int)) e) := by
  intro l
  induction l with
  | nil => intro M k e h; simp at h
  | cons x r ih =>
    intro M k e h
    rw [mkExs]
    cases k with
    | zero =>
      simp at h
      subst h
      simp [exSizes]
    | succ k =>
      rw [List.getElem?_cons_succ, ih _ k e (by simpa using h), List.take_succ_cons, exSizes]
      congr 2
      omega
def HeldEnd (M : Int) (l : List Ex) (w : World) (r : Ending) (w' : World) : Prop := r = .returned (.int .i64 (M + 2 * (exSizes l : Int))) ∧ Below w.heap.size w w'

set_option maxHeartbeats 4000000 in
theorem held_exs (n : Nat) : ∀ (l : List Ex) (v : Value) (bs : List Nat) (w : World) (M : Int), exSizes l ≤ n → SlIs w v (mkExs M l) bs → 1 ≤ M → M + 2 * (exSizes l : Int) ≤ 4398046511104 →
    Calls Try.prog 68 #[v, .int .i64 M] w (HeldEnd M l w) := by
  induction n with
  | zero =>
    intro l v bs w M hle hv hM0 hM1
    cases l with
    | cons e r => rw [exSizes] at hle; have := exSize_pos e; omega
    | nil =>
      obtain ⟨A, c, rfl, hc1, hc2, -⟩ := hv
      go_enter Try.func68, Try.ntmps68
      go_wp2_with fail
      go_loopw [1, 5] (fun m i wr => m = .int .i64 M ∧ i = .int .i64 0 ∧ w = wr) (fun _ _ _ => 0)
      case atStart => exact ⟨rfl, rfl, rfl⟩
      case round =>
        obtain ⟨rfl, rfl, rfl⟩ := hrel
        go_wp2_with fail
        go_ret
        exact ⟨by simp [exSizes], Below.refl _ _⟩
  | succ n ih =>
    intro l v bs w M hle hv hM0 hM1
    obtain ⟨A, c, rfl, hc1, hc2, -⟩ := id hv
    rw [mkExs_len] at hc1 hv ⊢
    obtain ⟨m, hm⟩ : ∃ m, m = l.length := ⟨_, rfl⟩
    rw [← hm] at hc1 hv ⊢
    have HM := Lib.hid hm
    have HN := Lib.hid hle
    have HIH := Lib.hid ih
    have HB1 := Lib.hid hM1
    have HV := Lib.hid hv
    have hc3 : (m : Int) ≤ 9223372036854775807 := by omega
    clear hm hle ih hv hM1
    go_enter Try.func68, Try.ntmps68
    go_wp2_with fail
    go_loopw [1, 5] (fun mm i wr => ∃ (k : Nat) (z : Int), k ≤ m ∧ i = .int .i64 (k : Int) ∧ mm = .int .i64 z ∧ 1 ≤ z ∧ z ≤ 4398046511104 ∧ Hid (z = M + 2 * (exSizes (l.take k) : Int)) ∧ Hid (Below w.heap.size w wr)) (fun _ i _ => m - (intOf i).toNat)
    case atStart => exact ⟨0, M, Nat.zero_le _, rfl, rfl, hM0, by have := HB1.out; omega, Lib.hid (by simp [exSizes]), Lib.hid (Below.refl _ _)⟩
    case round =>
      obtain ⟨k, z, hk, rfl, rfl, hz0, hz1, HZ, HB⟩ := hrel
      by_cases hlt : k < m
      · have hkl : k < l.length := by rw [← HM.out]; exact hlt
        obtain ⟨e, hget⟩ : ∃ e, l[k]? = some e := ⟨_, List.getElem?_eq_getElem hkl⟩
        obtain ⟨g, o, e2, u, b1, rfl, hbl, hget2, -, q0, q1, q2, his, -⟩ := (HV.out.below HB.out).get k (by rw [mkExs_len]; exact hkl)
        rw [mkExs_get l M k e hget, ← HZ.out] at hget2
        obtain rfl := Option.some.inj hget2
        have he : mkEx z e = .mk z (mt (z + 1)) (mkExs (z + 2) e.args) := by cases e; rfl
        rw [he] at q0 q1 his
        obtain ⟨u', eu, -, hu⟩ := his
        obtain rfl : u = u' := by simpa using eu
        have q0' : wr.cell? ⟨g, o + k * 3, none⟩ = some (.int .i64 z) := q0
        have q1' : wr.cell? ⟨g, o + k * 3 + 1, none⟩ = some (.string (mt (z + 1))) := q1
        have HUU := Lib.hid (show SlIs wr u (mkExs (z + 2) e.args) b1 from hu)
        have HSN := Lib.hid (sizes_snoc2 l k e hget)
        have HTK := Lib.hid (sizes_take2 l (k + 1))
        have HES := Lib.hid (show exSize e = exSizes e.args + 1 by cases e; rfl)
        have HEM := Lib.hid (exSizes_mem (List.mem_of_getElem? hget))
        have hzb : z + 2 * (exSize e : Int) ≤ 4398046511104 := by
          have h1 := HZ.out
          have h2 := HSN.out
          have h3 := HTK.out
          have h4 := HB1.out
          omega
        have HZB := Lib.hid hzb
        have hp1 := exSize_pos e
        have HC := Lib.hid (fun (W : World) => mark_text (z + 1) (by omega) (by omega) W)
        have HCALL := Lib.hid (fun (W : World) (h : Hid (Below wr.heap.size wr W)) => HIH.out e.args _ b1 W (z + 1 + 1) (by have := HES.out; have := HEM.out; have := HN.out; omega) (by rw [show z + 1 + 1 = z + 2 by omega]; exact HUU.out.below h.out) (by omega) (by have := HES.out; have := HZB.out; omega))
        obtain ⟨A1, c1, hus, -, -, -⟩ := id HUU.out
        rw [mkExs_len] at hus
        generalize hS : mt (z + 1) = S at *
        clear hS q0 q1 he hu eu hget hzb hget2 
        generalize hq : e.args.length = q at *
        clear hq
        subst hus
        have H3 := Lib.hid (And.intro q1' q2)
        have hk0 : 0 ≤ (k : Int) := by omega
        have hkm : (k : Int) < (m : Int) := by omega
        go_wp2_with fail
        go_region_held3 (fun X => X.cell? ⟨g, o + k * 3 + 1, none⟩ = some (.string S) ∧ Hid (Below wr.heap.size wr X))
          (first | exact keep_start q1' | exact keep_step (a := ⟨g, o + k * 3 + 1, none⟩) hbl hb2 (by assumption))
          (first | (go_at_call 66; refine (HC.out _).mono ?_; rintro e w2 ⟨rfl, hb2⟩))
        all_goals
          have hx := ‹_ ∧ Hid (Below wr.heap.size wr w2)›
          have HX := Lib.hid (Lib.hid hx.2.out)
          have q3 : w2.cell? ⟨g, o + k * 3 + 2, none⟩ = some (.slice A1 q c1) := (hx.2.out.cell (p := ⟨g, o + k * 3 + 2, none⟩) hbl).trans q2
          clear hx
          go_wp2_with fail
          go_at_call 68
          refine (HCALL.out _ HX.out).mono ?_
          rintro r w4 ⟨rfl, hb4⟩
          have HB4 := Lib.hid (HB.out.trans ((HX.out.out.trans (hb4.mono HX.out.out.size)).mono HB.out.size))
          obtain ⟨z4, hz4⟩ : ∃ z4, z4 = z + 1 + 1 + 2 * (exSizes e.args : Int) := ⟨_, rfl⟩
          rw [← hz4]
          have HZ4 := Lib.hid (show z4 = M + 2 * (exSizes (l.take (k + 1)) : Int) by
            have h1 := HZ.out
            have h2 := HSN.out
            have h3 := HES.out
            omega)
          have hz41 : 1 ≤ z4 := by omega
          have hz42 : z4 ≤ 4398046511104 := by have := HZB.out; have := HES.out; omega
          have hz43 : decide (z4 < 0) = false := by simp; omega
          clear hz4 hb4 q0' q1' q2 q3
          go_wp2_with fail
          go_roundw
          case rel => exact ⟨k + 1, z4, by omega, by go_num, rfl, hz41, hz42, HZ4, HB4⟩
          case measure => simp [intOf]; omega
      · have HE := Lib.hid (show l.take k = l from List.take_of_length_le (by rw [← HM.out]; omega))
        have HEND := Lib.hid (show z = M + 2 * (exSizes l : Int) by have := HZ.out; rw [HE.out] at this; exact this)
        go_wp2_with fail
        go_ret
        exact ⟨by rw [← HEND.out]; rfl, HB.out⟩

set_option maxHeartbeats 1000000 in
theorem held_expr (e : Ex) (K : Int) (S : ByteArray) (v : Value) (bs : List Nat) (w : World) (M : Int) (hv : ExIs w v (.mk K S (mkExs M e.args)) bs) (h0 : 1 ≤ M) (h1 : M + 2 * (exSizes e.args : Int) ≤ 4398046511104) :
    Calls Try.prog 32 #[v, .int .i64 M] w (HeldEnd M e.args w) := by
  obtain ⟨u, rfl, hsz, hu⟩ := hv
  have hu' : SlIs w u (mkExs M e.args) bs := hu
  obtain ⟨A, c, rfl, -⟩ := id hu'
  have HB0 := Lib.hid ((Below.refl w.heap.size w).alloc (Nat.le_refl _) (.cells #[.int .i64 K, .string S, .slice A (mkExs M e.args).length c] 26))
  have HC := Lib.hid (held_exs (exSizes e.args) e.args _ bs _ M (Nat.le_refl _) (hu'.below HB0.out) h0 h1)
  obtain ⟨z, hz⟩ : ∃ z, z = M + 2 * (exSizes e.args : Int) := ⟨_, rfl⟩
  have HZ := Lib.hid hz
  have hz1 : 1 ≤ z := by omega
  have hzd : decide (z < 0) = false := by simp; omega
  generalize (mkExs M e.args).length = q at *
  clear hu hu' hsz h1 hz
  go_enter Try.func32, Try.ntmps32
  go_wp2_with fail
  go_at_call 68
  refine HC.out.mono ?_
  rintro r w1 ⟨rfl, hb1⟩
  rw [← HZ.out]
  have HB1 := Lib.hid (HB0.out.trans (hb1.mono HB0.out.size))
  clear hb1
  go_wp2_with fail
  go_ret
  exact ⟨by rw [← HZ.out]; rfl, HB1.out⟩
end Go.Proofs.Ytegigjnlecpplaa
