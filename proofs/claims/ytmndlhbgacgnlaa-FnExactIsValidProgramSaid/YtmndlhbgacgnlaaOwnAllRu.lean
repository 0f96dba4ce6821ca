/- The contracts of the program's own allRules, with each of its two functions. Condition: nodes and letters of the program together at most 1048576. -/
import Derived.Test.YtmndlhbgacgnlaaOwnAlone2
import Derived.Test.YtmndlhbgacgnlaaOwnRule
namespace Go.Proofs.Ytmndlhbgacgnlaa
open Go Go.RowKit

set_option maxRecDepth 100000 in
set_option maxHeartbeats 4000000 in
theorem own_all1 (l : List Ru) (v : Value) (bs : List Nat) (w : World) (hv : PrIs w v l bs) (hz : rusTot l ≤ 1048576) :
    Calls Try.prog 87 #[v, .func (.func 88) #[] #[]] w (RetPost (.bool (l.all (aloneOk))) w) := by
  have hll := rusTot_ge l
  have HCALL := Lib.hid (fun (r : Ru) (hm : r ∈ l) (v2 : Value) (b2 : List Nat) (W : World) (hW : Below w.heap.size w W) (h2 : RuIs W v2 r b2) => own_alone r v2 b2 W h2 (by have := rusTot_mem hm; omega))
  obtain ⟨u, rfl, hu⟩ := id hv
  obtain ⟨A, c, rfl, hc1, hc2, -⟩ := id hu
  obtain ⟨m, hm⟩ : ∃ m, m = l.length := ⟨_, rfl⟩
  have HU := Lib.hid hu
  rw [← hm] at hc1 HU hll ⊢
  have HM := Lib.hid hm
  have HB0 := Lib.hid ((Below.refl w.heap.size w).alloc (Nat.le_refl _) (.cells #[.slice A m c] 53))
  have HBX := Lib.hid (fun (W : World) (h : Below (w.alloc (.cells #[.slice A m c] 53)).heap.size (w.alloc (.cells #[.slice A m c] 53)) W) => pbox h)
  have HV := Lib.hid (show l.all (aloneOk) = (l.drop 0).all (aloneOk) from rfl)
  have hmi : (m : Int) ≤ 1048576 := by omega
  clear hu hm hv hz
  generalize l.all (aloneOk) = R at *
  go_enter Try.func87, Try.ntmps87
  go_wp2_with fail
  go_loopw [10] (fun i wr => ∃ (k : Nat), k ≤ m ∧ i = .int .i64 (k : Int) ∧ Hid (R = (l.drop k).all (aloneOk)) ∧ Hid (Below (w.alloc (.cells #[.slice A m c] 53)).heap.size (w.alloc (.cells #[.slice A m c] 53)) wr)) (fun i _ => m - (intOf i).toNat)
  case atStart => exact ⟨0, Nat.zero_le _, rfl, HV, Lib.hid (Below.refl _ _)⟩
  case round =>
    obtain ⟨k, hk, rfl, HK, HB⟩ := hrel
    have x0 := HBX.out wr HB.out
    have HL := Lib.hid (HB0.out.trans (HB.out.mono HB0.out.size))
    by_cases hlt : k < m
    · obtain ⟨g, o, r, v1, v2, y, b, hA⟩ := (HU.out.below HL.out).get k (by rw [← HM.out]; exact hlt)
      obtain rfl := hA.eq
      obtain ⟨e0, e1, e2, e3, e4, e5, e6⟩ := hA.cells
      obtain ⟨b1, b2, b3, -, -, -, h3, h4, h5⟩ := hA.is.parts
      obtain ⟨A1, c1, rfl⟩ := h3.slice
      obtain ⟨A2, c2, rfl⟩ := h4.slice
      obtain ⟨A3, q3, c3, rfl⟩ := his_slice0 h5
      have hlo2 : Below wr.heap.size wr (wr.alloc (.cells #[.string r.name, .string r.con, .slice A1 r.vars.length c1, .slice A2 r.params.length c2, .int .i64 r.body.kind, .string r.body.name, .slice A3 q3 c3] 110)) := (Below.refl _ wr).alloc (Nat.le_refl _) _
      have HC2 := Lib.hid (HCALL.out r hA.mem _ b (wr.alloc (.cells #[.string r.name, .string r.con, .slice A1 r.vars.length c1, .slice A2 r.params.length c2, .int .i64 r.body.kind, .string r.body.name, .slice A3 q3 c3] 110)) (HL.out.trans (hlo2.mono HL.out.size)) (hA.is.below hlo2))
      have HB2 := Lib.hid (HB.out.trans (hlo2.mono HB.out.size))
      have HD := Lib.hid (show (l.drop k).all (aloneOk) = ((aloneOk) r && (l.drop (k + 1)).all (aloneOk)) by
        obtain ⟨h1, h2⟩ := List.getElem?_eq_some_iff.1 hA.get
        rw [List.drop_eq_getElem_cons h1, h2, List.all_cons])
      have hk0 : (0 : Int) ≤ (k : Int) := by omega
      have hkn : (k : Int) < (m : Int) := by omega
      clear hA h3 h4 h5 hlo2
      cases hx : (aloneOk) r
      · rw [hx] at HC2
        have HE := Lib.hid (show R = false by rw [HK.out, HD.out, hx]; rfl)
        clear hx
        go_wp2_with (go_at_call 88; refine HC2.out.mono ?_; rintro e w3 ⟨rfl, hb3⟩; have HB3 := Lib.hid (HB2.out.trans (hb3.mono HB2.out.size)); clear hb3)
        go_ret
        exact ⟨by rw [HE.out]; rfl, HB0.out.trans (HB3.out.mono HB0.out.size)⟩
      · rw [hx] at HC2
        have HE := Lib.hid (show R = (l.drop (k + 1)).all (aloneOk) by rw [HK.out, HD.out, hx, Bool.true_and])
        clear hx
        go_wp2_with (go_at_call 88; refine HC2.out.mono ?_; rintro e w3 ⟨rfl, hb3⟩; have HB3 := Lib.hid (HB2.out.trans (hb3.mono HB2.out.size)); clear hb3)
        go_roundw
        case rel => exact ⟨k + 1, by omega, by go_num, HE, HB3⟩
        case measure => simp [intOf]; omega
    · have HE := Lib.hid (show R = true by rw [HK.out, List.drop_eq_nil_of_le (by rw [← HM.out]; omega)]; rfl)
      go_wp2
      go_ret
      exact ⟨by rw [HE.out]; rfl, HL.out⟩

set_option maxRecDepth 100000 in
set_option maxHeartbeats 4000000 in
theorem own_all2 (l : List Ru) (v : Value) (bs : List Nat) (mb mb2 : Nat) (M1 M2 : List (Value × Value)) (wq : World) (xs : List (Rt wq)) (G : List Cn) (w : World) (hv : PrIs w v l bs) (hz : rusTot l ≤ 1048576) (hd : DemIs l w mb mb2 M1 M2 wq xs G) :
    Calls Try.prog 87 #[v, .func (.func 90) #[.agg #[.map (some mb), .map (some mb2)]] #[]] w (RetPost (.bool (l.all (metOk l))) w) := by
  have hll := rusTot_ge l
  have HCALL := Lib.hid (fun (r : Ru) (hm : r ∈ l) (v2 : Value) (b2 : List Nat) (W : World) (hW : Below w.heap.size w W) (h2 : RuIs W v2 r b2) => own_rule l r hm v2 b2 mb mb2 M1 M2 wq xs G W h2 (by have := rusTot_mem hm; omega) (fun q hq => by have := rusTot_mem hq; unfold ruTot ssTot at this; omega) (hd.below hW))
  obtain ⟨u, rfl, hu⟩ := id hv
  obtain ⟨A, c, rfl, hc1, hc2, -⟩ := id hu
  obtain ⟨m, hm⟩ : ∃ m, m = l.length := ⟨_, rfl⟩
  have HU := Lib.hid hu
  rw [← hm] at hc1 HU hll ⊢
  have HM := Lib.hid hm
  have HB0 := Lib.hid ((Below.refl w.heap.size w).alloc (Nat.le_refl _) (.cells #[.slice A m c] 53))
  have HBX := Lib.hid (fun (W : World) (h : Below (w.alloc (.cells #[.slice A m c] 53)).heap.size (w.alloc (.cells #[.slice A m c] 53)) W) => pbox h)
  have HV := Lib.hid (show l.all (metOk l) = (l.drop 0).all (metOk l) from rfl)
  have hmi : (m : Int) ≤ 1048576 := by omega
  clear hu hm hv hz
  generalize l.all (metOk l) = R at *
  go_enter Try.func87, Try.ntmps87
  go_wp2_with fail
  go_loopw [10] (fun i wr => ∃ (k : Nat), k ≤ m ∧ i = .int .i64 (k : Int) ∧ Hid (R = (l.drop k).all (metOk l)) ∧ Hid (Below (w.alloc (.cells #[.slice A m c] 53)).heap.size (w.alloc (.cells #[.slice A m c] 53)) wr)) (fun i _ => m - (intOf i).toNat)
  case atStart => exact ⟨0, Nat.zero_le _, rfl, HV, Lib.hid (Below.refl _ _)⟩
  case round =>
    obtain ⟨k, hk, rfl, HK, HB⟩ := hrel
    have x0 := HBX.out wr HB.out
    have HL := Lib.hid (HB0.out.trans (HB.out.mono HB0.out.size))
    by_cases hlt : k < m
    · obtain ⟨g, o, r, v1, v2, y, b, hA⟩ := (HU.out.below HL.out).get k (by rw [← HM.out]; exact hlt)
      obtain rfl := hA.eq
      obtain ⟨e0, e1, e2, e3, e4, e5, e6⟩ := hA.cells
      obtain ⟨b1, b2, b3, -, -, -, h3, h4, h5⟩ := hA.is.parts
      obtain ⟨A1, c1, rfl⟩ := h3.slice
      obtain ⟨A2, c2, rfl⟩ := h4.slice
      obtain ⟨A3, q3, c3, rfl⟩ := his_slice0 h5
      have hlo2 : Below wr.heap.size wr (wr.alloc (.cells #[.string r.name, .string r.con, .slice A1 r.vars.length c1, .slice A2 r.params.length c2, .int .i64 r.body.kind, .string r.body.name, .slice A3 q3 c3] 110)) := (Below.refl _ wr).alloc (Nat.le_refl _) _
      have HC2 := Lib.hid (HCALL.out r hA.mem _ b (wr.alloc (.cells #[.string r.name, .string r.con, .slice A1 r.vars.length c1, .slice A2 r.params.length c2, .int .i64 r.body.kind, .string r.body.name, .slice A3 q3 c3] 110)) (HL.out.trans (hlo2.mono HL.out.size)) (hA.is.below hlo2))
      have HB2 := Lib.hid (HB.out.trans (hlo2.mono HB.out.size))
      have HD := Lib.hid (show (l.drop k).all (metOk l) = ((metOk l) r && (l.drop (k + 1)).all (metOk l)) by
        obtain ⟨h1, h2⟩ := List.getElem?_eq_some_iff.1 hA.get
        rw [List.drop_eq_getElem_cons h1, h2, List.all_cons])
      have hk0 : (0 : Int) ≤ (k : Int) := by omega
      have hkn : (k : Int) < (m : Int) := by omega
      clear hA h3 h4 h5 hlo2
      cases hx : (metOk l) r
      · rw [hx] at HC2
        have HE := Lib.hid (show R = false by rw [HK.out, HD.out, hx]; rfl)
        clear hx
        go_wp2_with (go_at_call 90; refine HC2.out.mono ?_; rintro e w3 ⟨rfl, hb3⟩; have HB3 := Lib.hid (HB2.out.trans (hb3.mono HB2.out.size)); clear hb3)
        go_ret
        exact ⟨by rw [HE.out]; rfl, HB0.out.trans (HB3.out.mono HB0.out.size)⟩
      · rw [hx] at HC2
        have HE := Lib.hid (show R = (l.drop (k + 1)).all (metOk l) by rw [HK.out, HD.out, hx, Bool.true_and])
        clear hx
        go_wp2_with (go_at_call 90; refine HC2.out.mono ?_; rintro e w3 ⟨rfl, hb3⟩; have HB3 := Lib.hid (HB2.out.trans (hb3.mono HB2.out.size)); clear hb3)
        go_roundw
        case rel => exact ⟨k + 1, by omega, by go_num, HE, HB3⟩
        case measure => simp [intOf]; omega
    · have HE := Lib.hid (show R = true by rw [HK.out, List.drop_eq_nil_of_le (by rw [← HM.out]; omega)]; rfl)
      go_wp2
      go_ret
      exact ⟨by rw [HE.out]; rfl, HL.out⟩
end Go.Proofs.Ytmndlhbgacgnlaa
