/- The contracts of the program's own methods hasNoFreeVars, hasRightParts and isRightAlone of a rule. Condition: nodes and letters of the rule together at most 1048576. -/
import Derived.Test.YtmndlhbgacgnlaaOwnAlone
namespace Go.Proofs.Ytmndlhbgacgnlaa
open Go Go.RowKit

set_option maxRecDepth 100000 in
set_option maxHeartbeats 4000000 in
theorem own_nofree (r : Ru) (v : Value) (b : List Nat) (w : World) (hv : RuIs w v r b) (hz : ruTot r ≤ 1048576) : Calls Try.prog 138 #[v] w (RetPost (.bool (within (exVars [] r.body) (r.vars ++ r.params))) w) := by
  obtain ⟨A1, A2, A3, c1, c2, q3, c3, b3, rfl, hop⟩ := ru_opened hv
  obtain ⟨W0, hW0⟩ : ∃ W0, W0 = w.alloc (.cells #[.string r.name, .string r.con, .slice A1 r.vars.length c1, .slice A2 r.params.length c2, .int .i64 r.body.kind, .string r.body.name, .slice A3 q3 c3] 110) := ⟨_, rfl⟩
  rw [← hW0] at hop
  have HP := Lib.hid hop
  have HW0 := Lib.hid hW0
  have HZ := Lib.hid hz
  have HRU := fun (W : World) (hW : Below W0.heap.size W0 W) => (hv.below hop.low).below hW
  have HARG := Lib.hid (fun (W : World) (hW : Below W0.heap.size W0 W) => show Calls Try.prog 162 #[.agg #[.string r.name, .string r.con, .slice A1 r.vars.length c1, .slice A2 r.params.length c2, .int .i64 r.body.kind, .string r.body.name, .slice A3 q3 c3]] W (StrsPost (r.vars ++ r.params) W) from own_args r _ _ W (HRU W hW) HZ.out)
  have HVARS := Lib.hid (fun (W : World) (hW : Below W0.heap.size W0 W) => own_vars r.body _ b3 W (HP.out.bd W hW) (by have := HZ.out; have := (tot_size _).1 r.body (Nat.le_refl _); unfold ruTot at *; omega))
  have HLA := Lib.hid (show (r.vars ++ r.params).length ≤ 140737488355328 by have := HZ.out; unfold ruTot ssTot at this; simp; omega)
  have HLV := Lib.hid (show (exVars [] r.body).length ≤ 1099511627776 by have h1 := (vars_len _).1 r.body [] (Nat.le_refl _); have := HZ.out; have := (tot_size _).1 r.body (Nat.le_refl _); unfold ruTot at *; simp at h1; omega)
  obtain ⟨x0, x1, x2, x3, x4, x5, x6⟩ := HP.out.box W0 (Below.refl _ _)
  clear hop hv hW0 hz HRU
  go_enter Try.func138, Try.ntmps138
  go_wp2_with fail
  rw [← HW0.out]
  go_at_call 162
  refine (HARG.out W0 (Below.refl _ _)).mono ?_
  rintro e w3 ⟨v3, rfl, ho3, hb3⟩
  obtain ⟨A8, c8, rfl, hc8, hst⟩ := owned_row ho3
  have HB3 := Lib.hid hb3
  obtain ⟨y0, y1, y2, y3, y4, y5, y6⟩ := HP.out.box w3 hb3
  have HIX := Lib.hid (fun (s : ByteArray) (W : World) (hW : Below w3.heap.size w3 W) => own_index A8 (r.vars ++ r.params) c8 s W (hst.below hW) HLA.out)
  generalize (r.vars ++ r.params) = zs at *
  generalize zs.length = mz at *
  clear ho3 hb3 hst hc8
  go_wp2_with fail
  go_at_call 18
  refine (HVARS.out w3 HB3.out).mono ?_
  rintro e w4 ⟨v4, rfl, ho4, hb4⟩
  obtain ⟨A9, c9, rfl, hc9, hst⟩ := owned_row ho4
  have HB4 := Lib.hid (hb4 : Below w3.heap.size w3 w4)
  have HG := Lib.hid (fun (k : Nat) (h : k < (exVars [] r.body).length) => hst.at_ k h)
  generalize (exVars [] r.body) = xs at *
  obtain ⟨m, hm⟩ : ∃ m, m = xs.length := ⟨_, rfl⟩
  rw [← hm] at HLV ⊢
  have HM := Lib.hid hm
  have hmi : (m : Int) ≤ 1099511627776 := by have := HLV.out; omega
  clear ho4 hb4 hst hc9 hm
  go_wp2_with fail
  go_loopw [12] (fun i wr => ∃ (k : Nat), k ≤ m ∧ i = .int .i64 (k : Int) ∧ Hid (within xs zs = within (xs.drop k) zs) ∧ Hid (Below w4.heap.size w4 wr)) (fun i _ => m - (intOf i).toNat)
  case atStart => exact ⟨0, Nat.zero_le _, rfl, Lib.hid rfl, Lib.hid (Below.refl _ _)⟩
  case round =>
    obtain ⟨k, hk, rfl, HK, HBR⟩ := hrel
    have HLO := Lib.hid (HP.out.low.trans ((HB3.out.trans ((HB4.out.trans (HBR.out.mono HB4.out.size)).mono HB3.out.size)).mono HP.out.low.size))
    by_cases hlt : k < m
    · obtain ⟨a, e1, hca0, hla⟩ := HG.out k (by rw [← HM.out]; exact hlt)
      have HGN := Lib.hid (within_here (xs := xs) (all := zs) (k := k) (List.getElem?_eq_getElem (by rw [← HM.out]; exact hlt)))
      subst e1
      generalize xs[k]'(by rw [← HM.out]; exact hlt) = x at *
      have hca : wr.cell? (a.add k) = some (.string x) := (HBR.out.cell (p := a.add k) (by rw [block_add]; exact hla)).trans hca0
      clear hca0
      have HCX := Lib.hid (HIX.out x wr (HB4.out.trans (HBR.out.mono HB4.out.size)))
      have hk0 : (0 : Int) ≤ (k : Int) := by omega
      have hkn : (k : Int) < (m : Int) := by omega
      by_cases hx : 0 ≤ idx zs x
      · have HE := Lib.hid (show within xs zs = within (xs.drop (k + 1)) zs by rw [HK.out, HGN.out, decide_eq_true hx, Bool.true_and])
        generalize idx zs x = z at *
        have hx3 : ¬ z < 0 := by omega
        go_wp2_with (go_at_call 163; refine HCX.out.mono ?_; rintro e w5 ⟨rfl, hb5⟩; have HB5 := Lib.hid (HBR.out.trans (hb5.mono HBR.out.size)); clear hb5)
        go_roundw
        case rel => exact ⟨k + 1, by omega, by go_num, HE, HB5⟩
        case measure => simp [intOf]; omega
      · have HE := Lib.hid (show within xs zs = false by rw [HK.out, HGN.out, decide_eq_false hx, Bool.false_and])
        generalize idx zs x = z at *
        have hx2 : z < 0 := by omega
        go_wp2_with (go_at_call 163; refine HCX.out.mono ?_; rintro e w5 ⟨rfl, hb5⟩; have HB5 := Lib.hid hb5; clear hb5)
        go_ret
        exact ⟨by rw [HE.out]; rfl, HLO.out.trans (HB5.out.mono HLO.out.size)⟩
    · have HE := Lib.hid (show within xs zs = true by rw [HK.out, List.drop_eq_nil_of_le (by rw [← HM.out]; omega)]; rfl)
      go_wp2
      go_ret
      exact ⟨by rw [HE.out]; rfl, HLO.out⟩

set_option maxRecDepth 100000 in
set_option maxHeartbeats 4000000 in
theorem own_parts (r : Ru) (v : Value) (b : List Nat) (w : World) (hv : RuIs w v r b) (hz : ruTot r ≤ 1048576) : Calls Try.prog 137 #[v] w (RetPost (.bool (rightParts r)) w) := by
  obtain ⟨A1, A2, A3, c1, c2, q3, c3, b3, rfl, hop⟩ := ru_opened hv
  obtain ⟨W0, hW0⟩ : ∃ W0, W0 = w.alloc (.cells #[.string r.name, .string r.con, .slice A1 r.vars.length c1, .slice A2 r.params.length c2, .int .i64 r.body.kind, .string r.body.name, .slice A3 q3 c3] 110) := ⟨_, rfl⟩
  rw [← hW0] at hop
  have HP := Lib.hid hop
  have HW0 := Lib.hid hW0
  have HZ := Lib.hid hz
  have HRU := fun (W : World) (hW : Below W0.heap.size W0 W) => (hv.below hop.low).below hW
  have HARG := Lib.hid (fun (W : World) (hW : Below W0.heap.size W0 W) => show Calls Try.prog 161 #[.agg #[.string r.name, .string r.con, .slice A1 r.vars.length c1, .slice A2 r.params.length c2, .int .i64 r.body.kind, .string r.body.name, .slice A3 q3 c3]] W (RetPost (.bool (rightArgs r)) W) from own_rightargs r _ _ W (HRU W hW) HZ.out)
  have HVAL := Lib.hid (fun (W : World) (hW : Below W0.heap.size W0 W) => own_valid r.body _ b3 W (HP.out.bd W hW) (by have := HZ.out; have := (tot_size _).1 r.body (Nat.le_refl _); unfold ruTot at *; omega))
  have HNAM := Lib.hid (own_isname r.name W0)
  have HE := Lib.hid (show rightParts r = (isNm r.name && (rightArgs r && exValid r.body)) from rfl)
  obtain ⟨x0, x1, x2, x3, x4, x5, x6⟩ := HP.out.box W0 (Below.refl _ _)
  clear hop hv hW0 hz HRU
  generalize rightParts r = R at *
  generalize hra : rightArgs r = ra at *
  generalize hve : exValid r.body = ve at *
  clear hra hve
  cases hn : isNm r.name
  · have HN := Lib.hid (show nameL 97 122 r.name.data.toList = false from hn)
    rw [hn, Bool.false_and] at HE
    clear hn
    go_enter Try.func137, Try.ntmps137
    go_wp2_with fail
    rw [← HW0.out]
    go_at_call 104
    refine HNAM.out.mono ?_
    rintro e w1 ⟨rfl, hb1⟩
    rw [HN.out]
    have HB1 := Lib.hid hb1
    clear hb1
    obtain ⟨y0, y1, y2, y3, y4, y5, y6⟩ := HP.out.box w1 HB1.out
    go_wp2_with fail
    go_ret
    exact ⟨by rw [HE.out]; rfl, HP.out.low.trans (HB1.out.mono HP.out.low.size)⟩
  · have HN := Lib.hid (show nameL 97 122 r.name.data.toList = true from hn)
    rw [hn, Bool.true_and] at HE
    clear hn
    cases ra
    · rw [Bool.false_and] at HE
      go_enter Try.func137, Try.ntmps137
      go_wp2_with fail
      rw [← HW0.out]
      go_at_call 104
      refine HNAM.out.mono ?_
      rintro e w1 ⟨rfl, hb1⟩
      rw [HN.out]
      have HB1 := Lib.hid hb1
      clear hb1
      obtain ⟨y0, y1, y2, y3, y4, y5, y6⟩ := HP.out.box w1 HB1.out
      go_wp2_with (first | (go_at_call 161; refine (HARG.out w1 HB1.out).mono ?_; rintro e w2 ⟨rfl, hb2⟩; have HB2 := Lib.hid (HB1.out.trans (hb2.mono HB1.out.size)); clear hb2; obtain ⟨z0, z1, z2, z3, z4, z5, z6⟩ := HP.out.box w2 HB2.out))
      go_ret
      exact ⟨by rw [HE.out]; rfl, HP.out.low.trans (HB2.out.mono HP.out.low.size)⟩
    · rw [Bool.true_and] at HE
      go_enter Try.func137, Try.ntmps137
      go_wp2_with fail
      rw [← HW0.out]
      go_at_call 104
      refine HNAM.out.mono ?_
      rintro e w1 ⟨rfl, hb1⟩
      rw [HN.out]
      have HB1 := Lib.hid hb1
      clear hb1
      obtain ⟨y0, y1, y2, y3, y4, y5, y6⟩ := HP.out.box w1 HB1.out
      go_wp2_with (first | (go_at_call 161; refine (HARG.out w1 HB1.out).mono ?_; rintro e w2 ⟨rfl, hb2⟩; have HB2 := Lib.hid (HB1.out.trans (hb2.mono HB1.out.size)); clear hb2; obtain ⟨z0, z1, z2, z3, z4, z5, z6⟩ := HP.out.box w2 HB2.out) | (go_at_call 15; refine (HVAL.out w2 HB2.out).mono ?_; rintro e w3 ⟨rfl, hb3⟩; have HB3 := Lib.hid (HB2.out.trans (hb3.mono HB2.out.size)); clear hb3))
      go_ret
      exact ⟨by rw [HE.out]; rfl, HP.out.low.trans (HB3.out.mono HP.out.low.size)⟩

set_option maxRecDepth 100000 in
set_option maxHeartbeats 4000000 in
theorem own_alone (r : Ru) (v : Value) (b : List Nat) (w : World) (hv : RuIs w v r b) (hz : ruTot r ≤ 1048576) : Calls Try.prog 88 #[v] w (RetPost (.bool (aloneOk r)) w) := by
  obtain ⟨A1, A2, A3, c1, c2, q3, c3, b3, rfl, hop⟩ := ru_opened hv
  obtain ⟨W0, hW0⟩ : ∃ W0, W0 = w.alloc (.cells #[.string r.name, .string r.con, .slice A1 r.vars.length c1, .slice A2 r.params.length c2, .int .i64 r.body.kind, .string r.body.name, .slice A3 q3 c3] 110) := ⟨_, rfl⟩
  rw [← hW0] at hop
  have HP := Lib.hid hop
  have HW0 := Lib.hid hW0
  have HZ := Lib.hid hz
  have HRU := fun (W : World) (hW : Below W0.heap.size W0 W) => (hv.below hop.low).below hW
  have HARG := Lib.hid (fun (W : World) (hW : Below W0.heap.size W0 W) => show Calls Try.prog 137 #[.agg #[.string r.name, .string r.con, .slice A1 r.vars.length c1, .slice A2 r.params.length c2, .int .i64 r.body.kind, .string r.body.name, .slice A3 q3 c3]] W (RetPost (.bool (rightParts r)) W) from own_parts r _ _ W (HRU W hW) HZ.out)
  have HFRE := Lib.hid (fun (W : World) (hW : Below W0.heap.size W0 W) => show Calls Try.prog 138 #[.agg #[.string r.name, .string r.con, .slice A1 r.vars.length c1, .slice A2 r.params.length c2, .int .i64 r.body.kind, .string r.body.name, .slice A3 q3 c3]] W (RetPost (.bool (within (exVars [] r.body) (r.vars ++ r.params))) W) from own_nofree r _ _ W (HRU W hW) HZ.out)
  have HE := Lib.hid (show aloneOk r = (rightParts r && within (exVars [] r.body) (r.vars ++ r.params)) from rfl)
  obtain ⟨x0, x1, x2, x3, x4, x5, x6⟩ := HP.out.box W0 (Below.refl _ _)
  clear hop hv hW0 hz HRU
  generalize aloneOk r = R at *
  generalize hra : rightParts r = ra at *
  generalize hve : within (exVars [] r.body) (r.vars ++ r.params) = ve at *
  clear hra hve
  cases ra
  · rw [Bool.false_and] at HE
    go_enter Try.func88, Try.ntmps88
    go_wp2_with fail
    rw [← HW0.out]
    go_at_call 137
    refine (HARG.out W0 (Below.refl _ _)).mono ?_
    rintro e w1 ⟨rfl, hb1⟩
    have HB1 := Lib.hid hb1
    clear hb1
    obtain ⟨y0, y1, y2, y3, y4, y5, y6⟩ := HP.out.box w1 HB1.out
    go_wp2_with fail
    go_ret
    exact ⟨by rw [HE.out]; rfl, HP.out.low.trans (HB1.out.mono HP.out.low.size)⟩
  · rw [Bool.true_and] at HE
    go_enter Try.func88, Try.ntmps88
    go_wp2_with fail
    rw [← HW0.out]
    go_at_call 137
    refine (HARG.out W0 (Below.refl _ _)).mono ?_
    rintro e w1 ⟨rfl, hb1⟩
    have HB1 := Lib.hid hb1
    clear hb1
    obtain ⟨y0, y1, y2, y3, y4, y5, y6⟩ := HP.out.box w1 HB1.out
    go_wp2_with (first | (go_at_call 138; refine (HFRE.out w1 HB1.out).mono ?_; rintro e w2 ⟨rfl, hb2⟩; have HB2 := Lib.hid (HB1.out.trans (hb2.mono HB1.out.size)); clear hb2))
    go_ret
    exact ⟨by rw [HE.out]; rfl, HP.out.low.trans (HB2.out.mono HP.out.low.size)⟩
end Go.Proofs.Ytmndlhbgacgnlaa
