/- The contracts of the model's l5Names and l5Within. Conditions: the list lies in memory; fewer than 2^40 elements; each of at most 1048576 bytes. The contract of the model's l5Head. Condition: names of at most 1048576 bytes, lists of at most 1048576 elements. -/
import Derived.Test.YtmndlhbgacgnlaaGreatSpecDistinct
import Derived.Test.YtmndlhbgacgnlaaGreatRuFind
import Derived.Test.YtmndlhbgacgnlaaGreatAppStrs
import Derived.Test.YtmndlhbgacgnlaaGreatRegionBelow
import Derived.Test.YtmndlhbgacgnlaaGreatRuLight
namespace Go.Proofs.YtmndlhbgacgnlaaGreat
open Go Go.RowKit

def isNm (s : ByteArray) : Bool := nameL 97 122 s.data.toList
def allNm (xs : List ByteArray) : Bool := xs.all isNm
def within (xs all : List ByteArray) : Bool := xs.all (fun s => decide (0 ≤ idx all s))
theorem allNm_here {xs : List ByteArray} {k : Nat} {x : ByteArray} (h : xs[k]? = some x) : allNm (xs.drop k) = (isNm x && allNm (xs.drop (k + 1))) := by
  obtain ⟨h1, h2⟩ := List.getElem?_eq_some_iff.1 h
  rw [List.drop_eq_getElem_cons h1, h2, allNm, List.all_cons]; rfl
theorem within_here {xs all : List ByteArray} {k : Nat} {x : ByteArray} (h : xs[k]? = some x) : within (xs.drop k) all = (decide (0 ≤ idx all x) && within (xs.drop (k + 1)) all) := by
  obtain ⟨h1, h2⟩ := List.getElem?_eq_some_iff.1 h
  rw [List.drop_eq_getElem_cons h1, h2, within, List.all_cons]; rfl

set_option maxHeartbeats 1000000 in
theorem names_any (A : Option Addr) (xs : List ByteArray) (cap : Nat) (w : World) (hs : Strs w A xs) (hn : xs.length ≤ 1099511627776) (hz : ∀ x ∈ xs, x.size ≤ 1048576) :
    Calls Tryz.prog 96 #[.slice A xs.length cap] w fun e w' => e = .returned (.bool (allNm xs)) ∧ w = w' := by
  obtain ⟨n, hm⟩ : ∃ n, n = xs.length := ⟨_, rfl⟩
  rw [← hm] at hn ⊢
  have HN := Lib.hid hm
  have HS := Lib.hid hs
  have HZ := Lib.hid hz
  clear hs hm hz
  go_enter Tryz.func96, Tryz.ntmps96
  go_wp2_with fail
  go_loopw [3] (fun i wr => ∃ (k : Nat), k ≤ n ∧ i = .int .i64 (k : Int) ∧ Hid (allNm xs = allNm (xs.drop k)) ∧ wr = w) (fun i _ => n - (intOf i).toNat)
  case atStart => exact ⟨0, Nat.zero_le _, rfl, Lib.hid rfl, rfl⟩
  case round =>
    obtain ⟨k, hk, rfl, HK, rfl⟩ := hrel
    by_cases hlt : k < n
    · obtain ⟨a, e1, hca, hla⟩ := HS.out.at_ k (by rw [← HN.out]; exact hlt)
      have HG := Lib.hid (allNm_here (xs := xs) (k := k) (List.getElem?_eq_getElem (by rw [← HN.out]; exact hlt)))
      have hzx := HZ.out (xs[k]'(by rw [← HN.out]; exact hlt)) (List.getElem_mem _)
      subst e1
      generalize xs[k]'(by rw [← HN.out]; exact hlt) = x at *
      have HC := Lib.hid (isname_any x wr hzx)
      have hk0 : (0 : Int) ≤ (k : Int) := by omega
      have hkn : (k : Int) < (n : Int) := by omega
      cases hnm : isNm x
      · have HE := Lib.hid (show allNm xs = false by rw [HK.out, HG.out, hnm, Bool.false_and])
        have HNM := Lib.hid (show nameL 97 122 x.data.toList = false from hnm)
        clear hnm
        go_wp2_with (go_at_call 94; refine HC.out.mono ?_; rintro r w2 ⟨rfl, rfl⟩; rw [HNM.out])
        go_ret
        exact ⟨by rw [HE.out]; rfl, rfl⟩
      · have HE := Lib.hid (show allNm xs = allNm (xs.drop (k + 1)) by rw [HK.out, HG.out, hnm, Bool.true_and])
        have HNM := Lib.hid (show nameL 97 122 x.data.toList = true from hnm)
        clear hnm
        go_wp2_with (go_at_call 94; refine HC.out.mono ?_; rintro r w2 ⟨rfl, rfl⟩; rw [HNM.out])
        go_roundw
        case rel => exact ⟨k + 1, by omega, by go_num, HE, trivial⟩
        case measure => simp [intOf]; omega
    · have HE := Lib.hid (show allNm xs = true by rw [HK.out, List.drop_eq_nil_of_le (by rw [← HN.out]; omega)]; rfl)
      go_wp2
      go_ret
      exact ⟨by rw [HE.out]; rfl, rfl⟩

set_option maxHeartbeats 1000000 in
theorem within_any (A B : Option Addr) (xs ys : List ByteArray) (cap cap2 : Nat) (w : World) (hs : Strs w A xs) (hs2 : Strs w B ys) (hn : xs.length ≤ 1099511627776) (hm : ys.length ≤ 1099511627776) :
    Calls Tryz.prog 65 #[.slice A xs.length cap, .slice B ys.length cap2] w fun e w' => e = .returned (.bool (within xs ys)) ∧ w = w' := by
  obtain ⟨n, hl⟩ : ∃ n, n = xs.length := ⟨_, rfl⟩
  rw [← hl] at hn ⊢
  have HN := Lib.hid hl
  have HS := Lib.hid hs
  have HC := Lib.hid (fun (s : ByteArray) => idx_any B ys cap2 s w hs2 (by omega))
  generalize hq : ys.length = q at *
  clear hs hs2 hl hm hq
  go_enter Tryz.func65, Tryz.ntmps65
  go_wp2_with fail
  go_loopw [5] (fun i wr => ∃ (k : Nat), k ≤ n ∧ i = .int .i64 (k : Int) ∧ Hid (within xs ys = within (xs.drop k) ys) ∧ wr = w) (fun i _ => n - (intOf i).toNat)
  case atStart => exact ⟨0, Nat.zero_le _, rfl, Lib.hid rfl, rfl⟩
  case round =>
    obtain ⟨k, hk, rfl, HK, rfl⟩ := hrel
    by_cases hlt : k < n
    · obtain ⟨a, e1, hca, hla⟩ := HS.out.at_ k (by rw [← HN.out]; exact hlt)
      have HG := Lib.hid (within_here (xs := xs) (all := ys) (k := k) (List.getElem?_eq_getElem (by rw [← HN.out]; exact hlt)))
      subst e1
      generalize xs[k]'(by rw [← HN.out]; exact hlt) = x at *
      have hk0 : (0 : Int) ≤ (k : Int) := by omega
      have hkn : (k : Int) < (n : Int) := by omega
      have HCX := Lib.hid (HC.out x)
      by_cases hx : 0 ≤ idx ys x
      · have HE := Lib.hid (show within xs ys = within (xs.drop (k + 1)) ys by rw [HK.out, HG.out, decide_eq_true hx, Bool.true_and])
        generalize idx ys x = z at *
        go_wp2_with (go_at_call 97; refine HCX.out.mono ?_; rintro r w2 ⟨rfl, rfl⟩)
        go_roundw
        case rel => exact ⟨k + 1, by omega, by go_num, HE, trivial⟩
        case measure => simp [intOf]; omega
      · have HE := Lib.hid (show within xs ys = false by rw [HK.out, HG.out, decide_eq_false hx, Bool.false_and])
        generalize idx ys x = z at *
        have hx2 : z < 0 := by omega
        go_wp2_with (go_at_call 97; refine HCX.out.mono ?_; rintro r w2 ⟨rfl, rfl⟩)
        go_ret
        exact ⟨by rw [HE.out]; rfl, rfl⟩
    · have HE := Lib.hid (show within xs ys = true by rw [HK.out, List.drop_eq_nil_of_le (by rw [← HN.out]; omega)]; rfl)
      go_wp2
      go_ret
      exact ⟨by rw [HE.out]; rfl, rfl⟩
end Go.Proofs.YtmndlhbgacgnlaaGreat

namespace Go.Proofs.YtmndlhbgacgnlaaGreat
open Go Go.RowKit

def isCn (s : ByteArray) : Bool := nameL 65 90 s.data.toList
def headOk (r : Ru) : Bool := (if r.con.size = 0 then decide (r.vars.length = 0) else isCn r.con) && (isNm r.name && (decide (r.vars.length ≤ 5) && (decide (r.params.length ≤ 4) && (distinct (r.vars ++ r.params) && allNm (r.vars ++ r.params)))))
theorem cut_region {P : Program} {c : Code} {K : Act → World → Prop} {Q : Exit → Act → World → Prop} {a : Act} {w : World} (R : Act → World → Prop) (h : c.wp P (onlyA R) a w) (hK : ∀ a W, R a W → K a W) : c.wp P (Exit.then K Q) a w :=
  wpIn_wide.1 (wpIn_mono (wpIn_wide.2 h : c.wpIn Fence.wide 0 P (onlyA R) a w) (fun e a W hq => by
    cases e with
    | normal => exact hK a W hq
    | exit id => exact hq.elim
    | goto t => exact hq.elim
    | ret => exact hq.elim
    | panic c => exact hq.elim
    | outgrown => exact hq.elim))
theorem owns_empty (W0 : World) : OwnsL W0.heap.size (W0.alloc (.cells #[] 9)).drew (.slice (some ⟨W0.heap.size, 0, none⟩) 0 0) [] :=
  World.ownsRow_lit W0 #[] 0 (Nat.le_refl _) (by unfold maxLen; omega) rfl
theorem old_cell {W0 W w2 : World} {v : Value} {xs : List ByteArray} {B o : Nat} {u : Value} (hb : Below W0.heap.size W0 W) (ho : OwnsL W0.heap.size W v xs) (hg : W.grownBy w2 v.ownBlock) (hB : B < W0.heap.size) (hc : W0.cell? ⟨B, o, none⟩ = some u) : w2.cell? ⟨B, o, none⟩ = some u :=
  ((OwnsL.grown hb ho hg).cell (p := ⟨B, o, none⟩) hB).trans hc

theorem drewN_low {n : Nat} {w W : World} (h : Below n w W) (q : Nat) : Below n w (W.drewN q) := ⟨h.os, h.tape, h.output, h.size, h.block⟩
theorem tot_mem {xs : List ByteArray} {x : ByteArray} (h : x ∈ xs) : x.size ≤ totN xs := by
  unfold totN
  induction xs with
  | nil => cases h
  | cons y t ih =>
    rw [List.map_cons, List.sum_cons]
    rcases List.mem_cons.1 h with rfl | h
    · omega
    · have := ih h; omega
set_option maxRecDepth 100000 in
set_option maxHeartbeats 4000000 in
theorem head_any (r : Ru) (v : Value) (b : List Nat) (w : World) (hv : RuIs w v r b) (hz : ruTot r ≤ 1048576) :
    Calls Tryz.prog 64 #[v] w (RetPost (.bool (headOk r)) w) := by
  obtain ⟨v1, v2, u, b1, b2, b3, rfl, h1, h2, rfl, h3, h4, h5⟩ := hv
  obtain ⟨A1, c1, rfl⟩ := h3.slice
  obtain ⟨A2, c2, rfl⟩ := h4.slice
  obtain ⟨A3, q3, c3, rfl⟩ := his_slice0 h5
  obtain ⟨-, hc1, hc2, hs1, -⟩ := h3.strs
  obtain ⟨-, hc3, hc4, hs2, -⟩ := h4.strs
  have hl : r.vars.length ≤ 1048576 ∧ r.params.length ≤ 1048576 := by unfold ruTot ssTot at hz; omega
  go_enter Tryz.func64, Tryz.ntmps64
  go_wp2_with fail
  obtain ⟨W0, hW0⟩ : ∃ W0, W0 = w.alloc (.cells #[.string r.name, .string r.con, .slice A1 r.vars.length c1, .slice A2 r.params.length c2, .int .i64 r.body.kind, .string r.body.name, .slice A3 q3 c3] 34) := ⟨_, rfl⟩
  rw [← hW0]
  have hbx : W0.heap[w.heap.size]? = some (.cells #[.string r.name, .string r.con, .slice A1 r.vars.length c1, .slice A2 r.params.length c2, .int .i64 r.body.kind, .string r.body.name, .slice A3 q3 c3] 34 (0, 0)) := by rw [hW0]; exact World.alloc_heap_new w _
  have x2 : W0.cell? ⟨w.heap.size, 2, none⟩ = some (.slice A1 r.vars.length c1) := by simp [World.cell?, hbx]
  have x3 : W0.cell? ⟨w.heap.size, 3, none⟩ = some (.slice A2 r.params.length c2) := by simp [World.cell?, hbx]
  have xl : w.heap.size < W0.heap.size := (Array.getElem?_eq_some_iff.1 hbx).1
  have hlow : Below w.heap.size w W0 := by rw [hW0]; exact (Below.refl _ w).alloc (Nat.le_refl _) _
  have HLW := Lib.hid hlow
  have HBX := Lib.hid hbx
  have HX3 := Lib.hid x3
  have HXL := Lib.hid xl
  have HL := Lib.hid hl
  have HO0 := Lib.hid (owns_empty W0)
  have HB0 := Lib.hid (((Below.refl W0.heap.size W0).alloc (Nat.le_refl _) (.cells #[] 9)).drew)
  have HS1 := Lib.hid (fun (Y : World) (hY : Below W0.heap.size W0 Y) => (hs1.below hlow).below hY)
  have HS2 := Lib.hid (fun (Y : World) (hY : Below W0.heap.size W0 Y) => (hs2.below hlow).below hY)
  have HZ := Lib.hid hz
  clear hW0 hbx hlow hl hs1 hs2 h3 h4 h5 hz
  refine cut_region (fun a W => ∃ v7 v8, a = { tmps := #[.agg #[.string r.name, .string r.con, .slice A1 r.vars.length c1, .slice A2 r.params.length c2, .int .i64 r.body.kind, .string r.body.name, .slice A3 q3 c3], .pointer (some ⟨w.heap.size, 0, none⟩), .bool false, v8, .slice (some ⟨W0.heap.size, 0, none⟩) 0 0, .pointer (some ⟨w.heap.size, 2, none⟩), .slice A1 r.vars.length c1, v7, .pointer (some ⟨w.heap.size, 3, none⟩), .slice A2 r.params.length c2, v8, undef, undef, undef, undef, undef, undef, undef, undef, undef, undef, undef, undef, undef, undef, undef, undef, undef, undef, undef, undef, undef, undef, undef, undef, undef, undef, undef, undef, undef, undef, undef, undef, undef, undef, undef, undef, undef, undef, undef, undef, undef, undef, undef], defers := [] } ∧ OwnsL W0.heap.size W v8 (r.vars ++ r.params) ∧ Below W0.heap.size W0 W) ?_ ?_
  · go_region_law
      (first
      | (refine step_append_strs (by rfl) (.tmp 4) (.tmp 6) (by rfl) W0.heap.size (.slice (some ⟨W0.heap.size, 0, none⟩) 0 0) [] (by rfl) HO0.out A1 r.vars c1 (by rfl) (HS1.out _ HB0.out) (by have := HL.out; simp; omega) HB0.out.size ?_; intro v7 w7 ho7 hg7; have y3 := old_cell HB0.out HO0.out hg7 HXL.out HX3.out; have HB7 := Lib.hid (OwnsL.grown HB0.out HO0.out hg7); have HO7 := Lib.hid ho7; clear ho7 hg7)
      | (refine step_append_strs (by rfl) (.tmp 7) (.tmp 9) (by rfl) W0.heap.size v7 ([] ++ r.vars) (by rfl) HO7.out A2 r.params c2 (by rfl) (HS2.out _ HB7.out) (by have := HL.out; simp; omega) HB7.out.size ?_; intro v8 w8 ho8 hg8; have HB8 := Lib.hid (OwnsL.grown HB7.out HO7.out hg8); have HO8 := Lib.hid ho8; clear ho8 hg8))
    all_goals
      exact ⟨v7, v8, rfl, HO8.out, HB8.out⟩
  · rintro _ W ⟨v7, v8, rfl, ho, hb⟩
    have hbw : W.heap[w.heap.size]? = some (.cells #[.string r.name, .string r.con, .slice A1 r.vars.length c1, .slice A2 r.params.length c2, .int .i64 r.body.kind, .string r.body.name, .slice A3 q3 c3] 34 (0, 0)) := (hb.block _ HXL.out).trans HBX.out
    have y0 : W.cell? ⟨w.heap.size, 0, none⟩ = some (.string r.name) := by simp [World.cell?, hbw]
    have y1 : W.cell? ⟨w.heap.size, 1, none⟩ = some (.string r.con) := by simp [World.cell?, hbw]
    have y2 : W.cell? ⟨w.heap.size, 2, none⟩ = some (.slice A1 r.vars.length c1) := by simp [World.cell?, hbw]
    have y3 : W.cell? ⟨w.heap.size, 3, none⟩ = some (.slice A2 r.params.length c2) := by simp [World.cell?, hbw]
    obtain ⟨A8, c8, rfl, hst⟩ := ho.shape
    have hc8 : (r.vars ++ r.params).length ≤ c8 ∧ c8 ≤ 9223372036854775807 := by
      rcases ho.2 with ⟨h0, -⟩ | ⟨g, cap, cur, h0, -, -, hn, hmx, -⟩
      · simp only [Value.slice.injEq] at h0; omega
      · simp only [Value.slice.injEq] at h0; unfold maxLen at hmx; omega
    have hly : (r.vars ++ r.params).length ≤ 1099511627776 := by have := HL.out; simp; omega
    have HH := Lib.hid (show headOk r = ((if r.con.size = 0 then decide (r.vars.length = 0) else isCn r.con) && (isNm r.name && (decide (r.vars.length ≤ 5) && (decide (r.params.length ≤ 4) && (distinct (r.vars ++ r.params) && allNm (r.vars ++ r.params)))))) from rfl)
    have HNS := Lib.hid (show r.name.size ≤ 1048576 by have := HZ.out; unfold ruTot at this; omega)
    have HCS := Lib.hid (show r.con.size ≤ 1048576 by have := HZ.out; unfold ruTot at this; omega)
    have hys1 : ∀ x ∈ r.vars ++ r.params, x.size ≤ 1048576 := by
      intro x hx
      have h9 := HZ.out
      unfold ruTot ssTot at h9
      rcases List.mem_append.1 hx with hx | hx
      · have := tot_mem hx; omega
      · have := tot_mem hx; omega
    have HDC := Lib.hid (dist_any A8 (r.vars ++ r.params) c8 W hst hly hc8.1 hc8.2)
    have HNC := Lib.hid (fun q => names_any A8 (r.vars ++ r.params) c8 (W.drewN q) (hst.drewN q) hly hys1)
    have HWW := Lib.hid (HLW.out.trans (hb.mono HLW.out.size))
    generalize hys : r.vars ++ r.params = ys at *
    generalize hym : ys.length = my at *
    generalize r.vars.length = n1 at *
    generalize r.params.length = n2 at *
    have hn1i : (n1 : Int) ≤ 1048576 := by have := HL.out; omega
    have hn2i : (n2 : Int) ≤ 1048576 := by have := HL.out; omega
    clear ho hb hbw hst hc8 hly hys1 hys hym
    by_cases hcon : r.con.size = 0
    · have hbe := empty_yes hcon
      by_cases hv0 : n1 = 0
      · have hv0i : ¬ (0 : Int) < (n1 : Int) := by omega
        have hv0j : (n1 : Int) ≤ 0 := by omega
        rw [if_pos hcon, decide_eq_true hv0, Bool.true_and] at HH
        cases hnm : isNm r.name
        · have HNM := Lib.hid (show nameL 97 122 r.name.data.toList = false from hnm)
          have HE := Lib.hid (show headOk r = false by rw [HH.out, hnm]; rfl)
          clear hnm
          go_wp2_with (first | (go_at_call 94; refine (isname_any _ _ HNS.out).mono ?_; rintro e w2 ⟨rfl, rfl⟩; rw [HNM.out]))
          go_ret
          exact ⟨by rw [HE.out]; rfl, HWW.out⟩
        · have HNM := Lib.hid (show nameL 97 122 r.name.data.toList = true from hnm)
          have h5 : n1 ≤ 5 := by omega
          have h5i : (n1 : Int) ≤ 5 := by omega
          by_cases h4 : n2 ≤ 4
          · have h4i : (n2 : Int) ≤ 4 := by omega
            cases hd : distinct ys
            · have HDI := Lib.hid hd
              have HE := Lib.hid (show headOk r = false by rw [HH.out, hnm, decide_eq_true h5, decide_eq_true h4, hd]; simp)
              clear hnm
              go_wp2_with (first | (go_at_call 94; refine (isname_any _ _ HNS.out).mono ?_; rintro e w2 ⟨rfl, rfl⟩; rw [HNM.out]) | (go_at_call 95; refine HDC.out.mono ?_; rintro e w2 ⟨rfl, q, rfl⟩; rw [HDI.out]))
              go_ret
              exact ⟨by rw [HE.out]; rfl, (drewN_low HWW.out _)⟩
            · have HDI := Lib.hid hd
              cases hn : allNm ys
              · have HAN := Lib.hid hn
                have HE := Lib.hid (show headOk r = false by rw [HH.out, hnm, decide_eq_true h5, decide_eq_true h4, hd, hn]; simp)
                clear hnm
                go_wp2_with (first | (go_at_call 94; refine (isname_any _ _ HNS.out).mono ?_; rintro e w2 ⟨rfl, rfl⟩; rw [HNM.out]) | (go_at_call 95; refine HDC.out.mono ?_; rintro e w2 ⟨rfl, q, rfl⟩; rw [HDI.out]) | (go_at_call 96; refine (HNC.out _).mono ?_; rintro e w2 ⟨rfl, rfl⟩; rw [HAN.out]))
                go_ret
                exact ⟨by rw [HE.out]; rfl, (drewN_low HWW.out _)⟩
              · have HAN := Lib.hid hn
                have HE := Lib.hid (show headOk r = true by rw [HH.out, hnm, decide_eq_true h5, decide_eq_true h4, hd, hn]; simp)
                clear hnm
                go_wp2_with (first | (go_at_call 94; refine (isname_any _ _ HNS.out).mono ?_; rintro e w2 ⟨rfl, rfl⟩; rw [HNM.out]) | (go_at_call 95; refine HDC.out.mono ?_; rintro e w2 ⟨rfl, q, rfl⟩; rw [HDI.out]) | (go_at_call 96; refine (HNC.out _).mono ?_; rintro e w2 ⟨rfl, rfl⟩; rw [HAN.out]))
                go_ret
                exact ⟨by rw [HE.out]; rfl, (drewN_low HWW.out _)⟩
          · have h4i : ¬ (n2 : Int) ≤ 4 := by omega
            have h4j : (4 : Int) < (n2 : Int) := by omega
            have HE := Lib.hid (show headOk r = false by rw [HH.out, hnm, decide_eq_true h5, decide_eq_false h4]; simp)
            clear hnm
            go_wp2_with (first | (go_at_call 94; refine (isname_any _ _ HNS.out).mono ?_; rintro e w2 ⟨rfl, rfl⟩; rw [HNM.out]))
            go_ret
            exact ⟨by rw [HE.out]; rfl, HWW.out⟩
      · have hv0i : (0 : Int) < (n1 : Int) := by omega
        rw [if_pos hcon, decide_eq_false hv0, Bool.false_and] at HH
        go_wp2_with fail
        go_ret
        exact ⟨by rw [HH.out]; rfl, HWW.out⟩
    · have hbe := empty_not hcon
      rw [if_neg hcon] at HH
      cases hcn : isCn r.con
      · have HCN := Lib.hid (show nameL 65 90 r.con.data.toList = false from hcn)
        rw [hcn, Bool.false_and] at HH
        go_wp2_with (go_at_call 93; refine (iscon_any _ _ HCS.out).mono ?_; rintro e w2 ⟨rfl, rfl⟩; rw [HCN.out])
        go_ret
        exact ⟨by rw [HH.out]; rfl, HWW.out⟩
      · have HCN := Lib.hid (show nameL 65 90 r.con.data.toList = true from hcn)
        rw [hcn, Bool.true_and] at HH
        cases hnm : isNm r.name
        · have HNM := Lib.hid (show nameL 97 122 r.name.data.toList = false from hnm)
          have HE := Lib.hid (show headOk r = false by rw [HH.out, hnm]; rfl)
          clear hnm
          go_wp2_with (first | (go_at_call 93; refine (iscon_any _ _ HCS.out).mono ?_; rintro e w2 ⟨rfl, rfl⟩; rw [HCN.out]) | (go_at_call 94; refine (isname_any _ _ HNS.out).mono ?_; rintro e w2 ⟨rfl, rfl⟩; rw [HNM.out]))
          go_ret
          exact ⟨by rw [HE.out]; rfl, HWW.out⟩
        · have HNM := Lib.hid (show nameL 97 122 r.name.data.toList = true from hnm)
          by_cases h5 : n1 ≤ 5
          · have h5i : (n1 : Int) ≤ 5 := by omega
            by_cases h4 : n2 ≤ 4
            · have h4i : (n2 : Int) ≤ 4 := by omega
              cases hd : distinct ys
              · have HDI := Lib.hid hd
                have HE := Lib.hid (show headOk r = false by rw [HH.out, hnm, decide_eq_true h5, decide_eq_true h4, hd]; simp)
                clear hnm
                go_wp2_with (first | (go_at_call 93; refine (iscon_any _ _ HCS.out).mono ?_; rintro e w2 ⟨rfl, rfl⟩; rw [HCN.out]) | (go_at_call 94; refine (isname_any _ _ HNS.out).mono ?_; rintro e w2 ⟨rfl, rfl⟩; rw [HNM.out]) | (go_at_call 95; refine HDC.out.mono ?_; rintro e w2 ⟨rfl, q, rfl⟩; rw [HDI.out]))
                go_ret
                exact ⟨by rw [HE.out]; rfl, (drewN_low HWW.out _)⟩
              · have HDI := Lib.hid hd
                cases hn : allNm ys
                · have HAN := Lib.hid hn
                  have HE := Lib.hid (show headOk r = false by rw [HH.out, hnm, decide_eq_true h5, decide_eq_true h4, hd, hn]; simp)
                  clear hnm
                  go_wp2_with (first | (go_at_call 93; refine (iscon_any _ _ HCS.out).mono ?_; rintro e w2 ⟨rfl, rfl⟩; rw [HCN.out]) | (go_at_call 94; refine (isname_any _ _ HNS.out).mono ?_; rintro e w2 ⟨rfl, rfl⟩; rw [HNM.out]) | (go_at_call 95; refine HDC.out.mono ?_; rintro e w2 ⟨rfl, q, rfl⟩; rw [HDI.out]) | (go_at_call 96; refine (HNC.out _).mono ?_; rintro e w2 ⟨rfl, rfl⟩; rw [HAN.out]))
                  go_ret
                  exact ⟨by rw [HE.out]; rfl, (drewN_low HWW.out _)⟩
                · have HAN := Lib.hid hn
                  have HE := Lib.hid (show headOk r = true by rw [HH.out, hnm, decide_eq_true h5, decide_eq_true h4, hd, hn]; simp)
                  clear hnm
                  go_wp2_with (first | (go_at_call 93; refine (iscon_any _ _ HCS.out).mono ?_; rintro e w2 ⟨rfl, rfl⟩; rw [HCN.out]) | (go_at_call 94; refine (isname_any _ _ HNS.out).mono ?_; rintro e w2 ⟨rfl, rfl⟩; rw [HNM.out]) | (go_at_call 95; refine HDC.out.mono ?_; rintro e w2 ⟨rfl, q, rfl⟩; rw [HDI.out]) | (go_at_call 96; refine (HNC.out _).mono ?_; rintro e w2 ⟨rfl, rfl⟩; rw [HAN.out]))
                  go_ret
                  exact ⟨by rw [HE.out]; rfl, (drewN_low HWW.out _)⟩
            · have h4i : ¬ (n2 : Int) ≤ 4 := by omega
              have h4j : (4 : Int) < (n2 : Int) := by omega
              have HE := Lib.hid (show headOk r = false by rw [HH.out, hnm, decide_eq_true h5, decide_eq_false h4]; simp)
              clear hnm
              go_wp2_with (first | (go_at_call 93; refine (iscon_any _ _ HCS.out).mono ?_; rintro e w2 ⟨rfl, rfl⟩; rw [HCN.out]) | (go_at_call 94; refine (isname_any _ _ HNS.out).mono ?_; rintro e w2 ⟨rfl, rfl⟩; rw [HNM.out]))
              go_ret
              exact ⟨by rw [HE.out]; rfl, HWW.out⟩
          · have h5i : ¬ (n1 : Int) ≤ 5 := by omega
            have h5j : (5 : Int) < (n1 : Int) := by omega
            have HE := Lib.hid (show headOk r = false by rw [HH.out, hnm, decide_eq_false h5]; simp)
            clear hnm
            go_wp2_with (first | (go_at_call 93; refine (iscon_any _ _ HCS.out).mono ?_; rintro e w2 ⟨rfl, rfl⟩; rw [HCN.out]) | (go_at_call 94; refine (isname_any _ _ HNS.out).mono ?_; rintro e w2 ⟨rfl, rfl⟩; rw [HNM.out]))
            go_ret
            exact ⟨by rw [HE.out]; rfl, HWW.out⟩
end Go.Proofs.YtmndlhbgacgnlaaGreat
