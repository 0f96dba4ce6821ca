/- The program's own nodesWhere under nodesOf$1: what it hands out. Condition: fewer than 2^40 nodes. The contracts of the program's own nodesWhere and nodesOf: what a range over nodesOf hands out. Condition: fewer than 2^40 nodes. For the program's own nodesOnce (it goes into arguments that parts share only where it meets them first): what holds between two rounds, so that no first occurrence is left out. No condition. A set of strings that the program keeps as a map from strings to bools: made, asked, added to, its size. Conditions: strings of a size that an int holds. -/
import Derived.Test.YtbnghkgfbjipdaaMa15
import Derived.Test.YtbnghkgfbjipdaaMa16
import Derived.Test.YtbnghkgfbjipdaaMa07
import Derived.Test.YtbnghkgfbjipdaaRows
import Derived.WalkKit
import Derived.Lib.Hide
import Derived.Maps.OwnSet
namespace Go.Proofs.Ytbnghkgfbjipdaa
open Go Go.RowKit Go.Shelf
attribute [local go_sem] Oper.semAt_some

set_option maxRecDepth 100000 in
set_option maxHeartbeats 2000000 in
theorem nodes_all_in (F : Fence) (n : Nat) (hFw : F = Fence.wide) (hro : F.round = none) (hF : ∀ k, F.fn k) (hn : 3 ≤ n) (l Be Bg : Nat) (wo : World) (e : Ex) (u : Value) (bs : List Nat) (he : ExIs wo (.agg #[.int .i64 e.kind, .string e.name, u]) e bs) (hsz : exSize e ≤ 1099511627776)
    (J Jx : List (It wo) → List Nat → World → Prop) (hJ : Minds J) (hJx : Minds Jx)
    (hY : ∀ pre x M W1, J pre M W1 → (∀ k ∈ M, k < W1.heap.size) → pre.length < exSize e → YieldAt F (n - 1) Try.prog l #[x.val] W1 fun e W2 =>
      (e = .returned (.bool true) ∧ J (pre ++ [x]) M W2 ∧ Kept wo.heap.size M W1 W2) ∨ (e = .returned (.bool false) ∧ Jx (pre ++ [x]) M W2 ∧ Kept wo.heap.size M W1 W2))
    (Inv : List (It wo) → List (It wo) → Prop) (Gs : List (It wo) → World → Prop) (ask : List (It wo) → It wo → Bool) (M0 Fg : List Nat)
    (hI0 : ∀ x : It wo, x.ex = e → x.1.2.2.2 = bs → Inv [] [x]) (hI1 : ∀ (pre st : List (It wo)) (x : It wo) (ks : List (It wo)), Inv pre (st ++ [x]) → ask pre x = true → ks.map It.ex = x.ex.args.reverse → SubB x.1.2.2.2 ks → Inv (pre ++ [x]) (st ++ ks))
    (hI2 : ∀ (pre st : List (It wo)) (x : It wo), Inv pre (st ++ [x]) → ask pre x = false → Inv (pre ++ [x]) st)
    (hGf : ∀ pre A B, Gs pre A → A.heap.size ≤ B.heap.size → (∀ k ∈ Fg, B.heap[k]? = A.heap[k]?) → Gs pre B)
    (hG : ∀ (pre : List (It wo)) (x : It wo) (A : Option Addr) (c : Nat) (W1 : World), Gs pre W1 → Below wo.heap.size wo W1 → x.1.2.2.1 = .slice A x.ex.args.length c → pre.length < exSize e → (∃ st, Inv pre (st ++ [x])) → CallsIn F (n - 1) Try.prog 109 #[.slice A x.ex.args.length c] W1 fun r W2 => r = .returned (.bool (ask pre x)) ∧ Gs (pre ++ [x]) W2 ∧ Fr Fg W1 W2)
    (W : World) (hW : Below wo.heap.size wo W) (hM0 : ∀ k ∈ M0, wo.heap.size ≤ k ∧ k < W.heap.size) (hBgM : Bg ∈ M0) (hFg : ∀ k ∈ Fg, k ∈ M0 ∧ k ≠ Bg) (hgb : Boxed W Bg 159 (.func (.func 109) #[] #[]))
    (h0 : W.cell? ⟨Be, 0, none⟩ = some (.int .i64 e.kind)) (h1 : W.cell? ⟨Be, 1, none⟩ = some (.string e.name)) (h2 : W.cell? ⟨Be, 2, none⟩ = some u) (hJ0 : J [] M0 W) (hGs0 : Gs [] W) :
    CallsIn F n Try.prog 128 #[.func (.yield l) #[] #[], .pointer (some ⟨Be, 0, none⟩), .pointer (some ⟨Bg, 0, none⟩)] W fun r W2 => (∃ v, r = .returned v) ∧
      ((∃ (xs : List (It wo)) (M : List Nat), Inv xs [] ∧ J xs M W2) ∨ (∃ (pre : List (It wo)) (M : List Nat), (∃ pre0 st0 x, pre = pre0 ++ [x] ∧ Inv pre0 (st0 ++ [x])) ∧ Jx pre M W2)) := by
  have hn1 : 1 ≤ n := by omega
  refine callsIn_of_wp_marks Try.func128 rfl (hF _) ?_ hro
  simp only [Try.ntmps128, List.size_toArray, List.length_cons, List.length_nil, Nat.reduceAdd, Nat.reduceSub, Array.replicate_succ, Array.replicate_zero, List.push_toArray, List.append_toArray, List.nil_append, List.cons_append]
  have HFW := Lib.hid hFw
  clear hFw
  have HE := Lib.hid he
  have HY := Lib.hid hY
  have HW := Lib.hid hW
  have HJ := Lib.hid hJ
  have HJX := Lib.hid hJx
  have HJ0 := Lib.hid hJ0
  have HI1 := Lib.hid hI1
  have HI2 := Lib.hid hI2
  have HGF := Lib.hid hGf
  have HG := Lib.hid hG
  have HGS0 := Lib.hid hGs0
  have HM0 := Lib.hid hM0
  have HBM := Lib.hid hBgM
  have HFG := Lib.hid hFg
  have HGB := Lib.hid hgb
  have HI0 := Lib.hid hI0
  have HBG := Lib.hid (hM0 Bg hBgM).2
  have HFG2 := Lib.hid (fun k (hk : k ∈ Fg) => And.intro (hM0 k (hFg k hk).1).2 (And.intro (hFg k hk).2 (hM0 k (hFg k hk).1).1))
  clear he hY hW hJ hJx hJ0 hI0 hI1 hI2 hGf hG hGs0 hM0 hBgM hFg hgb
  gi_wp2
  refine wpIn_loop_ghost_k (fun k a wr => ∃ (Ds M : List Nat) (pre st : List (It wo)) (lv : Value) (u5 u7 u10 u11 u12 u13 u14 u15 u16 u17 u18 u19 u20 u21 u22 u23 u24 u25 u26 u27 u28 u29 u30 u31 u32 u33 u34 u35 u38 u39 u40 u41 u42 u43 : Value), a = { tmps := #[.func (.yield l) #[] #[], .pointer (some ⟨Be, 0, none⟩), .pointer (some ⟨Bg, 0, none⟩), undef, .pointer (some ⟨W.heap.size + 1, 0, none⟩), u5, undef, u7, .agg #[.int .i64 e.kind, .string e.name, u], .slice (some ⟨W.heap.size, 0, none⟩) 1 1, u10, u11, u12, u13, u14, u15, u16, u17, u18, u19, u20, u21, u22, u23, u24, u25, u26, u27, u28, u29, u30, u31, u32, u33, u34, u35, undef, undef, u38, u39, u40, u41, u42, u43], defers := Ds.map markOf } ∧ Hid (J pre M wr) ∧ Hid (Nd wo W.heap.size (exSize e) Bg (.func (.func 109) #[] #[]) M0 Inv (W.heap.size + 1) pre st lv M wr) ∧ Hid (k = (due st).length) ∧ Hid (Marks W.heap.size Ds M wr) ∧ Hid (Gs pre wr)) (exSize e) ?_ ?_
  · have hs2 : ((W.alloc (.cells #[.int .i64 e.kind, .string e.name, u] 26)).alloc (.cells #[.slice (some ⟨W.heap.size, 0, none⟩) 1 1] 24)).heap.size = W.heap.size + 2 := by simp
    have hlw : Below W.heap.size W ((W.alloc (.cells #[.int .i64 e.kind, .string e.name, u] 26)).alloc (.cells #[.slice (some ⟨W.heap.size, 0, none⟩) 1 1] 24)) := ((Below.refl _ _).alloc (Nat.le_refl _) _).alloc (by simp) _
    have hwz := HW.out.size
    have hle0 : ∀ k, k < W.heap.size → ((W.alloc (.cells #[.int .i64 e.kind, .string e.name, u] 26)).alloc (.cells #[.slice (some ⟨W.heap.size, 0, none⟩) 1 1] 24)).heap[k]? = W.heap[k]? := fun k hk => hlw.block k hk
    refine ⟨[], (W.heap.size + 1) :: W.heap.size :: M0, [], [⟨(0, e, u, bs), HE.out⟩], .slice (some ⟨W.heap.size, 0, none⟩) 1 1, _, _, _, _, _, _, _, _, _, _, _, _, _, _, _, _, _, _, _, _, _, _, _, _, _, _, _, _, _, _, _, _, _, _, rfl, Lib.hid (HJ.out _ _ _ _ _ HJ0.out (Fr.of_below hlw) (fun k hk => ?_)), Lib.hid ⟨HI0.out _ rfl rfl, ?_, ?_, ?_, by simp, fun k hk => by simp [Value.ownBlock] at hk; simp [hk], fun k hk => ?_, HW.out.trans (hlw.mono hwz), by omega, fun k hk => ?_, fun k hk => by simp [hk], ?_⟩, Lib.hid ?_, Lib.hid ⟨by simp, by simp⟩, Lib.hid (HGF.out _ _ _ HGS0.out (by omega) (fun k hk => hle0 k (HFG2.out k hk).1))⟩
    · simp at hk
      rcases hk with rfl | rfl | hk
      · exact Or.inr (by omega)
      · exact Or.inr (Nat.le_refl _)
      · exact Or.inl hk
    · rw [show due [(⟨(0, e, u, bs), HE.out⟩ : It wo)] = exNodes e by simp [due, It.ex], nodes_len]; simp
    · have := Boxed.new (W.alloc (.cells #[.int .i64 e.kind, .string e.name, u] 26)) 24 (.slice (some ⟨W.heap.size, 0, none⟩) 1 1)
      rw [World.size_alloc] at this
      exact this
    · exact World.ownsRow.alloc (World.ownsRow_lit W #[.int .i64 e.kind, .string e.name, u] 1 (Nat.le_refl _) (by unfold maxLen; omega) rfl) _
    · simp at hk
      rcases hk with rfl | rfl | hk
      · omega
      · omega
      · have := (HM0.out k hk).2; omega
    · simp at hk
      rcases hk with rfl | rfl | hk
      · omega
      · exact hwz
      · exact (HM0.out k hk).1
    · exact box_on HGB.out (hle0 _ HBG.out)
    · rw [show due [(⟨(0, e, u, bs), HE.out⟩ : It wo)] = exNodes e by simp [due, It.ex], nodes_len]
  · rintro gk _ wr ⟨Ds, M, pre, st, lv, u5, u7, u10, u11, u12, u13, u14, u15, u16, u17, u18, u19, u20, u21, u22, u23, u24, u25, u26, u27, u28, u29, u30, u31, u32, u33, u34, u35, u38, u39, u40, u41, u42, u43, rfl, HJP, HND, HK, HMK, HGS⟩ JJ KK hJJ hKK
    rcases last_of st with rfl | ⟨st0, x, rfl⟩
    · have hbox := HND.out.box.cell
      have hbf := HND.out.box.frozen
      have hblt := HND.out.box.lt
      obtain ⟨AO, co, rfl⟩ : ∃ AO co, lv = .slice AO 0 co := by
        rcases HND.out.row.2 with ⟨h0, -⟩ | ⟨g, cap, cur, h0, -⟩
        · exact ⟨_, _, h0⟩
        · exact ⟨_, _, h0⟩
      gi_wp2
      exact leave_marks rfl Ds wr HMK.out.1 (fun D hD => (HMK.out.2 D hD).2.1) (fun v X hf => ⟨⟨_, rfl⟩, .inl ⟨pre, HND.out.inv, M, HJ.out _ _ _ _ _ HJP.out (hf.mono (fun k hk => Or.inl (HMK.out.2 k hk).1)) (fun k hk => Or.inl hk)⟩⟩)
    · have hbox := HND.out.box.cell
      have hbf := HND.out.box.frozen
      have hblt := HND.out.box.lt
      obtain ⟨g, cap, rfl, hgM, hgn, c0, c1, c2, hcap, hpop⟩ := HND.out.top
      have hbd := HND.out.bound
      obtain ⟨A, c, hu, hsl, hac1, hac2⟩ := x.slice
      rw [hu] at c2
      obtain ⟨q, hq⟩ : ∃ q, q = x.ex.args.length := ⟨_, rfl⟩
      rw [← hq] at c2 hu hsl hac1
      obtain ⟨m, hm⟩ : ∃ m, m = st0.length := ⟨_, rfl⟩
      rw [← hm] at hbox c0 c1 c2 hcap hpop
      have hm3 : (m : Int) + 1 ≤ 1099511627777 := by
        have := hbd.2
        simp at this
        omega
      have hcap3 : (cap : Int) ≤ 9223372036854775807 := by
        rcases hpop.2 with ⟨h0, -⟩ | ⟨g', cap', cur, hv, -, -, hn, hmx, -⟩
        · cases h0
        · cases hv; unfold maxLen at hmx; omega
      have HM := Lib.hid hm
      have HPOP := Lib.hid hpop
      have HBD := Lib.hid hbd
      have HQ := Lib.hid hq
      have HU := Lib.hid hu
      have HSL := Lib.hid hsl
      have HGM := Lib.hid hgM
      have HGN := Lib.hid hgn
      have HWR := Lib.hid (show W.heap.size ≤ wr.heap.size by have h3 := HND.out.box.lt; omega)
      clear hm hpop hbd hq hu hsl hgM hgn
      have HLEN := Lib.hid (show pre.length < exSize e by have := HBD.out.1; rw [due_one, List.length_cons] at this; omega)
      have HGW := Lib.hid (HGF.out pre wr ((wr.setCell ⟨W.heap.size + 1, 0, none⟩ (.slice (some ⟨g, 0, none⟩) m cap)).alloc (.cells #[.int .i64 x.ex.kind, .string x.ex.name, .slice A q c] 26)) HGS.out (by simp [World.setCell]) (fun k hk => by have := (HFG2.out k hk).1; have := HWR.out; rw [Below.heap_alloc _ _ k (by simp [World.setCell]; omega), Below.heap_setCell _ _ _ _ (by simp; omega)]))
      have HMD := Lib.hid (Nd.pop HND.out HBG.out HWR.out HPOP.out HGM.out HGN.out HMK.out (.cells #[.int .i64 x.ex.kind, .string x.ex.name, .slice A q c] 26))
      gi_wp2
      obtain ⟨Wy, hWy⟩ : ∃ Wy, Wy = (wr.setCell ⟨W.heap.size + 1, 0, none⟩ (.slice (some ⟨g, 0, none⟩) m cap)).alloc (.cells #[.int .i64 x.ex.kind, .string x.ex.name, .slice A q c] 26) := ⟨_, rfl⟩
      rw [← hWy]
      rw [← hWy] at HMD HGW
      obtain ⟨fn, tmps, assign, body, hy, hR⟩ := HY.out pre x (wr.heap.size :: M) Wy (HJ.out _ _ _ _ _ HJP.out HMD.out.2.1 HMD.out.2.2) HMD.out.1.lt HLEN.out
      have hy2 : (Instr.yield l #[.agg #[.int .i64 x.ex.kind, .string x.ex.name, .slice A q c]]).run Try.prog Wy = .ok (.round l fn tmps assign body) Wy := by
        rw [← HU.out]; exact hy
      rw [hy2]
      refine ⟨fun _ => hn1, hR.mono ?_⟩
      clear hy hy2 hR hWy
      rintro r W3 (⟨rfl, hj3, hk3⟩ | ⟨rfl, hjx3, hk3⟩)
      · have HJ3 := Lib.hid hj3
        have HMD3 := Lib.hid (HMD.out.1.keep HBM.out hk3)
        have HGK3 := Lib.hid (HGF.out pre Wy W3 HGW.out hk3.1.size (fun k hk => hk3.2 k (HMD.out.1.own k (HFG.out k hk).1)))
        clear hj3 hk3
        have hnx := HMD3.out.nx
        have hn2 : W3.cell? ⟨wr.heap.size, 2, none⟩ = some (.slice A q c) := by simp [World.cell?, hnx]
        have hgc := HMD3.out.gbox.cell
        clear hnx
        have HASK := Lib.hid (fun (hh : Gs pre W3) => HG.out pre x A c W3 hh HMD3.out.low (by rw [← HQ.out]; exact HU.out) HLEN.out ⟨st0, HND.out.inv⟩)
        rw [← HQ.out] at HASK
        cases hask : ask pre x
        · rw [hask] at HASK
          have HNO := Lib.hid hask
          clear hask
          gi_wp2_with (gi_at_call 109; refine (HASK.out HGK3.out).mono ?_; rintro r W5 ⟨rfl, hgs5, hfr5⟩; have HGS5 := Lib.hid hgs5; have HFR5 := Lib.hid hfr5; clear hgs5 hfr5)
          have h5 := HMD3.out.asked HFR5.out HFG2.out
          refine Handed.intro (due st0).length ?_ (hJJ _ _ _ ⟨Ds, wr.heap.size :: M, pre ++ [x], st0, .slice (some ⟨g, 0, none⟩) m cap, _, _, _, _, _, _, _, _, _, _, _, _, _, _, _, _, _, _, _, _, _, _, _, _, _, _, _, _, _, _, _, _, _, _, rfl, ?_, ?_, Lib.hid rfl, Lib.hid h5.marks, HGS5⟩)
          · rw [HK.out, due_one]; simp; omega
          · exact Lib.hid (HJ.out _ _ _ _ _ HJ3.out (HFR5.out.mono (fun k hk => Or.inl (h5.own k (HFG.out k hk).1))) (fun k hk => Or.inl hk))
          · refine Lib.hid ⟨HI2.out _ _ _ HND.out.inv HNO.out, ?_, h5.box, by rw [← HM.out]; exact h5.row, by simp [h5.inB], fun k hk => ?_, h5.lt, h5.low, h5.Bn, h5.Mn, h5.own, h5.gbox⟩
            · have h6 := HBD.out.1
              rw [due_one] at h6
              simp at h6 ⊢
              omega
            · obtain rfl : g = k := by simpa [Value.ownBlock] using hk
              simp [h5.inG]
        rw [hask] at HASK
        have HYES := Lib.hid hask
        clear hask
        gi_wp2_with (first
          | (gi_at_call 109; refine (HASK.out HGK3.out).mono ?_; rintro r W5 ⟨rfl, hgs5, hfr5⟩; have hn5 : W5.cell? ⟨wr.heap.size, 2, none⟩ = some (.slice A q c) := by
              have hnx := (HMD3.out.asked hfr5 HFG2.out).nx
              simp [World.cell?, hnx]
             have HGS5 := Lib.hid hgs5; have HFR5 := Lib.hid hfr5; clear hgs5 hfr5)
          | (gi_at_call 114; refine (backward_in F (n - 1) (hF _) hro _ _ _ _).mono ?_; rintro r w4 ⟨rfl, rfl⟩))
        have HMD3 := Lib.hid (HMD3.out.asked HFR5.out HFG2.out)
        have HJ3 := Lib.hid (HJ.out _ _ _ _ _ HJ3.out (HFR5.out.mono (fun k hk => Or.inl (HMD3.out.own k (HFG.out k hk).1))) (fun k hk => Or.inl hk))
        clear hn5 hn2 hgc
        clear HASK HGK3
        obtain ⟨W4, hW4⟩ : ∃ W4, W4 = W5.alloc (.cells #[.slice A q c] 24) := ⟨_, rfl⟩
        rw [← hW4]
        have HW4 := Lib.hid hW4
        have hs4 : W4.heap.size = W5.heap.size + 1 := by rw [hW4]; simp
        have HB4 := Lib.hid (show Below W5.heap.size W5 W4 by rw [hW4]; exact (Below.refl _ _).alloc (Nat.le_refl _) _)
        have hbs : W4.cell? ⟨W5.heap.size, 0, none⟩ = some (.slice A q c) := by rw [hW4]; exact (Boxed.new W5 _ _).cell
        clear hW4
        have HS4 := Lib.hid hs4
        have HBS := Lib.hid hbs
        clear hs4 hbs
        have hLow3 := HMD3.out.low.size
        refine wpIn_rangeFunc_frame hro hn1 (gf := 129) (lb := #[.pointer (some ⟨W5.heap.size, 0, none⟩)]) rfl (hF _) (enters_of Try.func129 (by kernel_rfl) rfl)
          (encs := fun y : It wo => #[.int .i64 (y.1.1 : Int), y.val]) (n₀ := wo.heap.size) (S := fun xs => xs.map It.ex = x.ex.args.reverse ∧ SubB x.1.2.2.2 xs) (Sp := fun _ => True) (N := x.ex.args.length) (M0 := [W5.heap.size]) (w0 := W4)
          (fun l2 J2 Jx2 X hX _ _ hY2 h02 => back_in F (n - 1) (hF _) hro (by omega) l2 W5.heap.size wo A q c x.ex.args x.1.2.2.2 HSL.out J2 Jx2 hY2 X ((hX.cell (p := ⟨W5.heap.size, 0, none⟩) (by rw [HS4.out]; exact Nat.lt_succ_self _)).trans HBS.out) ((HMD3.out.low.trans (HB4.out.mono hLow3)).trans (hX.mono (by rw [HS4.out]; omega))) h02)
          (Below.refl _ _) (by rw [HS4.out]; omega) (by simp; rw [HS4.out]; omega) (fun _ => rfl)
          (Pushed wo W.heap.size (W.heap.size + 1) m st0) (fun _ _ _ _ => False) (pushed_foot wo _ _ m st0) (fun _ _ _ _ _ h _ _ => h)
          [W.heap.size + 1, g] ?fp ?start (Parted wo W.heap.size (W.heap.size + 1) m st0 (fun pb y => #[.func (.yield l) #[] #[], .pointer (some ⟨Be, 0, none⟩), .pointer (some ⟨Bg, 0, none⟩), undef, .pointer (some ⟨W.heap.size + 1, 0, none⟩), .pointer (some ⟨wr.heap.size, 0, none⟩), undef, .pointer (some ⟨pb, 0, none⟩), .agg #[.int .i64 e.kind, .string e.name, u], .slice (some ⟨W.heap.size, 0, none⟩) 1 1, .slice (some ⟨g, 0, none⟩) (m + 1) cap, .int .i64 ((m : Int) + 1), .bool true, .slice (some ⟨g, 0, none⟩) (m + 1) cap, .slice (some ⟨g, 0, none⟩) (m + 1) cap, .int .i64 ((m : Int) + 1), .int .i64 (m : Int), .pointer (some ⟨g, m * 3, none⟩), .agg #[.int .i64 x.ex.kind, .string x.ex.name, .slice A q c], .slice (some ⟨g, 0, none⟩) (m + 1) cap, .slice (some ⟨g, 0, none⟩) (m + 1) cap, .int .i64 ((m : Int) + 1), .int .i64 (m : Int), .slice (some ⟨g, 0, none⟩) m cap, .func (.yield l) #[] #[], .agg #[.int .i64 x.ex.kind, .string x.ex.name, .slice A q c], .bool true, .bool false, .func (.func 109) #[] #[], .pointer (some ⟨wr.heap.size, 2, none⟩), .slice A q c, .bool true, .bool false, .pointer (some ⟨wr.heap.size, 2, none⟩), .slice A q c, .func (.func 129) #[] #[.pointer (some ⟨W5.heap.size, 0, none⟩)], .int .i64 (y.1.1 : Int), y.val, u38, u39, u40, u41, u42, u43])) (parted_foot wo _ _ m st0 _) ?assign ?body ?done ?stop
        case fp =>
          intro k hk
          simp only [List.mem_cons, List.not_mem_nil, or_false] at hk
          have h3 := HMD3.out
          have hB := h3.lt (W.heap.size + 1) (List.mem_cons_of_mem _ h3.inB)
          have hG := h3.lt g (List.mem_cons_of_mem _ h3.inG)
          rcases hk with rfl | rfl
          · exact ⟨h3.Mn _ (List.mem_cons_of_mem _ h3.inB), by rw [HS4.out]; omega, by simp; omega⟩
          · exact ⟨h3.Mn _ (List.mem_cons_of_mem _ h3.inG), by rw [HS4.out]; omega, by simp; omega⟩
        case start =>
          have h3 := HMD3.out
          exact ⟨some ⟨g, 0, none⟩, cap, rfl, box_on h3.box (HB4.out.block _ h3.box.lt), by rw [List.append_nil]; exact row_on h3.row (fun k e => HB4.out.block _ (h3.lt _ (by rw [show k = g by simpa [Value.ownBlock, eq_comm] using e]; exact List.mem_cons_of_mem _ h3.inG)))⟩
        case assign =>
          intro l2 pre2 y Fp X KX hI hFp hFr hK
          obtain ⟨AO, co, rfl, h1, h2⟩ := hI
          obtain ⟨A2, c2, hu2, -, -, -⟩ := y.slice
          have hv : y.val = .agg #[.int .i64 y.ex.kind, .string y.ex.name, .slice A2 y.ex.args.length c2] := by rw [← hu2]; rfl
          have HU2 := Lib.hid hu2
          have HV := Lib.hid hv
          have H1 := Lib.hid h1
          have H2 := Lib.hid h2
          have HFP := Lib.hid hFp
          have HKX := Lib.hid hK
          dsimp only
          rw [hv]
          clear hu2 hv h1 h2 hFp hFr hK
          gi_wp2
          refine HKX.out _ (X.heap.size :: (W.heap.size + 1) :: (Value.ownBlock (.slice AO (m + pre2.length) co)).toList) _ (Fr.alloc _ _) (fun k hk => ?_) ⟨X.heap.size, AO, co, rfl, ?_, ⟨?_, ?_⟩, H1.out.alloc _, H2.out.alloc _, ?_⟩
          · rcases List.mem_cons.1 hk with rfl | hk
            · exact ⟨Or.inr (Nat.le_refl _), by simp⟩
            · exact ⟨Or.inl hk, by have := (HFP.out k hk).2; simp; omega⟩
          · rw [HU2.out]; exact World.alloc_heap_new X _
          · have := H1.out.lt; omega
          · intro e
            have := (H2.out.lt _ e).2
            omega
          · dsimp only; rw [HV.out]
        case body =>
          rintro l2 pre2 y _ Fp X ⟨pb, AO, co, rfl, hpb, hne, h1, h2, rfl⟩ hFp hFr hlen
          obtain ⟨A2, c2, hu2, -, -, -⟩ := y.slice
          have HFP := Lib.hid hFp
          have HNE := Lib.hid hne
          have H1 := Lib.hid h1
          have H2 := Lib.hid h2
          have HPB := Lib.hid hpb
          have HU2 := Lib.hid hu2
          have HKL := Lib.hid (show m + pre2.length ≤ 1099511627776 by
            have h5 := HBD.out.1
            rw [due_one, List.length_cons, List.length_append] at h5
            have h6 := due_len st0
            have h7 : x.ex.args.length ≤ (exNodesL x.ex.args).length := by rw [(nodes_size _).2 x.ex.args (Nat.le_refl _)]; exact sizes_len _
            have := HM.out
            omega)
          clear hFp hFr hne h1 h2 hpb hu2 hlen
          have hfw := HFW.out
          subst hfw
          gi_wp2
          refine region_round (R := PushEnd W.heap.size (W.heap.size + 1) (m + pre2.length) (.slice AO (m + pre2.length) co) (flat (st0 ++ pre2)) y.cells X) (by kernel_rfl) (all_not (by rfl))
            (push_any "l03_expr.go:109" [] W.heap.size (W.heap.size + 1) pb (m + pre2.length) co y.ex.args.length c2 AO A2 y.ex.kind y.ex.name (flat (st0 ++ pre2)) X _ _ _ _ _ _ _ _ _ _ _ _ _ _ _ _ _ _ _ _ _ _ _ _ _ _ _ _ _ _ _ _ _ _ _ _ _ _ _ _ _ _
              H1.out H2.out HNE.out (by rw [← HU2.out]; exact HPB.out) (by have := H1.out.lt; omega) HKL.out (fun Y hY => by rw [It.cells, HU2.out]; exact hY)) (fun _ Y hY => ?_)
          exact pushed_step hY (HFP.out _ (by simp)).2 pb
        case done =>
          rintro D ks Fp X hD hDF hFl hS ⟨AO, co, rfl, h1, h2⟩ hFr hK
          have h3 := HMD3.out
          have hfrX : Fr (wr.heap.size :: M) W5 X := (Fr.of_below HB4.out).trans hFr (fun z hz => by
            simp at hz
            rcases hz with rfl | rfl | rfl
            · exact Or.inl (List.mem_cons_of_mem _ h3.inB)
            · exact Or.inl (List.mem_cons_of_mem _ h3.inG)
            · exact Or.inr (Nat.le_refl _))
          have hs4 := HS4.out
          have hXs := hFr.size
          have hDl : D < X.heap.size := (Array.getElem?_eq_some_iff.1 hK).1
          have hown : ∀ k, Value.ownBlock (.slice AO (m + ks.length) co) = some k → (k ∈ wr.heap.size :: M ∨ W5.heap.size ≤ k) ∧ k < X.heap.size := fun k hk => by
            obtain ⟨e1, e2⟩ := hFl k (by simp [hk])
            refine ⟨?_, e1⟩
            rcases e2 with e2 | e2
            · simp at e2
              rcases e2 with rfl | rfl
              · exact Or.inl (List.mem_cons_of_mem _ h3.inB)
              · exact Or.inl (List.mem_cons_of_mem _ h3.inG)
            · exact Or.inr (by omega)
          have hM2 : ∀ k ∈ D :: ((Value.ownBlock (.slice AO (m + ks.length) co)).toList ++ wr.heap.size :: M), (k ∈ wr.heap.size :: M ∨ W5.heap.size ≤ k) ∧ k < X.heap.size := fun k hk => by
            rcases List.mem_cons.1 hk with rfl | hk
            · exact ⟨Or.inr (by omega), hDl⟩
            · rcases List.mem_append.1 hk with hk | hk
              · exact hown k (by simpa using hk)
              · exact ⟨Or.inl hk, Nat.lt_of_lt_of_le (h3.lt k hk) hfrX.size⟩
          have hfrX2 : Fr [W.heap.size + 1, g] W5 X := (Fr.of_below HB4.out).trans hFr (fun z hz => by
            simp at hz
            rcases hz with rfl | rfl | rfl
            · exact Or.inl (by simp)
            · exact Or.inl (by simp)
            · exact Or.inr (Nat.le_refl _))
          have hlowX : Below wo.heap.size W5 X := hfrX.below h3.Mn h3.low.size
          have hdue : due (st0 ++ ks) = exNodesL x.ex.args ++ due st0 := by rw [due_app, due_kids ks _ hS.1]
          show KK _ _
          refine hKK _ _ (Handed.intro (due (st0 ++ ks)).length ?_ (hJJ _ _ _ ⟨D :: Ds, D :: ((Value.ownBlock (.slice AO (m + ks.length) co)).toList ++ wr.heap.size :: M), pre ++ [x], st0 ++ ks, .slice AO (m + ks.length) co, _, _, _, _, _, _, _, _, _, _, _, _, _, _, _, _, _, _, _, _, _, _, _, _, _, _, _, _, _, _, _, _, _, _, rfl, ?_, ?_, Lib.hid rfl, ?_, ?_⟩))
          · rw [HK.out, due_one, hdue]; simp
          · exact Lib.hid (HJ.out _ _ _ _ _ HJ3.out hfrX (fun k hk => (hM2 k hk).1))
          · refine Lib.hid ⟨HI1.out _ _ _ _ HND.out.inv HYES.out hS.1 hS.2, ?_, h1, ?_, by simp [h3.inB], fun k hk => by simp [hk], fun k hk => (hM2 k hk).2, h3.low.trans hlowX, h3.Bn, fun k hk => (hM2 k hk).1.elim (h3.Mn k) (fun h => by omega), fun k hk => ?_, box_on h3.gbox (hfrX2.block _ h3.gbox.lt (by simp; have := HBG.out; have := h3.Bn; have := h3.gn; omega))⟩
            · have h6 := HBD.out.1
              rw [due_one] at h6
              rw [hdue]
              simp at h6 ⊢
              omega
            · rw [List.length_append, ← HM.out]; exact h2
            · simp only [List.mem_cons, List.mem_append]
              exact Or.inr (Or.inr (List.mem_cons.1 (h3.own k hk)))
          · refine Lib.hid ⟨List.nodup_cons.2 ⟨fun h => ?_, h3.marks.1⟩, fun E hE => ?_⟩
            · have := h3.lt D (h3.marks.2 D h).1
              omega
            · rcases List.mem_cons.1 hE with rfl | hE
              · exact ⟨by simp, hK, by have := h3.box.lt; omega⟩
              · obtain ⟨e1, e2, e3⟩ := h3.marks.2 E hE
                have hEl := h3.lt E e1
                have hEB : E ≠ W.heap.size + 1 := fun e => by
                  have hb := h3.box
                  unfold Boxed at hb
                  rw [← e, e2] at hb
                  cases hb
                have hEg : E ≠ g := fun e => by
                  rcases h3.row.2 with ⟨h0, -⟩ | ⟨g', cap', cur, hv, -, hb, -⟩
                  · cases h0
                  · cases hv
                    rw [← e, e2] at hb
                    cases hb
                refine ⟨by simp only [List.mem_cons, List.mem_append]; exact Or.inr (Or.inr (List.mem_cons.1 e1)), ?_, e3⟩
                exact (hFr.block E (by omega) (by simp; omega)).trans ((HB4.out.block E hEl).trans e2)
          · exact Lib.hid (HGF.out _ _ _ HGS5.out hfrX2.size (fun k hk => hfrX2.block k (by have := (HFG2.out k hk).1; have := h3.box.lt; have := h3.Bn; omega) (by simp; have := (HFG2.out k hk).1; have := h3.Bn; have := h3.gn; omega)))
        case stop =>
          rintro D c2 pre2 Fp X _ _ _ _ h _ _
          exact h.elim
      · have h3 := HMD.out.1.keep HBM.out hk3
        have HJ3 := Lib.hid hjx3
        have HMD3 := Lib.hid h3
        clear h3 hjx3 hk3
        gi_wp2
        exact leave_marks rfl Ds W3 HMD3.out.marks.1 (fun D hD => (HMD3.out.marks.2 D hD).2.1) (fun v X hf => ⟨⟨_, rfl⟩, .inr ⟨_, wr.heap.size :: M, ⟨pre, st0, x, rfl, HND.out.inv⟩, HJX.out _ _ _ _ _ HJ3.out (hf.mono (fun k hk => Or.inl (HMD3.out.marks.2 k hk).1)) (fun k hk => Or.inl hk)⟩⟩)
end Go.Proofs.Ytbnghkgfbjipdaa

namespace Go.Proofs.Ytbnghkgfbjipdaa
open Go Go.RowKit Go.Shelf
attribute [local go_sem] Oper.semAt_some

/-- The boxes of nodesWhere$1: the expression's and that of the function that is asked, behind block b. -/
def nodesLb (b : Nat) : Array Value := #[.pointer (some ⟨b + 1, 0, none⟩), .pointer (some ⟨b + 2, 0, none⟩)]
/-- What nodesOf hands back where the heap had b blocks. -/
def nodesFun (b : Nat) : Value := .func (.func 128) #[] (nodesLb b)
/-- The world behind a call of nodesOf. -/
def nodesW (w : World) (k : Int) (s : ByteArray) (u : Value) : World :=
  ((w.alloc (.cells #[.int .i64 k, .string s, u] 26)).alloc (.cells #[.int .i64 k, .string s, u] 26)).alloc (.cells #[.func (.func 109) #[] #[]] 159)
theorem nodesW_size (w : World) (k : Int) (s : ByteArray) (u : Value) : (nodesW w k s u).heap.size = w.heap.size + 3 := by simp [nodesW]
theorem nodesW_below {n : Nat} {wo w : World} (h : Below n wo w) (hn : n ≤ w.heap.size) (k : Int) (s : ByteArray) (u : Value) : Below n wo (nodesW w k s u) :=
  ((h.alloc hn _).alloc (by simp; omega) _).alloc (by simp; omega) _
theorem nodesW_old {w : World} (k : Int) (s : ByteArray) (u : Value) {j : Nat} (hj : j < w.heap.size) : (nodesW w k s u).heap[j]? = w.heap[j]? :=
  (nodesW_below (Below.refl _ w) (Nat.le_refl _) k s u).block j hj
theorem nodesW_ex (w : World) (k : Int) (s : ByteArray) (u : Value) : (nodesW w k s u).heap[w.heap.size + 1]? = some (.cells #[.int .i64 k, .string s, u] 26 (0, 0)) := by
  have h1 := World.alloc_heap_new (w.alloc (.cells #[.int .i64 k, .string s, u] 26)) (.cells #[.int .i64 k, .string s, u] 26)
  rw [World.size_alloc] at h1
  exact (Below.heap_alloc _ _ _ (by simp)).trans h1
theorem nodesW_gv (w : World) (k : Int) (s : ByteArray) (u : Value) : Boxed (nodesW w k s u) (w.heap.size + 2) 159 (.func (.func 109) #[] #[]) := by
  have h1 := Boxed.new ((w.alloc (.cells #[.int .i64 k, .string s, u] 26)).alloc (.cells #[.int .i64 k, .string s, u] 26)) 159 (.func (.func 109) #[] #[])
  rw [World.size_alloc, World.size_alloc] at h1
  exact h1

set_option maxHeartbeats 1000000 in
theorem nodesWhere_in (F : Fence) (n : Nat) (hF : ∀ k, F.fn k) (hro : F.round = none) (k : Int) (s : ByteArray) (A : Option Addr) (m c gi : Nat) (lb : Array Value) (w : World) :
    CallsIn F n Try.prog 108 #[.agg #[.int .i64 k, .string s, .slice A m c], .func (.func gi) #[] lb] w fun e w2 => e = .returned (.func (.func 128) #[] #[.pointer (some ⟨w.heap.size, 0, none⟩), .pointer (some ⟨w.heap.size + 1, 0, none⟩)]) ∧ w2 = (w.alloc (.cells #[.int .i64 k, .string s, .slice A m c] 26)).alloc (.cells #[.func (.func gi) #[] lb] 159) := by
  refine callsIn_of_wp Try.func108 rfl (hF _) ?_ hro
  simp only [Try.ntmps108, List.size_toArray, List.length_cons, List.length_nil, Nat.reduceAdd, Nat.reduceSub, Array.replicate_succ, Array.replicate_zero, List.push_toArray, List.append_toArray, List.nil_append, List.cons_append]
  gi_wp2
  go_ret
  exact ⟨rfl, rfl⟩

set_option maxHeartbeats 1000000 in
theorem nodesOf_in (F : Fence) (n : Nat) (hF : ∀ k, F.fn k) (hro : F.round = none) (hn : 1 ≤ n) (k : Int) (s : ByteArray) (A : Option Addr) (m c : Nat) (w : World) :
    CallsIn F n Try.prog 81 #[.agg #[.int .i64 k, .string s, .slice A m c]] w fun e w2 => e = .returned (nodesFun w.heap.size) ∧ w2 = nodesW w k s (.slice A m c) := by
  refine callsIn_of_wp Try.func81 rfl (hF _) ?_ hro
  simp only [Try.ntmps81, List.size_toArray, List.length_cons, List.length_nil, Nat.reduceAdd, Nat.reduceSub, Array.replicate_succ, Array.replicate_zero, List.push_toArray, List.append_toArray, List.nil_append, List.cons_append]
  gi_wp2_with (gi_at_call 108; refine (nodesWhere_in F (n - 1) hF hro _ _ _ _ _ _ _ _).mono ?_; rintro e w' ⟨rfl, rfl⟩)
  go_ret
  exact ⟨rfl, rfl⟩

set_option maxHeartbeats 1000000 in
theorem yes_in (F : Fence) (n : Nat) (hF : ∀ k, F.fn k) (hro : F.round = none) (A : Option Addr) (m c : Nat) (w : World) :
    CallsIn F n Try.prog 109 #[.slice A m c] w fun e w2 => e = .returned (.bool true) ∧ w2 = w := by
  refine callsIn_of_wp Try.func109 rfl (hF _) ?_ hro
  simp only [Try.ntmps109, List.size_toArray, List.length_cons, List.length_nil, Nat.reduceAdd, Nat.reduceSub, Array.replicate_succ, Array.replicate_zero, List.push_toArray, List.append_toArray, List.nil_append, List.cons_append]
  gi_wp2
  go_ret
  exact ⟨rfl, rfl⟩

/-- What nodesOf hands back, as a range over it wants it. -/
theorem nodes_stops (F : Fence) (n : Nat) (hFw : F = Fence.wide) (hro : F.round = none) (hF : ∀ k, F.fn k) (hn : 3 ≤ n) (wo : World) (e : Ex) (u : Value) (bs : List Nat) (he : ExIs wo (.agg #[.int .i64 e.kind, .string e.name, u]) e bs) (hsz : exSize e ≤ 1099511627776) (b : Nat) (w0 w : World) (hb : b = w0.heap.size) (hw : w = nodesW w0 e.kind e.name u) (hW : Below wo.heap.size wo w0) :
    SeqF F n Try.prog 128 (nodesLb b) (fun x : It wo => #[x.val]) wo.heap.size (fun xs => xs.map It.ex = exNodes e) (fun pre => pre.map It.ex <+: exNodes e) (exSize e) [b + 2] w := by
  intro l J Jx W hwW hJ hJx hY h0
  have hs0 := hW.size
  have hsz2 : w.heap.size = w0.heap.size + 3 := by rw [hw, nodesW_size]
  have hex := nodesW_ex w0 e.kind e.name u
  have hgv := nodesW_gv w0 e.kind e.name u
  rw [← hw, ← hb] at hex hgv
  have hb2 : W.heap[b + 1]? = some (.cells #[.int .i64 e.kind, .string e.name, u] 26 (0, 0)) := (hwW.block _ (by omega)).trans hex
  have hg2 : Boxed W (b + 2) 159 (.func (.func 109) #[] #[]) := box_on hgv (hwW.block _ (by omega))
  have hlow : Below wo.heap.size wo w := by rw [hw]; exact nodesW_below hW hs0 _ _ _
  refine (nodes_all_in F n hFw hro hF hn l (b + 1) (b + 2) wo e u bs he hsz J Jx hJ hJx hY (fun pre st => pre.map It.ex ++ due st = exNodes e) (fun _ _ => True) (fun _ _ => true) [b + 2] [] ?_ ?_ (fun _ _ _ _ h => by cases h) (fun _ _ _ _ _ _ => trivial) ?_
    W (hlow.trans (hwW.mono hlow.size)) (fun k hk => by simp at hk; have := hwW.size; omega) (by simp) (by simp) hg2 (by simp [World.cell?, hb2]) (by simp [World.cell?, hb2]) (by simp [World.cell?, hb2]) h0 trivial).mono ?_
  · intro x hx _
    rw [show due [x] = exNodes x.ex by simp [due], hx]; rfl
  · intro pre st x ks h _ hk _
    rw [due_one] at h
    rw [due_app, due_kids ks _ hk, ← h]
    simp
  · intro pre x A c W1 _ _ _ _ _
    refine (yes_in F (n - 1) hF hro _ _ _ _).mono ?_
    rintro r W2 ⟨rfl, rfl⟩
    exact ⟨rfl, trivial, Fr.refl _ _⟩
  · rintro r W2 ⟨hv, ⟨xs, M, h1, h2⟩ | ⟨pre, M, ⟨pre0, st0, x, rfl, h1⟩, h2⟩⟩
    · exact ⟨hv, .inl ⟨xs, M, by simpa [due] using h1, h2⟩⟩
    · refine ⟨hv, .inr ⟨_, M, ?_, h2⟩⟩
      rw [due_one] at h1
      exact ⟨exNodesL x.ex.args ++ due st0, by rw [← h1]; simp⟩
end Go.Proofs.Ytbnghkgfbjipdaa

namespace Go.Proofs.Ytbnghkgfbjipdaa
open Go Go.RowKit

section
variable {wo : World}
/-- The place of the arguments of a node. -/
def plOf (x : It wo) : Option (Addr × Nat) := match x.1.2.2.1 with
  | .slice (some a) n _ => if n = 0 then none else some (a, n)
  | _ => none
/-- Whether the arguments are gone into. -/
def askO (pre : List (It wo)) (x : It wo) : Bool := match plOf x with
  | none => false
  | some p => decide (some p ∉ pre.map plOf)
theorem plOf_slice {x : It wo} {A : Option Addr} {n c : Nat} (h : x.1.2.2.1 = .slice A n c) : (n = 0 → plOf x = none) ∧ (∀ a, A = some a → n ≠ 0 → plOf x = some (a, n)) := by
  unfold plOf
  rw [h]
  constructor
  · intro h0
    cases A with
    | none => rfl
    | some a => simp [h0]
  · rintro a rfl hn
    simp [hn]
theorem plOf_none {x : It wo} (h : plOf x = none) : x.ex.args = [] := by
  obtain ⟨A, c, e1, hs, -, -⟩ := x.slice
  obtain ⟨-, h2⟩ := plOf_slice e1
  obtain ⟨A', c', e2, -, -, h3⟩ := hs
  cases e2
  rcases h3 with ⟨h3, -⟩ | ⟨g, o, b, rfl, -, -, h4⟩
  · exact h3
  · by_cases hl : x.ex.args.length = 0
    · exact List.eq_nil_of_length_eq_zero hl
    · rw [h2 _ rfl hl] at h; cases h
theorem plOf_some {x : It wo} {p : Addr × Nat} (h : plOf x = some p) : ∃ g o c bs', p = (⟨g, o, none⟩, x.ex.args.length) ∧ x.1.2.2.1 = .slice (some ⟨g, o, none⟩) x.ex.args.length c ∧ x.ex.args.length ≠ 0 ∧ g ∈ x.1.2.2.2 ∧ g < wo.heap.size ∧ ExsAt wo g o 0 x.ex.args bs' := by
  obtain ⟨A, c, e1, hs, -, -⟩ := x.slice
  obtain ⟨h1, h2⟩ := plOf_slice e1
  obtain ⟨A', c', e2, -, -, h3⟩ := hs
  cases e2
  by_cases hl : x.ex.args.length = 0
  · rw [h1 hl] at h; cases h
  · rcases h3 with ⟨h3, -⟩ | ⟨g, o, b, rfl, hg, e3, h4⟩
    · rw [h3] at hl; exact absurd rfl hl
    · rw [h2 _ rfl hl] at h
      cases h
      exact ⟨g, o, c, b, rfl, e1, hl, by rw [e3]; simp, hg, h4⟩
theorem plOf_same {x y : It wo} {p : Addr × Nat} (hx : plOf x = some p) (hy : plOf y = some p) : x.ex.args = y.ex.args := by
  obtain ⟨g, o, c, b, rfl, -, -, -, -, h1⟩ := plOf_some hx
  obtain ⟨g', o', c', b', e, -, -, -, -, h2⟩ := plOf_some hy
  simp only [Prod.mk.injEq, Addr.mk.injEq, and_true] at e
  obtain ⟨⟨rfl, rfl⟩, hl⟩ := e
  exact (at_det _).2 _ _ (Nat.le_refl _) wo g o 0 b b' h1 h2 hl

theorem find_skip {α : Type} {q : α → Bool} {A B K C : List α} (h : ∀ z ∈ K, z ∈ A) : (A ++ (B ++ (K ++ C))).find? q = (A ++ (B ++ C)).find? q := by
  simp only [List.find?_append]
  cases hA : A.find? q with
  | some a => rfl
  | none =>
    have hK : K.find? q = none := by
      rw [List.find?_eq_none] at hA ⊢
      exact fun z hz => hA z (h z hz)
    rw [hK]; simp

/-- Between two rounds: every question is answered alike over what was handed out and what is to come as over all nodes; and what is below each place that was met has been handed out, or is still on top of the list. -/
structure InvO (e : Ex) (bs : List Nat) (pre st : List (It wo)) : Prop where
  blk : SubB bs (pre ++ st)
  find : ∀ q : Ex → Bool, (pre.map It.ex ++ due st).find? q = (exNodes e).find? q
  seen : ∀ s ∈ pre, plOf s ≠ none → ∃ j, j ≤ st.length ∧ (∀ y ∈ st.drop j, exSize y.ex < exSize s.ex) ∧ ∀ z ∈ exNodesL s.ex.args, z ∈ pre.map It.ex ++ due (st.drop j)
theorem size_of_args {e e2 : Ex} (h : e.args = e2.args) : exSize e = exSize e2 := by
  cases e; cases e2
  simp only [Ex.args] at h
  rw [exSize, exSize, h]
theorem InvO.start {e : Ex} {bs : List Nat} (x : It wo) (hx : x.ex = e) (hb : ∀ z ∈ x.1.2.2.2, z ∈ bs) : InvO e bs [] [x] :=
  ⟨fun y hy => by rw [List.nil_append, List.mem_singleton] at hy; subst hy; exact hb, fun q => by rw [show due [x] = exNodes x.ex by simp [due], hx]; rfl, fun s hs => by cases hs⟩
theorem InvO.go {e : Ex} {bs : List Nat} {pre st ks : List (It wo)} {x : It wo} (h : InvO e bs pre (st ++ [x])) (hk : ks.map It.ex = x.ex.args.reverse) (hb : SubB x.1.2.2.2 ks) : InvO e bs (pre ++ [x]) (st ++ ks) := by
  have hd : due (st ++ ks) = exNodesL x.ex.args ++ due st := by rw [due_app, due_kids ks _ hk]
  have hks : ∀ y ∈ ks, exSize y.ex < exSize x.ex := fun y hy => exSize_args (by
    have : y.ex ∈ ks.map It.ex := List.mem_map_of_mem hy
    rw [hk] at this
    simpa using this)
  refine ⟨fun y hy z hz => ?_, fun q => ?_, fun s hs hp => ?_⟩
  · simp only [List.mem_append, List.mem_singleton] at hy
    rcases hy with (hy | rfl) | hy | hy
    · exact h.blk y (by simp [hy]) z hz
    · exact h.blk y (by simp) z hz
    · exact h.blk y (by simp [hy]) z hz
    · exact h.blk x (by simp) z (hb y hy z hz)
  · rw [← h.find q, due_one, hd]
    simp
  · rcases List.mem_append.1 hs with hs | hs
    · obtain ⟨j, hj, h1, h2⟩ := h.seen s hs hp
      by_cases hl : j ≤ st.length
      · rw [List.drop_append_of_le_length hl] at h1 h2
        refine ⟨j, by simp; omega, fun y hy => ?_, fun z hz => ?_⟩
        · rw [List.drop_append_of_le_length hl] at hy
          rcases List.mem_append.1 hy with hy | hy
          · exact h1 y (by simp [hy])
          · exact Nat.lt_trans (hks y hy) (h1 x (by simp))
        · have := h2 z hz
          rw [due_one] at this
          rw [List.drop_append_of_le_length hl, due_app, due_kids ks _ hk]
          simp only [List.map_append, List.map_cons, List.map_nil, List.mem_append, List.mem_cons, List.not_mem_nil, or_false] at this ⊢
          rcases this with h | h | h | h
          · exact Or.inl (Or.inl h)
          · exact Or.inl (Or.inr h)
          · exact Or.inr (Or.inl h)
          · exact Or.inr (Or.inr h)
      · rw [List.drop_eq_nil_of_le (by simp; omega)] at h2
        refine ⟨(st ++ ks).length, Nat.le_refl _, fun y hy => by simp at hy, fun z hz => ?_⟩
        have := h2 z hz
        simp only [due, List.reverse_nil, List.flatMap_nil, List.append_nil] at this
        simp [this]
    · rw [List.mem_singleton] at hs
      subst hs
      refine ⟨st.length, by simp, fun y hy => hks y (by simpa using hy), fun z hz => ?_⟩
      rw [List.drop_left, due_kids ks _ hk]
      simp [hz]
theorem InvO.skip {e : Ex} {bs : List Nat} {pre st : List (It wo)} {x : It wo} (h : InvO e bs pre (st ++ [x])) (ha : askO pre x = false) : InvO e bs (pre ++ [x]) st := by
  -- what is below x has been handed out
  have hbel : ∀ z ∈ exNodesL x.ex.args, z ∈ pre.map It.ex := by
    intro z hz
    unfold askO at ha
    cases hp : plOf x with
    | none => rw [plOf_none hp] at hz; simp [exNodesL] at hz
    | some p =>
      rw [hp] at ha
      simp only [decide_eq_false_iff_not, Decidable.not_not] at ha
      obtain ⟨s, hs, hsp⟩ := List.mem_map.1 ha
      have he := plOf_same hsp hp
      obtain ⟨j, hj, h1, h2⟩ := h.seen s hs (by rw [hsp]; simp)
      by_cases hl : j ≤ st.length
      · rw [List.drop_append_of_le_length hl] at h1
        have := h1 x (by simp)
        rw [size_of_args he] at this
        omega
      · rw [List.drop_eq_nil_of_le (by simp; omega)] at h2
        have := h2 z (by rw [he]; exact hz)
        simpa [due] using this
  refine ⟨fun y hy z hz => ?_, fun q => ?_, fun s hs hp => ?_⟩
  · simp only [List.mem_append, List.mem_singleton] at hy
    rcases hy with (hy | rfl) | hy
    · exact h.blk y (by simp [hy]) z hz
    · exact h.blk y (by simp) z hz
    · exact h.blk y (by simp [hy]) z hz
  · have h1 := h.find q
    rw [due_one] at h1
    rw [← h1]
    have := find_skip (q := q) (A := pre.map It.ex) (B := [x.ex]) (K := exNodesL x.ex.args) (C := due st) hbel
    simpa using this.symm
  · rcases List.mem_append.1 hs with hs | hs
    · obtain ⟨j, hj, h1, h2⟩ := h.seen s hs hp
      by_cases hl : j ≤ st.length
      · rw [List.drop_append_of_le_length hl] at h1 h2
        refine ⟨j, hl, fun y hy => h1 y (by simp [hy]), fun z hz => ?_⟩
        have := h2 z hz
        rw [due_one] at this
        simp only [List.map_append, List.map_cons, List.map_nil, List.mem_append, List.mem_cons, List.not_mem_nil, or_false] at this ⊢
        rcases this with h | h | h | h
        · exact Or.inl (Or.inl h)
        · exact Or.inl (Or.inr h)
        · exact Or.inl (Or.inl (hbel z h))
        · exact Or.inr h
      · rw [List.drop_eq_nil_of_le (by simp; omega)] at h2
        refine ⟨st.length, Nat.le_refl _, fun y hy => by simp at hy, fun z hz => ?_⟩
        have := h2 z hz
        simp only [due, List.reverse_nil, List.flatMap_nil, List.append_nil] at this
        simp [this]
    · rw [List.mem_singleton] at hs
      subst hs
      exact ⟨st.length, Nat.le_refl _, fun y hy => by simp at hy, fun z hz => by simp [hbel z hz]⟩
end
end Go.Proofs.Ytbnghkgfbjipdaa

namespace Go.Proofs.Ytbnghkgfbjipdaa
open Go Go.RowKit Go.ChangeMaps Go.WideMaps

def litOf (s : ByteArray) : Lit := .string s.data.toList
def yes : DataW Unit := .lit (.bool true)
def noo : DataW Unit := .lit (.bool false)
def inL (L : List ByteArray) (s : ByteArray) : Bool := decide (0 ≤ idx L s)
theorem inL_yes {L : List ByteArray} {s : ByteArray} (h : s ∈ L) : inL L s = true := decide_eq_true ((idx_mem L s).2 h)
theorem inL_no {L : List ByteArray} {s : ByteArray} (h : s ∉ L) : inL L s = false := decide_eq_false fun e => h ((idx_mem L s).1 e)
/-- Block b of w is a map of at most n entries that says 'true' at the strings of L and at no others. -/
def SetIs (w : World) (b n : Nat) (L : List ByteArray) : Prop :=
  ∃ D : DataW Unit, w.ownsMap Try.prog 9 (plainElem Try.prog 4) b n D ∧ Maps.Tidy D ∧ (∀ s, Maps.has D (litOf s) = inL L s) ∧ (∀ s, D.atKey (litOf s) noo = .lit (.bool (inL L s))) ∧ Maps.size D = (uniteFrom [] L).length

theorem litOf_inj {a b : ByteArray} (h : litOf a = litOf b) : a = b := by
  have e : a.data.toList = b.data.toList := by simpa [litOf] using h
  have e1 : a.data = b.data := Array.toList_inj.1 e
  cases a; cases b
  simp only at e1
  rw [e1]
theorem unite_memI : ∀ (xs out : List ByteArray) (y : ByteArray), y ∈ uniteFrom out xs ↔ y ∈ out ∨ y ∈ xs := by
  intro xs
  induction xs with
  | nil => intro out y; simp [uniteFrom]
  | cons x r ih =>
    intro out y
    rw [uniteFrom]
    split
    · rename_i hx
      rw [ih out y, List.mem_cons]
      have := (idx_mem out x).1 hx
      constructor
      · rintro (h | h)
        · exact Or.inl h
        · exact Or.inr (Or.inr h)
      · rintro (h | rfl | h)
        · exact Or.inl h
        · exact Or.inl this
        · exact Or.inr h
    · rw [ih _ y, List.mem_append, List.mem_singleton, List.mem_cons]
      constructor
      · rintro ((h | h) | h)
        · exact Or.inl h
        · exact Or.inr (Or.inl h)
        · exact Or.inr (Or.inr h)
      · rintro (h | h | h)
        · exact Or.inl (Or.inl h)
        · exact Or.inl (Or.inr h)
        · exact Or.inr h
theorem unite_snoc (x : ByteArray) : ∀ (xs out : List ByteArray), uniteFrom out (xs ++ [x]) = if 0 ≤ idx (uniteFrom out xs) x then uniteFrom out xs else uniteFrom out xs ++ [x] := by
  intro xs
  induction xs with
  | nil =>
    intro out
    have e : ∀ o : List ByteArray, uniteFrom o [] = o := fun o => by rw [uniteFrom]
    rw [e, List.nil_append, uniteFrom, e, e]
  | cons y r ih =>
    intro out
    rw [List.cons_append]
    by_cases h : 0 ≤ idx out y
    · rw [uniteFrom, if_pos h, show uniteFrom out (y :: r) = uniteFrom out r by rw [uniteFrom, if_pos h]]; exact ih out
    · rw [uniteFrom, if_neg h, show uniteFrom out (y :: r) = uniteFrom (out ++ [y]) r by rw [uniteFrom, if_neg h]]; exact ih _
/-- A list has as many different elements as elements just if all are different. -/
theorem unite_full : ∀ (xs out : List ByteArray), (uniteFrom out xs).length = out.length + xs.length ↔ xs.Nodup ∧ ∀ x ∈ xs, x ∉ out := by
  intro xs
  induction xs with
  | nil => intro out; simp [uniteFrom]
  | cons x r ih =>
    intro out
    rw [uniteFrom]
    split
    · rename_i hx
      have hm := (idx_mem out x).1 hx
      have := unite_len r out
      constructor
      · intro h; simp only [List.length_cons] at h; omega
      · rintro ⟨-, h⟩; exact absurd hm (h x (by simp))
    · rename_i hx
      have hm : x ∉ out := fun e => hx ((idx_mem out x).2 e)
      have := ih (out ++ [x])
      simp only [List.length_append, List.length_cons, List.length_nil] at this ⊢
      rw [show out.length + (r.length + 1) = out.length + (0 + 1) + r.length by omega, this, List.nodup_cons]
      constructor
      · rintro ⟨h1, h2⟩
        refine ⟨⟨fun e => h2 x e (by simp), h1⟩, fun y hy => ?_⟩
        rcases List.mem_cons.1 hy with rfl | hy
        · exact hm
        · exact fun e => h2 y hy (by simp [e])
      · rintro ⟨⟨h1, h2⟩, h3⟩
        refine ⟨h2, fun y hy e => ?_⟩
        rcases List.mem_append.1 e with e | e
        · exact h3 y (by simp [hy]) e
        · rw [List.mem_singleton] at e; subst e; exact h1 hy
theorem set_size_distinct (xs : List ByteArray) : (((uniteFrom [] xs).length : Int) == (xs.length : Int)) = distinct xs := by
  have h := unite_full xs []
  simp only [List.length_nil, Nat.zero_add, List.not_mem_nil, not_false_eq_true, implies_true, and_true] at h
  unfold distinct
  by_cases hd : xs.Nodup
  · rw [decide_eq_true hd]; simp [h.2 hd]
  · rw [decide_eq_false hd, beq_eq_false_iff_ne]
    intro e
    exact hd (h.1 (by omega))

theorem keyS : Maps.Keyed Try.prog 9 := Maps.string_keyed Try.underlying9
theorem zeroB (w : World) : (zeroValue 4).run Try.prog w = .ok (.bool false) w := by kernel_rfl
theorem run_makeHint (n : Int) (w : World) : (Instr.makeMap 145 (some (.int .i64 n))).run Try.prog w = .ok (.map (some w.heap.size)) (w.alloc (.map #[] 0)) := by
  simp [Instr.makeMap, run_underlying Try.underlying145, asInt, asIntOf, Result.andThen]

theorem set_made (w : World) : SetIs (w.alloc (.map #[] 0)) w.heap.size 0 [] :=
  ⟨.map [], World.ownsMap_made _ _ _ _, Maps.tidy_empty, fun _ => rfl, fun _ => rfl, rfl⟩
theorem SetIs.kept {w w' : World} {b n : Nat} {L : List ByteArray} {row : Option Nat} (h : SetIs w b n L) (hg : w.grownBy w' row) (hne : some b ≠ row) : SetIs w' b n L := by
  obtain ⟨D, ho, r⟩ := h
  exact ⟨D, ho.kept hg hne, r⟩
theorem SetIs.below {w w' : World} {b n : Nat} {L : List ByteArray} (h : SetIs w b n L) (hb : Below w.heap.size w w') : SetIs w' b n L := by
  obtain ⟨D, ho, r⟩ := h
  have hl := ho.lt
  obtain ⟨es, clock, hh, q⟩ := ho
  exact ⟨D, ⟨es, clock, (hb.block b hl).trans hh, q⟩, r⟩
theorem SetIs.alloc {w : World} {b n : Nat} {L : List ByteArray} (h : SetIs w b n L) (o : Obj) : SetIs (w.alloc o) b n L := h.below ((Below.refl _ _).alloc (Nat.le_refl _) o)
theorem SetIs.lt {w : World} {b n : Nat} {L : List ByteArray} (h : SetIs w b n L) : b < w.heap.size := by
  obtain ⟨D, ho, -⟩ := h
  exact ho.lt
theorem SetIs.more {w : World} {b n m : Nat} {L : List ByteArray} (h : SetIs w b n L) (hm : n ≤ m) : SetIs w b m L := by
  obtain ⟨D, ho, r⟩ := h
  exact ⟨D, ho.mono hm, r⟩

theorem plainElem_bool_inv {P : Program} {e : TypeId} (he : P.underlying e = some .bool) {v : Value} {z : DataW Unit × List MemPlace} (h : plainElem P e v = some z) : ∃ x, v = .bool x ∧ z = (.lit (.bool x), []) := by
  unfold plainElem at h
  rw [he] at h
  cases v <;> simp at h
  exact ⟨_, rfl, h.symm⟩
/-- 'm[s]'. -/
theorem SetIs.look {w : World} {b n : Nat} {L : List ByteArray} (h : SetIs w b n L) (s : ByteArray) (hs : s.size ≤ maxLen) :
    (Instr.lookup 145 (.map (some b)) (.string s) false).run Try.prog w = .ok (.bool (inL L s)) w := by
  obtain ⟨D, ho, -, -, hat, -⟩ := h
  obtain ⟨v, ps, hrun, hv⟩ := ho.lookup keyS Try.underlying145 (zeroB w) (plainElem_bool Try.underlying4 false) (keyOf_string_mk Try.underlying9 hs)
  obtain ⟨x, rfl, hx⟩ := plainElem_bool_inv Try.underlying4 hv
  have e := (congrArg Prod.fst hx).symm.trans (hat s)
  simp only [DataW.lit.injEq, Lit.bool.injEq] at e
  rw [hrun, e]
/-- 'm[s] = true'. -/
theorem inL_add (L : List ByteArray) (s y : ByteArray) : inL (L ++ [s]) y = true ↔ inL L y = true ∨ y = s := by
  unfold inL
  rw [decide_eq_true_iff, decide_eq_true_iff, idx_mem, idx_mem, List.mem_append, List.mem_singleton]
theorem SetIs.add {w' : World} {b n : Nat} {L : List ByteArray} {D : DataW Unit} (s : ByteArray) (ho : w'.ownsMap Try.prog 9 (plainElem Try.prog 4) b (n + 1) (D.put (litOf s) yes))
    (h : Maps.Tidy D ∧ (∀ s, Maps.has D (litOf s) = inL L s) ∧ (∀ s, D.atKey (litOf s) noo = .lit (.bool (inL L s))) ∧ Maps.size D = (uniteFrom [] L).length) : SetIs w' b (n + 1) (L ++ [s]) := by
  obtain ⟨ht, hh, ha, hz⟩ := h
  have hk : WideAt.IsKeyLit (litOf s) := trivial
  have hin : ∀ y, y = s → inL (L ++ [s]) y = true := fun y e => (inL_add L s y).2 (Or.inr e)
  have hout : ∀ y, y ≠ s → inL (L ++ [s]) y = inL L y := fun y e => by
    rw [Bool.eq_iff_iff, inL_add]
    exact ⟨fun h => h.resolve_right e, Or.inl⟩
  refine ⟨_, ho, ht.put hk _, fun y => ?_, fun y => ?_, ?_⟩
  · by_cases e : y = s
    · rw [hin y e, e, Maps.has_put_same ht.isMap hk]
    · rw [hout y e, Maps.has_put_other (fun e2 => e (litOf_inj e2)), hh]
  · by_cases e : y = s
    · rw [hin y e, e, Maps.atKey_put_same ht.isMap hk]; rfl
    · rw [hout y e, Maps.atKey_put_other (fun e2 => e (litOf_inj e2)), ha]
  · rw [Maps.size_put ht, hh, hz, unite_snoc]
    by_cases hm : s ∈ L
    · have h2 : 0 ≤ idx (uniteFrom [] L) s := (idx_mem _ _).2 ((unite_memI L [] s).2 (Or.inr hm))
      rw [inL_yes hm, if_pos h2]; rfl
    · have h2 : ¬ 0 ≤ idx (uniteFrom [] L) s := fun e => by
        rcases (unite_memI L [] s).1 ((idx_mem _ _).1 e) with h3 | h3
        · cases h3
        · exact hm h3
      rw [inL_no hm, if_neg h2, List.length_append]; rfl

section
variable (w : World) {ops : Array Oper} {rest : List Oper} {o : Oper} {a : Act} {Q : Exit → Act → World → Prop}
/-- 'm[s]' at the operation. -/
theorem look_set (hg : o.guard = none) (m x : Operand) (hop : o.op = Op.lookup 145 m x false) (b n : Nat) (L : List ByteArray) (hm : a.eval m = .map (some b)) (h : SetIs w b n L) (s : ByteArray) (hx : a.eval x = .string s) (hs : s.size ≤ maxLen) (c : Bool) (hc : inL L s = c)
    (hK : wpList Try.prog ops Q rest (a.put o.dst (.bool c)) w) : wpList Try.prog ops Q (o :: rest) a w := by
  refine wpList_plain hg fun K' hK' => ?_
  have hrun := h.look s hs
  rw [hc] at hrun
  unfold Oper.wp
  simp [execOp, hop, hm, hx, hrun, Result.andThen]
  exact hK' _ _ hK
/-- 'm[s] = true' at the operation. -/
theorem add_set (hg : o.guard = none) (m x v : Operand) (hop : o.op = Op.mapUpdate 145 m x v) (b n : Nat) (L : List ByteArray) (hm : a.eval m = .map (some b)) (h : SetIs w b n L) (hn : n < maxLen) (s : ByteArray) (hx : a.eval x = .string s) (hv : a.eval v = .bool true) (hs : s.size ≤ maxLen)
    (hK : ∀ w', SetIs w' b (n + 1) (L ++ [s]) → w.grownBy w' (some b) → wpList Try.prog ops Q rest (a.put o.dst undef) w') : wpList Try.prog ops Q (o :: rest) a w := by
  obtain ⟨D, ho, r⟩ := h
  exact wpList_mapUpdate_own w hg m x v 145 hop 9 4 keyS Try.underlying145 (plainElem Try.prog 4) b n D hm ho hn _ _ (litOf s) hx hv (keyOf_string_mk Try.underlying9 hs) yes [] (plainElem_bool Try.underlying4 true)
    (fun w' ho' hg' => hK w' (SetIs.add s ho' r) hg')
/-- 'len(m)' at the operation. -/
theorem len_set (hg : o.guard = none) (m : Operand) (hop : o.op = Op.call { callee := Callee.builtin Builtin.len, args := #[m], argTypes := #[145] }) (b n : Nat) (L : List ByteArray) (hm : a.eval m = .map (some b)) (h : SetIs w b n L)
    (hK : wpList Try.prog ops Q rest (a.put o.dst (.int .i64 ((uniteFrom [] L).length : Int))) w) : wpList Try.prog ops Q (o :: rest) a w := by
  obtain ⟨D, ho, -, -, -, hz⟩ := h
  rw [← hz] at hK
  exact wpList_len_own w hg m 145 hop 9 4 Try.underlying145 (plainElem Try.prog 4) b n D hm ho hK
end
end Go.Proofs.Ytbnghkgfbjipdaa
