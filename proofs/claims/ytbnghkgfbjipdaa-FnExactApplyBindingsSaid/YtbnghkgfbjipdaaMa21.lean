/- The program's own nodesWhere under nodesOnce$1: what it hands out. Condition: fewer than 2^40 nodes. The program's own nodesWhere under nodesOnce$1: what it hands out. Condition: fewer than 2^40 nodes. -/
import Derived.Test.YtbnghkgfbjipdaaMa15
import Derived.Test.YtbnghkgfbjipdaaMa20
namespace Go.Proofs.Ytbnghkgfbjipdaa
open Go Go.RowKit Go.Shelf
attribute [local go_sem] Oper.semAt_some

set_option maxRecDepth 100000 in
set_option maxHeartbeats 2000000 in
theorem nodes_onceG_in (F : Fence) (n : Nat) (hFw : F = Fence.wide) (hro : F.round = none) (hF : ∀ k, F.fn k) (hn : 3 ≤ n) (l Be Bg Bs : Nat) (wo : World) (e : Ex) (u : Value) (bs : List Nat) (n₀ gx : Nat) (he : ExIs wo (.agg #[.int .i64 e.kind, .string e.name, u]) e bs) (hbs : ∀ z ∈ bs, z < n₀ ∨ z = gx) (hsz : exSize e ≤ 1099511627776)
    (J Jx : List (It wo) → List Nat → World → Prop) (hJ : Minds J) (hJx : Minds Jx)
    (Inv : List (It wo) → List (It wo) → Prop) (hIb : ∀ pre st, Inv pre st → SubB bs (pre ++ st))
    (hY : ∀ pre x M W1, J pre M W1 → (∀ k ∈ M, k < W1.heap.size) → pre.length < exSize e → (∃ st, Inv pre (st ++ [x])) → YieldAt F (n - 1) Try.prog l #[x.val] W1 fun e W2 =>
      (e = .returned (.bool true) ∧ J (pre ++ [x]) M W2 ∧ Kept n₀ M W1 W2) ∨ (e = .returned (.bool false) ∧ Jx (pre ++ [x]) M W2 ∧ Kept n₀ M W1 W2))
    (Gs : List (It wo) → World → Prop) (ask : List (It wo) → It wo → Bool) (M0 Fg : List Nat)
    (hI0 : ∀ x : It wo, x.ex = e → x.1.2.2.2 = bs → Inv [] [x]) (hI1 : ∀ (pre st : List (It wo)) (x : It wo) (ks : List (It wo)), Inv pre (st ++ [x]) → ask pre x = true → ks.map It.ex = x.ex.args.reverse → KidB x.1.2.2.2 ks → Inv (pre ++ [x]) (st ++ ks))
    (hI2 : ∀ (pre st : List (It wo)) (x : It wo), Inv pre (st ++ [x]) → ask pre x = false → Inv (pre ++ [x]) st)
    (hGf : ∀ pre A B, Gs pre A → A.heap.size ≤ B.heap.size → (∀ k ∈ Fg, B.heap[k]? = A.heap[k]?) → Gs pre B)
    (hG : ∀ (pre : List (It wo)) (x : It wo) (A : Option Addr) (c : Nat) (W1 : World), Gs pre W1 → RdG n₀ gx wo W1 → x.1.2.2.1 = .slice A x.ex.args.length c → pre.length < exSize e → (∃ st, Inv pre (st ++ [x])) → CallsIn F (n - 1) Try.prog 116 #[.slice A x.ex.args.length c, .pointer (some ⟨Bs, 0, none⟩)] W1 fun r W2 => r = .returned (.bool (ask pre x)) ∧ Gs (pre ++ [x]) W2 ∧ Fr Fg W1 W2)
    (W : World) (hW : RdG n₀ gx wo W) (hgx : gx < W.heap.size ∧ gx ∉ Fg ∧ gx < wo.heap.size) (hQw : ∀ pre M W, J pre M W → W.heap[gx]? = wo.heap[gx]?) (hQx : ∀ pre M W, Jx pre M W → W.heap[gx]? = wo.heap[gx]?) (hM0 : ∀ k ∈ M0, n₀ ≤ k ∧ k < W.heap.size) (hBgM : Bg ∈ M0) (hFg : ∀ k ∈ Fg, k ∈ M0 ∧ k ≠ Bg) (hgb : Boxed W Bg 159 (.func (.func 116) #[] #[.pointer (some ⟨Bs, 0, none⟩)]))
    (h0 : W.cell? ⟨Be, 0, none⟩ = some (.int .i64 e.kind)) (h1 : W.cell? ⟨Be, 1, none⟩ = some (.string e.name)) (h2 : W.cell? ⟨Be, 2, none⟩ = some u) (hJ0 : J [] M0 W) (hGs0 : Gs [] W) :
    CallsIn F n Try.prog 128 #[.func (.yield l) #[] #[], .pointer (some ⟨Be, 0, none⟩), .pointer (some ⟨Bg, 0, none⟩)] W fun r W2 => (∃ v, r = .returned v) ∧
      ((∃ (xs : List (It wo)) (M : List Nat), Inv xs [] ∧ J xs M W2) ∨ (∃ (pre : List (It wo)) (M : List Nat), (∃ pre0 st0 x, pre = pre0 ++ [x] ∧ Inv pre0 (st0 ++ [x])) ∧ Jx pre M W2)) := by
  have hn1 : 1 ≤ n := by omega
  refine callsIn_of_wp_marks Try.func128 rfl (hF _) ?_ hro
  simp only [Try.ntmps128, List.size_toArray, List.length_cons, List.length_nil, Nat.reduceAdd, Nat.reduceSub, Array.replicate_succ, Array.replicate_zero, List.push_toArray, List.append_toArray, List.nil_append, List.cons_append]
  have HFW := Lib.hid hFw
  clear hFw
  have HE := Lib.hid he
  have HY := Lib.hid hY
  have HW := Lib.hid hW
  have HGX := Lib.hid hgx
  have HQW := Lib.hid (And.intro hQw hQx)
  have HBSS := Lib.hid (And.intro hbs hIb)
  have HJ := Lib.hid hJ
  have HJX := Lib.hid hJx
  have HJ0 := Lib.hid hJ0
  have HI1 := Lib.hid hI1
  have HI2 := Lib.hid hI2
  have HGF := Lib.hid hGf
  have HG := Lib.hid hG
  have HGS0 := Lib.hid hGs0
  have HM0 := Lib.hid hM0
  have HBM := Lib.hid hBgM
  have HFG := Lib.hid hFg
  have HGB := Lib.hid hgb
  have HI0 := Lib.hid hI0
  have HBG := Lib.hid (hM0 Bg hBgM).2
  have HFG2 := Lib.hid (fun k (hk : k ∈ Fg) => And.intro (hM0 k (hFg k hk).1).2 (And.intro (hFg k hk).2 (hM0 k (hFg k hk).1).1))
  clear hgx hQw hQx hbs hIb he hY hW hJ hJx hJ0 hI0 hI1 hI2 hGf hG hGs0 hM0 hBgM hFg hgb
  gi_wp2
  refine wpIn_loop_ghost_k (fun k a wr => ∃ (Ds M : List Nat) (pre st : List (It wo)) (lv : Value) (u5 u7 u10 u11 u12 u13 u14 u15 u16 u17 u18 u19 u20 u21 u22 u23 u24 u25 u26 u27 u28 u29 u30 u31 u32 u33 u34 u35 u38 u39 u40 u41 u42 u43 : Value), a = { tmps := #[.func (.yield l) #[] #[], .pointer (some ⟨Be, 0, none⟩), .pointer (some ⟨Bg, 0, none⟩), undef, .pointer (some ⟨W.heap.size + 1, 0, none⟩), u5, undef, u7, .agg #[.int .i64 e.kind, .string e.name, u], .slice (some ⟨W.heap.size, 0, none⟩) 1 1, u10, u11, u12, u13, u14, u15, u16, u17, u18, u19, u20, u21, u22, u23, u24, u25, u26, u27, u28, u29, u30, u31, u32, u33, u34, u35, undef, undef, u38, u39, u40, u41, u42, u43], defers := Ds.map markOf } ∧ Hid (J pre M wr) ∧ Hid (NdG wo n₀ gx W.heap.size (exSize e) Bg (.func (.func 116) #[] #[.pointer (some ⟨Bs, 0, none⟩)]) M0 Inv (W.heap.size + 1) pre st lv M wr) ∧ Hid (k = (due st).length) ∧ Hid (Marks W.heap.size Ds M wr) ∧ Hid (Gs pre wr)) (exSize e) ?_ ?_
  · have hs2 : ((W.alloc (.cells #[.int .i64 e.kind, .string e.name, u] 26)).alloc (.cells #[.slice (some ⟨W.heap.size, 0, none⟩) 1 1] 24)).heap.size = W.heap.size + 2 := by simp
    have hlw : Below W.heap.size W ((W.alloc (.cells #[.int .i64 e.kind, .string e.name, u] 26)).alloc (.cells #[.slice (some ⟨W.heap.size, 0, none⟩) 1 1] 24)) := ((Below.refl _ _).alloc (Nat.le_refl _) _).alloc (by simp) _
    have hwz : n₀ ≤ W.heap.size := Nat.le_trans HW.out.le HW.out.size
    have hle0 : ∀ k, k < W.heap.size → ((W.alloc (.cells #[.int .i64 e.kind, .string e.name, u] 26)).alloc (.cells #[.slice (some ⟨W.heap.size, 0, none⟩) 1 1] 24)).heap[k]? = W.heap[k]? := fun k hk => hlw.block k hk
    refine ⟨[], (W.heap.size + 1) :: W.heap.size :: M0, [], [⟨(0, e, u, bs), HE.out⟩], .slice (some ⟨W.heap.size, 0, none⟩) 1 1, _, _, _, _, _, _, _, _, _, _, _, _, _, _, _, _, _, _, _, _, _, _, _, _, _, _, _, _, _, _, _, _, _, _, rfl, Lib.hid (HJ.out _ _ _ _ _ HJ0.out (Fr.of_below hlw) (fun k hk => ?_)), Lib.hid ⟨HI0.out _ rfl rfl, ?_, ?_, ?_, by simp, fun k hk => by simp [Value.ownBlock] at hk; simp [hk], fun k hk => ?_, HW.out.trans (hlw.mono hwz) (hle0 _ HGX.out.1), by omega, fun k hk => ?_, fun k hk => by simp [hk], ?_⟩, Lib.hid ?_, Lib.hid ⟨by simp, by simp⟩, Lib.hid (HGF.out _ _ _ HGS0.out (by omega) (fun k hk => hle0 k (HFG2.out k hk).1))⟩
    · simp at hk
      rcases hk with rfl | rfl | hk
      · exact Or.inr (by omega)
      · exact Or.inr (Nat.le_refl _)
      · exact Or.inl hk
    · rw [show due [(⟨(0, e, u, bs), HE.out⟩ : It wo)] = exNodes e by simp [due, It.ex], nodes_len]; simp
    · have := Boxed.new (W.alloc (.cells #[.int .i64 e.kind, .string e.name, u] 26)) 24 (.slice (some ⟨W.heap.size, 0, none⟩) 1 1)
      rw [World.size_alloc] at this
      exact this
    · exact World.ownsRow.alloc (World.ownsRow_lit W #[.int .i64 e.kind, .string e.name, u] 1 (Nat.le_refl _) (by unfold maxLen; omega) rfl) _
    · simp at hk
      rcases hk with rfl | rfl | hk
      · omega
      · omega
      · have := (HM0.out k hk).2; omega
    · simp at hk
      rcases hk with rfl | rfl | hk
      · omega
      · exact hwz
      · exact (HM0.out k hk).1
    · exact box_on HGB.out (hle0 _ HBG.out)
    · rw [show due [(⟨(0, e, u, bs), HE.out⟩ : It wo)] = exNodes e by simp [due, It.ex], nodes_len]
  · rintro gk _ wr ⟨Ds, M, pre, st, lv, u5, u7, u10, u11, u12, u13, u14, u15, u16, u17, u18, u19, u20, u21, u22, u23, u24, u25, u26, u27, u28, u29, u30, u31, u32, u33, u34, u35, u38, u39, u40, u41, u42, u43, rfl, HJP, HND, HK, HMK, HGS⟩ JJ KK hJJ hKK
    rcases last_of st with rfl | ⟨st0, x, rfl⟩
    · have hbox := HND.out.box.cell
      have hbf := HND.out.box.frozen
      have hblt := HND.out.box.lt
      obtain ⟨AO, co, rfl⟩ : ∃ AO co, lv = .slice AO 0 co := by
        rcases HND.out.row.2 with ⟨h0, -⟩ | ⟨g, cap, cur, h0, -⟩
        · exact ⟨_, _, h0⟩
        · exact ⟨_, _, h0⟩
      gi_wp2
      exact leave_marks rfl Ds wr HMK.out.1 (fun D hD => (HMK.out.2 D hD).2.1) (fun v X hf => ⟨⟨_, rfl⟩, .inl ⟨pre, HND.out.inv, M, HJ.out _ _ _ _ _ HJP.out (hf.mono (fun k hk => Or.inl (HMK.out.2 k hk).1)) (fun k hk => Or.inl hk)⟩⟩)
    · have hbox := HND.out.box.cell
      have hbf := HND.out.box.frozen
      have hblt := HND.out.box.lt
      obtain ⟨g, cap, rfl, hgM, hgn, c0, c1, c2, hcap, hpop⟩ := HND.out.top
      have hbd := HND.out.bound
      obtain ⟨A, c, hu, hsl, hac1, hac2⟩ := x.slice
      rw [hu] at c2
      obtain ⟨q, hq⟩ : ∃ q, q = x.ex.args.length := ⟨_, rfl⟩
      rw [← hq] at c2 hu hsl hac1
      obtain ⟨m, hm⟩ : ∃ m, m = st0.length := ⟨_, rfl⟩
      rw [← hm] at hbox c0 c1 c2 hcap hpop
      have hm3 : (m : Int) + 1 ≤ 1099511627777 := by
        have := hbd.2
        simp at this
        omega
      have hcap3 : (cap : Int) ≤ 9223372036854775807 := by
        rcases hpop.2 with ⟨h0, -⟩ | ⟨g', cap', cur, hv, -, -, hn, hmx, -⟩
        · cases h0
        · cases hv; unfold maxLen at hmx; omega
      have HM := Lib.hid hm
      have HPOP := Lib.hid hpop
      have HBD := Lib.hid hbd
      have HQ := Lib.hid hq
      have HU := Lib.hid hu
      have HSL := Lib.hid hsl
      have HGM := Lib.hid hgM
      have HGN := Lib.hid hgn
      have HWR := Lib.hid (show W.heap.size ≤ wr.heap.size by have h3 := HND.out.box.lt; omega)
      clear hm hpop hbd hq hu hsl hgM hgn
      have HLEN := Lib.hid (show pre.length < exSize e by have := HBD.out.1; rw [due_one, List.length_cons] at this; omega)
      have HGW := Lib.hid (HGF.out pre wr ((wr.setCell ⟨W.heap.size + 1, 0, none⟩ (.slice (some ⟨g, 0, none⟩) m cap)).alloc (.cells #[.int .i64 x.ex.kind, .string x.ex.name, .slice A q c] 26)) HGS.out (by simp [World.setCell]) (fun k hk => by have := (HFG2.out k hk).1; have := HWR.out; rw [Below.heap_alloc _ _ k (by simp [World.setCell]; omega), Below.heap_setCell _ _ _ _ (by simp; omega)]))
      have HMD := Lib.hid (NdG.pop HND.out HBG.out HGX.out.1 HWR.out HPOP.out HGM.out HGN.out HMK.out (.cells #[.int .i64 x.ex.kind, .string x.ex.name, .slice A q c] 26))
      gi_wp2
      obtain ⟨Wy, hWy⟩ : ∃ Wy, Wy = (wr.setCell ⟨W.heap.size + 1, 0, none⟩ (.slice (some ⟨g, 0, none⟩) m cap)).alloc (.cells #[.int .i64 x.ex.kind, .string x.ex.name, .slice A q c] 26) := ⟨_, rfl⟩
      rw [← hWy]
      rw [← hWy] at HMD HGW
      obtain ⟨fn, tmps, assign, body, hy, hR⟩ := HY.out pre x (wr.heap.size :: M) Wy (HJ.out _ _ _ _ _ HJP.out HMD.out.2.1 HMD.out.2.2) HMD.out.1.lt HLEN.out ⟨st0, HND.out.inv⟩
      have hy2 : (Instr.yield l #[.agg #[.int .i64 x.ex.kind, .string x.ex.name, .slice A q c]]).run Try.prog Wy = .ok (.round l fn tmps assign body) Wy := by
        rw [← HU.out]; exact hy
      rw [hy2]
      refine ⟨fun _ => hn1, hR.mono ?_⟩
      clear hy hy2 hR hWy
      rintro r W3 (⟨rfl, hj3, hk3⟩ | ⟨rfl, hjx3, hk3⟩)
      · have HJ3 := Lib.hid hj3
        have HMD3 := Lib.hid (HMD.out.1.keep HBM.out ((HQW.out.1 _ _ _ hj3).trans HMD.out.1.low.at_.symm) hk3)
        have HGK3 := Lib.hid (HGF.out pre Wy W3 HGW.out hk3.1.size (fun k hk => hk3.2 k (HMD.out.1.own k (HFG.out k hk).1)))
        clear hj3 hk3
        have hnx := HMD3.out.nx
        have hn2 : W3.cell? ⟨wr.heap.size, 2, none⟩ = some (.slice A q c) := by simp [World.cell?, hnx]
        have hgc := HMD3.out.gbox.cell
        clear hnx
        have HASK := Lib.hid (fun (hh : Gs pre W3) => HG.out pre x A c W3 hh HMD3.out.low (by rw [← HQ.out]; exact HU.out) HLEN.out ⟨st0, HND.out.inv⟩)
        rw [← HQ.out] at HASK
        cases hask : ask pre x
        · rw [hask] at HASK
          have HNO := Lib.hid hask
          clear hask
          gi_wp2_with (gi_at_call 116; refine (HASK.out HGK3.out).mono ?_; rintro r W5 ⟨rfl, hgs5, hfr5⟩; have HGS5 := Lib.hid hgs5; have HFR5 := Lib.hid hfr5; clear hgs5 hfr5)
          have h5 := HMD3.out.asked HFR5.out HFG2.out HGX.out.2.2 HGX.out.2.1
          refine Handed.intro (due st0).length ?_ (hJJ _ _ _ ⟨Ds, wr.heap.size :: M, pre ++ [x], st0, .slice (some ⟨g, 0, none⟩) m cap, _, _, _, _, _, _, _, _, _, _, _, _, _, _, _, _, _, _, _, _, _, _, _, _, _, _, _, _, _, _, _, _, _, _, rfl, ?_, ?_, Lib.hid rfl, Lib.hid h5.marks, HGS5⟩)
          · rw [HK.out, due_one]; simp; omega
          · exact Lib.hid (HJ.out _ _ _ _ _ HJ3.out (HFR5.out.mono (fun k hk => Or.inl (h5.own k (HFG.out k hk).1))) (fun k hk => Or.inl hk))
          · refine Lib.hid ⟨HI2.out _ _ _ HND.out.inv HNO.out, ?_, h5.box, by rw [← HM.out]; exact h5.row, by simp [h5.inB], fun k hk => ?_, h5.lt, h5.low, h5.Bn, h5.Mn, h5.own, h5.gbox⟩
            · have h6 := HBD.out.1
              rw [due_one] at h6
              simp at h6 ⊢
              omega
            · obtain rfl : g = k := by simpa [Value.ownBlock] using hk
              simp [h5.inG]
        rw [hask] at HASK
        have HYES := Lib.hid hask
        clear hask
        gi_wp2_with (first
          | (gi_at_call 116; refine (HASK.out HGK3.out).mono ?_; rintro r W5 ⟨rfl, hgs5, hfr5⟩; have hn5 : W5.cell? ⟨wr.heap.size, 2, none⟩ = some (.slice A q c) := by
              have hnx := (HMD3.out.asked hfr5 HFG2.out HGX.out.2.2 HGX.out.2.1).nx
              simp [World.cell?, hnx]
             have HGS5 := Lib.hid hgs5; have HFR5 := Lib.hid hfr5; clear hgs5 hfr5)
          | (gi_at_call 114; refine (backward_in F (n - 1) (hF _) hro _ _ _ _).mono ?_; rintro r w4 ⟨rfl, rfl⟩))
        have HMD3 := Lib.hid (HMD3.out.asked HFR5.out HFG2.out HGX.out.2.2 HGX.out.2.1)
        have HJ3 := Lib.hid (HJ.out _ _ _ _ _ HJ3.out (HFR5.out.mono (fun k hk => Or.inl (HMD3.out.own k (HFG.out k hk).1))) (fun k hk => Or.inl hk))
        clear hn5 hn2 hgc
        clear HASK HGK3
        obtain ⟨W4, hW4⟩ : ∃ W4, W4 = W5.alloc (.cells #[.slice A q c] 24) := ⟨_, rfl⟩
        rw [← hW4]
        have HW4 := Lib.hid hW4
        have hs4 : W4.heap.size = W5.heap.size + 1 := by rw [hW4]; simp
        have HB4 := Lib.hid (show Below W5.heap.size W5 W4 by rw [hW4]; exact (Below.refl _ _).alloc (Nat.le_refl _) _)
        have hbs : W4.cell? ⟨W5.heap.size, 0, none⟩ = some (.slice A q c) := by rw [hW4]; exact (Boxed.new W5 _ _).cell
        clear hW4
        have HS4 := Lib.hid hs4
        have HBS := Lib.hid hbs
        clear hs4 hbs
        have hLow3 := HMD3.out.low.size
        refine wpIn_rangeFunc_frame hro hn1 (gf := 129) (lb := #[.pointer (some ⟨W5.heap.size, 0, none⟩)]) rfl (hF _) (enters_of Try.func129 (by kernel_rfl) rfl)
          (encs := fun y : It wo => #[.int .i64 (y.1.1 : Int), y.val]) (n₀ := W.heap.size) (S := fun xs => xs.map It.ex = x.ex.args.reverse ∧ KidB x.1.2.2.2 xs) (Sp := fun _ => True) (N := x.ex.args.length) (M0 := [W5.heap.size]) (w0 := W4)
          (fun l2 J2 Jx2 X hX _ _ hY2 h02 => back_inN F (n - 1) (hF _) hro (by omega) l2 W5.heap.size wo A q c x.ex.args x.1.2.2.2 W.heap.size HSL.out (fun z hz => (HBSS.out.1 z (HBSS.out.2 _ _ HND.out.inv x (by simp) z hz)).elim (fun h => by have := HW.out.le; have := HW.out.size; omega) (fun h => by rw [h]; exact HGX.out.1)) J2 Jx2 hY2 X ((hX.cell (p := ⟨W5.heap.size, 0, none⟩) (by rw [HS4.out]; exact Nat.lt_succ_self _)).trans HBS.out) (⟨Nat.le_trans HMD3.out.low.size (by have := hX.size; rw [HS4.out] at this; omega), fun z hz hl => (hX.block z (by have := HMD3.out.low.size; rw [HS4.out]; omega)).trans ((HB4.out.block z (Nat.lt_of_lt_of_le hl HMD3.out.low.size)).trans ((HMD3.out.low.keeps (fun z hz => HBSS.out.1 z (HBSS.out.2 _ _ HND.out.inv x (by simp) z hz))).2 z hz hl))⟩) h02)
          (Below.refl _ _) (by have h9 := (Array.getElem?_eq_some_iff.1 HMD3.out.nx).1; have := HWR.out; rw [HS4.out]; omega) (by have h9 := (Array.getElem?_eq_some_iff.1 HMD3.out.nx).1; have := HWR.out; simp; rw [HS4.out]; omega) (fun _ => rfl)
          (Pushed wo W.heap.size (W.heap.size + 1) m st0) (fun _ _ _ _ => False) (pushed_foot wo _ _ m st0) (fun _ _ _ _ _ h _ _ => h)
          [W.heap.size + 1, g] ?fp ?start (Parted wo W.heap.size (W.heap.size + 1) m st0 (fun pb y => #[.func (.yield l) #[] #[], .pointer (some ⟨Be, 0, none⟩), .pointer (some ⟨Bg, 0, none⟩), undef, .pointer (some ⟨W.heap.size + 1, 0, none⟩), .pointer (some ⟨wr.heap.size, 0, none⟩), undef, .pointer (some ⟨pb, 0, none⟩), .agg #[.int .i64 e.kind, .string e.name, u], .slice (some ⟨W.heap.size, 0, none⟩) 1 1, .slice (some ⟨g, 0, none⟩) (m + 1) cap, .int .i64 ((m : Int) + 1), .bool true, .slice (some ⟨g, 0, none⟩) (m + 1) cap, .slice (some ⟨g, 0, none⟩) (m + 1) cap, .int .i64 ((m : Int) + 1), .int .i64 (m : Int), .pointer (some ⟨g, m * 3, none⟩), .agg #[.int .i64 x.ex.kind, .string x.ex.name, .slice A q c], .slice (some ⟨g, 0, none⟩) (m + 1) cap, .slice (some ⟨g, 0, none⟩) (m + 1) cap, .int .i64 ((m : Int) + 1), .int .i64 (m : Int), .slice (some ⟨g, 0, none⟩) m cap, .func (.yield l) #[] #[], .agg #[.int .i64 x.ex.kind, .string x.ex.name, .slice A q c], .bool true, .bool false, .func (.func 116) #[] #[.pointer (some ⟨Bs, 0, none⟩)], .pointer (some ⟨wr.heap.size, 2, none⟩), .slice A q c, .bool true, .bool false, .pointer (some ⟨wr.heap.size, 2, none⟩), .slice A q c, .func (.func 129) #[] #[.pointer (some ⟨W5.heap.size, 0, none⟩)], .int .i64 (y.1.1 : Int), y.val, u38, u39, u40, u41, u42, u43])) (parted_foot wo _ _ m st0 _) ?assign ?body ?done ?stop
        case fp =>
          intro k hk
          simp only [List.mem_cons, List.not_mem_nil, or_false] at hk
          have h3 := HMD3.out
          have hB := h3.lt (W.heap.size + 1) (List.mem_cons_of_mem _ h3.inB)
          have hG := h3.lt g (List.mem_cons_of_mem _ h3.inG)
          rcases hk with rfl | rfl
          · exact ⟨Nat.le_succ _, by rw [HS4.out]; omega, by simp; omega⟩
          · exact ⟨h3.gn, by rw [HS4.out]; omega, by simp; omega⟩
        case start =>
          have h3 := HMD3.out
          exact ⟨some ⟨g, 0, none⟩, cap, rfl, box_on h3.box (HB4.out.block _ h3.box.lt), by rw [List.append_nil]; exact row_on h3.row (fun k e => HB4.out.block _ (h3.lt _ (by rw [show k = g by simpa [Value.ownBlock, eq_comm] using e]; exact List.mem_cons_of_mem _ h3.inG)))⟩
        case assign =>
          intro l2 pre2 y Fp X KX hI hFp hFr hK
          obtain ⟨AO, co, rfl, h1, h2⟩ := hI
          obtain ⟨A2, c2, hu2, -, -, -⟩ := y.slice
          have hv : y.val = .agg #[.int .i64 y.ex.kind, .string y.ex.name, .slice A2 y.ex.args.length c2] := by rw [← hu2]; rfl
          have HU2 := Lib.hid hu2
          have HV := Lib.hid hv
          have H1 := Lib.hid h1
          have H2 := Lib.hid h2
          have HFP := Lib.hid hFp
          have HKX := Lib.hid hK
          dsimp only
          rw [hv]
          clear hu2 hv h1 h2 hFp hFr hK
          gi_wp2
          refine HKX.out _ (X.heap.size :: (W.heap.size + 1) :: (Value.ownBlock (.slice AO (m + pre2.length) co)).toList) _ (Fr.alloc _ _) (fun k hk => ?_) ⟨X.heap.size, AO, co, rfl, ?_, ⟨?_, ?_⟩, H1.out.alloc _, H2.out.alloc _, ?_⟩
          · rcases List.mem_cons.1 hk with rfl | hk
            · exact ⟨Or.inr (Nat.le_refl _), by simp⟩
            · exact ⟨Or.inl hk, by have := (HFP.out k hk).2; simp; omega⟩
          · rw [HU2.out]; exact World.alloc_heap_new X _
          · have := H1.out.lt; omega
          · intro e
            have := (H2.out.lt _ e).2
            omega
          · dsimp only; rw [HV.out]
        case body =>
          rintro l2 pre2 y _ Fp X ⟨pb, AO, co, rfl, hpb, hne, h1, h2, rfl⟩ hFp hFr hlen
          obtain ⟨A2, c2, hu2, -, -, -⟩ := y.slice
          have HFP := Lib.hid hFp
          have HNE := Lib.hid hne
          have H1 := Lib.hid h1
          have H2 := Lib.hid h2
          have HPB := Lib.hid hpb
          have HU2 := Lib.hid hu2
          have HKL := Lib.hid (show m + pre2.length ≤ 1099511627776 by
            have h5 := HBD.out.1
            rw [due_one, List.length_cons, List.length_append] at h5
            have h6 := due_len st0
            have h7 : x.ex.args.length ≤ (exNodesL x.ex.args).length := by rw [(nodes_size _).2 x.ex.args (Nat.le_refl _)]; exact sizes_len _
            have := HM.out
            omega)
          clear hFp hFr hne h1 h2 hpb hu2 hlen
          have hfw := HFW.out
          subst hfw
          gi_wp2
          refine region_round (R := PushEnd W.heap.size (W.heap.size + 1) (m + pre2.length) (.slice AO (m + pre2.length) co) (flat (st0 ++ pre2)) y.cells X) (by kernel_rfl) (all_not (by rfl))
            (push_any "l03_expr.go:109" [] W.heap.size (W.heap.size + 1) pb (m + pre2.length) co y.ex.args.length c2 AO A2 y.ex.kind y.ex.name (flat (st0 ++ pre2)) X _ _ _ _ _ _ _ _ _ _ _ _ _ _ _ _ _ _ _ _ _ _ _ _ _ _ _ _ _ _ _ _ _ _ _ _ _ _ _ _ _ _
              H1.out H2.out HNE.out (by rw [← HU2.out]; exact HPB.out) (by have := H1.out.lt; omega) HKL.out (fun Y hY => by rw [It.cells, HU2.out]; exact hY)) (fun _ Y hY => ?_)
          exact pushed_step hY (HFP.out _ (by simp)).2 pb
        case done =>
          rintro D ks Fp X hD hDF hFl hS ⟨AO, co, rfl, h1, h2⟩ hFr hK
          have h3 := HMD3.out
          have hfrX : Fr (wr.heap.size :: M) W5 X := (Fr.of_below HB4.out).trans hFr (fun z hz => by
            simp at hz
            rcases hz with rfl | rfl | rfl
            · exact Or.inl (List.mem_cons_of_mem _ h3.inB)
            · exact Or.inl (List.mem_cons_of_mem _ h3.inG)
            · exact Or.inr (Nat.le_refl _))
          have hs4 := HS4.out
          have hXs := hFr.size
          have hDl : D < X.heap.size := (Array.getElem?_eq_some_iff.1 hK).1
          have hown : ∀ k, Value.ownBlock (.slice AO (m + ks.length) co) = some k → (k ∈ wr.heap.size :: M ∨ W5.heap.size ≤ k) ∧ k < X.heap.size := fun k hk => by
            obtain ⟨e1, e2⟩ := hFl k (by simp [hk])
            refine ⟨?_, e1⟩
            rcases e2 with e2 | e2
            · simp at e2
              rcases e2 with rfl | rfl
              · exact Or.inl (List.mem_cons_of_mem _ h3.inB)
              · exact Or.inl (List.mem_cons_of_mem _ h3.inG)
            · exact Or.inr (by omega)
          have hM2 : ∀ k ∈ D :: ((Value.ownBlock (.slice AO (m + ks.length) co)).toList ++ wr.heap.size :: M), (k ∈ wr.heap.size :: M ∨ W5.heap.size ≤ k) ∧ k < X.heap.size := fun k hk => by
            rcases List.mem_cons.1 hk with rfl | hk
            · exact ⟨Or.inr (by omega), hDl⟩
            · rcases List.mem_append.1 hk with hk | hk
              · exact hown k (by simpa using hk)
              · exact ⟨Or.inl hk, Nat.lt_of_lt_of_le (h3.lt k hk) hfrX.size⟩
          have hfrX2 : Fr [W.heap.size + 1, g] W5 X := (Fr.of_below HB4.out).trans hFr (fun z hz => by
            simp at hz
            rcases hz with rfl | rfl | rfl
            · exact Or.inl (by simp)
            · exact Or.inl (by simp)
            · exact Or.inr (Nat.le_refl _))
          have hlowX : Below n₀ W5 X := hfrX.below h3.Mn (Nat.le_trans h3.low.le h3.low.size)
          have hdue : due (st0 ++ ks) = exNodesL x.ex.args ++ due st0 := by rw [due_app, due_kids ks _ hS.1]
          show KK _ _
          refine hKK _ _ (Handed.intro (due (st0 ++ ks)).length ?_ (hJJ _ _ _ ⟨D :: Ds, D :: ((Value.ownBlock (.slice AO (m + ks.length) co)).toList ++ wr.heap.size :: M), pre ++ [x], st0 ++ ks, .slice AO (m + ks.length) co, _, _, _, _, _, _, _, _, _, _, _, _, _, _, _, _, _, _, _, _, _, _, _, _, _, _, _, _, _, _, _, _, _, _, rfl, ?_, ?_, Lib.hid rfl, ?_, ?_⟩))
          · rw [HK.out, due_one, hdue]; simp
          · exact Lib.hid (HJ.out _ _ _ _ _ HJ3.out hfrX (fun k hk => (hM2 k hk).1))
          · refine Lib.hid ⟨HI1.out _ _ _ _ HND.out.inv HYES.out hS.1 hS.2, ?_, h1, ?_, by simp [h3.inB], fun k hk => by simp [hk], fun k hk => (hM2 k hk).2, h3.low.trans hlowX (hfrX2.block _ (Nat.lt_of_lt_of_le HGX.out.2.2 h3.low.size) (by have h8 := HGX.out.1; have h9 := h3.gn; simp; omega)), h3.Bn, fun k hk => (hM2 k hk).1.elim (h3.Mn k) (fun h => by have := h3.low.le; have := h3.low.size; omega), fun k hk => ?_, box_on h3.gbox (hfrX2.block _ h3.gbox.lt (by simp; have := HBG.out; have := h3.Bn; have := h3.gn; omega))⟩
            · have h6 := HBD.out.1
              rw [due_one] at h6
              rw [hdue]
              simp at h6 ⊢
              omega
            · rw [List.length_append, ← HM.out]; exact h2
            · simp only [List.mem_cons, List.mem_append]
              exact Or.inr (Or.inr (List.mem_cons.1 (h3.own k hk)))
          · refine Lib.hid ⟨List.nodup_cons.2 ⟨fun h => ?_, h3.marks.1⟩, fun E hE => ?_⟩
            · have := h3.lt D (h3.marks.2 D h).1
              omega
            · rcases List.mem_cons.1 hE with rfl | hE
              · exact ⟨by simp, hK, by have := h3.box.lt; omega⟩
              · obtain ⟨e1, e2, e3⟩ := h3.marks.2 E hE
                have hEl := h3.lt E e1
                have hEB : E ≠ W.heap.size + 1 := fun e => by
                  have hb := h3.box
                  unfold Boxed at hb
                  rw [← e, e2] at hb
                  cases hb
                have hEg : E ≠ g := fun e => by
                  rcases h3.row.2 with ⟨h0, -⟩ | ⟨g', cap', cur, hv, -, hb, -⟩
                  · cases h0
                  · cases hv
                    rw [← e, e2] at hb
                    cases hb
                refine ⟨by simp only [List.mem_cons, List.mem_append]; exact Or.inr (Or.inr (List.mem_cons.1 e1)), ?_, e3⟩
                exact (hFr.block E (by omega) (by simp; omega)).trans ((HB4.out.block E hEl).trans e2)
          · exact Lib.hid (HGF.out _ _ _ HGS5.out hfrX2.size (fun k hk => hfrX2.block k (by have := (HFG2.out k hk).1; have := h3.box.lt; have := h3.Bn; omega) (by simp; have := (HFG2.out k hk).1; have := h3.Bn; have := h3.gn; omega)))
        case stop =>
          rintro D c2 pre2 Fp X _ _ _ _ h _ _
          exact h.elim
      · have h3 := HMD.out.1.keep HBM.out ((HQW.out.2 _ _ _ hjx3).trans HMD.out.1.low.at_.symm) hk3
        have HJ3 := Lib.hid hjx3
        have HMD3 := Lib.hid h3
        clear h3 hjx3 hk3
        gi_wp2
        exact leave_marks rfl Ds W3 HMD3.out.marks.1 (fun D hD => (HMD3.out.marks.2 D hD).2.1) (fun v X hf => ⟨⟨_, rfl⟩, .inr ⟨_, wr.heap.size :: M, ⟨pre, st0, x, rfl, HND.out.inv⟩, HJX.out _ _ _ _ _ HJ3.out (hf.mono (fun k hk => Or.inl (HMD3.out.marks.2 k hk).1)) (fun k hk => Or.inl hk)⟩⟩)
end Go.Proofs.Ytbnghkgfbjipdaa

namespace Go.Proofs.Ytbnghkgfbjipdaa
open Go Go.RowKit Go.Shelf
attribute [local go_sem] Oper.semAt_some

set_option maxRecDepth 100000 in
set_option maxHeartbeats 2000000 in
theorem nodes_once_in (F : Fence) (n : Nat) (hFw : F = Fence.wide) (hro : F.round = none) (hF : ∀ k, F.fn k) (hn : 3 ≤ n) (l Be Bg Bs : Nat) (wo : World) (e : Ex) (u : Value) (bs : List Nat) (he : ExIs wo (.agg #[.int .i64 e.kind, .string e.name, u]) e bs) (hsz : exSize e ≤ 1099511627776)
    (J Jx : List (It wo) → List Nat → World → Prop) (hJ : Minds J) (hJx : Minds Jx)
    (hY : ∀ pre x M W1, J pre M W1 → (∀ k ∈ M, k < W1.heap.size) → pre.length < exSize e → YieldAt F (n - 1) Try.prog l #[x.val] W1 fun e W2 =>
      (e = .returned (.bool true) ∧ J (pre ++ [x]) M W2 ∧ Kept wo.heap.size M W1 W2) ∨ (e = .returned (.bool false) ∧ Jx (pre ++ [x]) M W2 ∧ Kept wo.heap.size M W1 W2))
    (Inv : List (It wo) → List (It wo) → Prop) (Gs : List (It wo) → World → Prop) (ask : List (It wo) → It wo → Bool) (M0 Fg : List Nat)
    (hI0 : ∀ x : It wo, x.ex = e → x.1.2.2.2 = bs → Inv [] [x]) (hI1 : ∀ (pre st : List (It wo)) (x : It wo) (ks : List (It wo)), Inv pre (st ++ [x]) → ask pre x = true → ks.map It.ex = x.ex.args.reverse → SubB x.1.2.2.2 ks → Inv (pre ++ [x]) (st ++ ks))
    (hI2 : ∀ (pre st : List (It wo)) (x : It wo), Inv pre (st ++ [x]) → ask pre x = false → Inv (pre ++ [x]) st)
    (hGf : ∀ pre A B, Gs pre A → A.heap.size ≤ B.heap.size → (∀ k ∈ Fg, B.heap[k]? = A.heap[k]?) → Gs pre B)
    (hG : ∀ (pre : List (It wo)) (x : It wo) (A : Option Addr) (c : Nat) (W1 : World), Gs pre W1 → Below wo.heap.size wo W1 → x.1.2.2.1 = .slice A x.ex.args.length c → pre.length < exSize e → (∃ st, Inv pre (st ++ [x])) → CallsIn F (n - 1) Try.prog 116 #[.slice A x.ex.args.length c, .pointer (some ⟨Bs, 0, none⟩)] W1 fun r W2 => r = .returned (.bool (ask pre x)) ∧ Gs (pre ++ [x]) W2 ∧ Fr Fg W1 W2)
    (W : World) (hW : Below wo.heap.size wo W) (hM0 : ∀ k ∈ M0, wo.heap.size ≤ k ∧ k < W.heap.size) (hBgM : Bg ∈ M0) (hFg : ∀ k ∈ Fg, k ∈ M0 ∧ k ≠ Bg) (hgb : Boxed W Bg 159 (.func (.func 116) #[] #[.pointer (some ⟨Bs, 0, none⟩)]))
    (h0 : W.cell? ⟨Be, 0, none⟩ = some (.int .i64 e.kind)) (h1 : W.cell? ⟨Be, 1, none⟩ = some (.string e.name)) (h2 : W.cell? ⟨Be, 2, none⟩ = some u) (hJ0 : J [] M0 W) (hGs0 : Gs [] W) :
    CallsIn F n Try.prog 128 #[.func (.yield l) #[] #[], .pointer (some ⟨Be, 0, none⟩), .pointer (some ⟨Bg, 0, none⟩)] W fun r W2 => (∃ v, r = .returned v) ∧
      ((∃ (xs : List (It wo)) (M : List Nat), Inv xs [] ∧ J xs M W2) ∨ (∃ (pre : List (It wo)) (M : List Nat), (∃ pre0 st0 x, pre = pre0 ++ [x] ∧ Inv pre0 (st0 ++ [x])) ∧ Jx pre M W2)) := by
  have hn1 : 1 ≤ n := by omega
  refine callsIn_of_wp_marks Try.func128 rfl (hF _) ?_ hro
  simp only [Try.ntmps128, List.size_toArray, List.length_cons, List.length_nil, Nat.reduceAdd, Nat.reduceSub, Array.replicate_succ, Array.replicate_zero, List.push_toArray, List.append_toArray, List.nil_append, List.cons_append]
  have HFW := Lib.hid hFw
  clear hFw
  have HE := Lib.hid he
  have HY := Lib.hid hY
  have HW := Lib.hid hW
  have HJ := Lib.hid hJ
  have HJX := Lib.hid hJx
  have HJ0 := Lib.hid hJ0
  have HI1 := Lib.hid hI1
  have HI2 := Lib.hid hI2
  have HGF := Lib.hid hGf
  have HG := Lib.hid hG
  have HGS0 := Lib.hid hGs0
  have HM0 := Lib.hid hM0
  have HBM := Lib.hid hBgM
  have HFG := Lib.hid hFg
  have HGB := Lib.hid hgb
  have HI0 := Lib.hid hI0
  have HBG := Lib.hid (hM0 Bg hBgM).2
  have HFG2 := Lib.hid (fun k (hk : k ∈ Fg) => And.intro (hM0 k (hFg k hk).1).2 (And.intro (hFg k hk).2 (hM0 k (hFg k hk).1).1))
  clear he hY hW hJ hJx hJ0 hI0 hI1 hI2 hGf hG hGs0 hM0 hBgM hFg hgb
  gi_wp2
  refine wpIn_loop_ghost_k (fun k a wr => ∃ (Ds M : List Nat) (pre st : List (It wo)) (lv : Value) (u5 u7 u10 u11 u12 u13 u14 u15 u16 u17 u18 u19 u20 u21 u22 u23 u24 u25 u26 u27 u28 u29 u30 u31 u32 u33 u34 u35 u38 u39 u40 u41 u42 u43 : Value), a = { tmps := #[.func (.yield l) #[] #[], .pointer (some ⟨Be, 0, none⟩), .pointer (some ⟨Bg, 0, none⟩), undef, .pointer (some ⟨W.heap.size + 1, 0, none⟩), u5, undef, u7, .agg #[.int .i64 e.kind, .string e.name, u], .slice (some ⟨W.heap.size, 0, none⟩) 1 1, u10, u11, u12, u13, u14, u15, u16, u17, u18, u19, u20, u21, u22, u23, u24, u25, u26, u27, u28, u29, u30, u31, u32, u33, u34, u35, undef, undef, u38, u39, u40, u41, u42, u43], defers := Ds.map markOf } ∧ Hid (J pre M wr) ∧ Hid (Nd wo W.heap.size (exSize e) Bg (.func (.func 116) #[] #[.pointer (some ⟨Bs, 0, none⟩)]) M0 Inv (W.heap.size + 1) pre st lv M wr) ∧ Hid (k = (due st).length) ∧ Hid (Marks W.heap.size Ds M wr) ∧ Hid (Gs pre wr)) (exSize e) ?_ ?_
  · have hs2 : ((W.alloc (.cells #[.int .i64 e.kind, .string e.name, u] 26)).alloc (.cells #[.slice (some ⟨W.heap.size, 0, none⟩) 1 1] 24)).heap.size = W.heap.size + 2 := by simp
    have hlw : Below W.heap.size W ((W.alloc (.cells #[.int .i64 e.kind, .string e.name, u] 26)).alloc (.cells #[.slice (some ⟨W.heap.size, 0, none⟩) 1 1] 24)) := ((Below.refl _ _).alloc (Nat.le_refl _) _).alloc (by simp) _
    have hwz := HW.out.size
    have hle0 : ∀ k, k < W.heap.size → ((W.alloc (.cells #[.int .i64 e.kind, .string e.name, u] 26)).alloc (.cells #[.slice (some ⟨W.heap.size, 0, none⟩) 1 1] 24)).heap[k]? = W.heap[k]? := fun k hk => hlw.block k hk
    refine ⟨[], (W.heap.size + 1) :: W.heap.size :: M0, [], [⟨(0, e, u, bs), HE.out⟩], .slice (some ⟨W.heap.size, 0, none⟩) 1 1, _, _, _, _, _, _, _, _, _, _, _, _, _, _, _, _, _, _, _, _, _, _, _, _, _, _, _, _, _, _, _, _, _, _, rfl, Lib.hid (HJ.out _ _ _ _ _ HJ0.out (Fr.of_below hlw) (fun k hk => ?_)), Lib.hid ⟨HI0.out _ rfl rfl, ?_, ?_, ?_, by simp, fun k hk => by simp [Value.ownBlock] at hk; simp [hk], fun k hk => ?_, HW.out.trans (hlw.mono hwz), by omega, fun k hk => ?_, fun k hk => by simp [hk], ?_⟩, Lib.hid ?_, Lib.hid ⟨by simp, by simp⟩, Lib.hid (HGF.out _ _ _ HGS0.out (by omega) (fun k hk => hle0 k (HFG2.out k hk).1))⟩
    · simp at hk
      rcases hk with rfl | rfl | hk
      · exact Or.inr (by omega)
      · exact Or.inr (Nat.le_refl _)
      · exact Or.inl hk
    · rw [show due [(⟨(0, e, u, bs), HE.out⟩ : It wo)] = exNodes e by simp [due, It.ex], nodes_len]; simp
    · have := Boxed.new (W.alloc (.cells #[.int .i64 e.kind, .string e.name, u] 26)) 24 (.slice (some ⟨W.heap.size, 0, none⟩) 1 1)
      rw [World.size_alloc] at this
      exact this
    · exact World.ownsRow.alloc (World.ownsRow_lit W #[.int .i64 e.kind, .string e.name, u] 1 (Nat.le_refl _) (by unfold maxLen; omega) rfl) _
    · simp at hk
      rcases hk with rfl | rfl | hk
      · omega
      · omega
      · have := (HM0.out k hk).2; omega
    · simp at hk
      rcases hk with rfl | rfl | hk
      · omega
      · exact hwz
      · exact (HM0.out k hk).1
    · exact box_on HGB.out (hle0 _ HBG.out)
    · rw [show due [(⟨(0, e, u, bs), HE.out⟩ : It wo)] = exNodes e by simp [due, It.ex], nodes_len]
  · rintro gk _ wr ⟨Ds, M, pre, st, lv, u5, u7, u10, u11, u12, u13, u14, u15, u16, u17, u18, u19, u20, u21, u22, u23, u24, u25, u26, u27, u28, u29, u30, u31, u32, u33, u34, u35, u38, u39, u40, u41, u42, u43, rfl, HJP, HND, HK, HMK, HGS⟩ JJ KK hJJ hKK
    rcases last_of st with rfl | ⟨st0, x, rfl⟩
    · have hbox := HND.out.box.cell
      have hbf := HND.out.box.frozen
      have hblt := HND.out.box.lt
      obtain ⟨AO, co, rfl⟩ : ∃ AO co, lv = .slice AO 0 co := by
        rcases HND.out.row.2 with ⟨h0, -⟩ | ⟨g, cap, cur, h0, -⟩
        · exact ⟨_, _, h0⟩
        · exact ⟨_, _, h0⟩
      gi_wp2
      exact leave_marks rfl Ds wr HMK.out.1 (fun D hD => (HMK.out.2 D hD).2.1) (fun v X hf => ⟨⟨_, rfl⟩, .inl ⟨pre, HND.out.inv, M, HJ.out _ _ _ _ _ HJP.out (hf.mono (fun k hk => Or.inl (HMK.out.2 k hk).1)) (fun k hk => Or.inl hk)⟩⟩)
    · have hbox := HND.out.box.cell
      have hbf := HND.out.box.frozen
      have hblt := HND.out.box.lt
      obtain ⟨g, cap, rfl, hgM, hgn, c0, c1, c2, hcap, hpop⟩ := HND.out.top
      have hbd := HND.out.bound
      obtain ⟨A, c, hu, hsl, hac1, hac2⟩ := x.slice
      rw [hu] at c2
      obtain ⟨q, hq⟩ : ∃ q, q = x.ex.args.length := ⟨_, rfl⟩
      rw [← hq] at c2 hu hsl hac1
      obtain ⟨m, hm⟩ : ∃ m, m = st0.length := ⟨_, rfl⟩
      rw [← hm] at hbox c0 c1 c2 hcap hpop
      have hm3 : (m : Int) + 1 ≤ 1099511627777 := by
        have := hbd.2
        simp at this
        omega
      have hcap3 : (cap : Int) ≤ 9223372036854775807 := by
        rcases hpop.2 with ⟨h0, -⟩ | ⟨g', cap', cur, hv, -, -, hn, hmx, -⟩
        · cases h0
        · cases hv; unfold maxLen at hmx; omega
      have HM := Lib.hid hm
      have HPOP := Lib.hid hpop
      have HBD := Lib.hid hbd
      have HQ := Lib.hid hq
      have HU := Lib.hid hu
      have HSL := Lib.hid hsl
      have HGM := Lib.hid hgM
      have HGN := Lib.hid hgn
      have HWR := Lib.hid (show W.heap.size ≤ wr.heap.size by have h3 := HND.out.box.lt; omega)
      clear hm hpop hbd hq hu hsl hgM hgn
      have HLEN := Lib.hid (show pre.length < exSize e by have := HBD.out.1; rw [due_one, List.length_cons] at this; omega)
      have HGW := Lib.hid (HGF.out pre wr ((wr.setCell ⟨W.heap.size + 1, 0, none⟩ (.slice (some ⟨g, 0, none⟩) m cap)).alloc (.cells #[.int .i64 x.ex.kind, .string x.ex.name, .slice A q c] 26)) HGS.out (by simp [World.setCell]) (fun k hk => by have := (HFG2.out k hk).1; have := HWR.out; rw [Below.heap_alloc _ _ k (by simp [World.setCell]; omega), Below.heap_setCell _ _ _ _ (by simp; omega)]))
      have HMD := Lib.hid (Nd.pop HND.out HBG.out HWR.out HPOP.out HGM.out HGN.out HMK.out (.cells #[.int .i64 x.ex.kind, .string x.ex.name, .slice A q c] 26))
      gi_wp2
      obtain ⟨Wy, hWy⟩ : ∃ Wy, Wy = (wr.setCell ⟨W.heap.size + 1, 0, none⟩ (.slice (some ⟨g, 0, none⟩) m cap)).alloc (.cells #[.int .i64 x.ex.kind, .string x.ex.name, .slice A q c] 26) := ⟨_, rfl⟩
      rw [← hWy]
      rw [← hWy] at HMD HGW
      obtain ⟨fn, tmps, assign, body, hy, hR⟩ := HY.out pre x (wr.heap.size :: M) Wy (HJ.out _ _ _ _ _ HJP.out HMD.out.2.1 HMD.out.2.2) HMD.out.1.lt HLEN.out
      have hy2 : (Instr.yield l #[.agg #[.int .i64 x.ex.kind, .string x.ex.name, .slice A q c]]).run Try.prog Wy = .ok (.round l fn tmps assign body) Wy := by
        rw [← HU.out]; exact hy
      rw [hy2]
      refine ⟨fun _ => hn1, hR.mono ?_⟩
      clear hy hy2 hR hWy
      rintro r W3 (⟨rfl, hj3, hk3⟩ | ⟨rfl, hjx3, hk3⟩)
      · have HJ3 := Lib.hid hj3
        have HMD3 := Lib.hid (HMD.out.1.keep HBM.out hk3)
        have HGK3 := Lib.hid (HGF.out pre Wy W3 HGW.out hk3.1.size (fun k hk => hk3.2 k (HMD.out.1.own k (HFG.out k hk).1)))
        clear hj3 hk3
        have hnx := HMD3.out.nx
        have hn2 : W3.cell? ⟨wr.heap.size, 2, none⟩ = some (.slice A q c) := by simp [World.cell?, hnx]
        have hgc := HMD3.out.gbox.cell
        clear hnx
        have HASK := Lib.hid (fun (hh : Gs pre W3) => HG.out pre x A c W3 hh HMD3.out.low (by rw [← HQ.out]; exact HU.out) HLEN.out ⟨st0, HND.out.inv⟩)
        rw [← HQ.out] at HASK
        cases hask : ask pre x
        · rw [hask] at HASK
          have HNO := Lib.hid hask
          clear hask
          gi_wp2_with (gi_at_call 116; refine (HASK.out HGK3.out).mono ?_; rintro r W5 ⟨rfl, hgs5, hfr5⟩; have HGS5 := Lib.hid hgs5; have HFR5 := Lib.hid hfr5; clear hgs5 hfr5)
          have h5 := HMD3.out.asked HFR5.out HFG2.out
          refine Handed.intro (due st0).length ?_ (hJJ _ _ _ ⟨Ds, wr.heap.size :: M, pre ++ [x], st0, .slice (some ⟨g, 0, none⟩) m cap, _, _, _, _, _, _, _, _, _, _, _, _, _, _, _, _, _, _, _, _, _, _, _, _, _, _, _, _, _, _, _, _, _, _, rfl, ?_, ?_, Lib.hid rfl, Lib.hid h5.marks, HGS5⟩)
          · rw [HK.out, due_one]; simp; omega
          · exact Lib.hid (HJ.out _ _ _ _ _ HJ3.out (HFR5.out.mono (fun k hk => Or.inl (h5.own k (HFG.out k hk).1))) (fun k hk => Or.inl hk))
          · refine Lib.hid ⟨HI2.out _ _ _ HND.out.inv HNO.out, ?_, h5.box, by rw [← HM.out]; exact h5.row, by simp [h5.inB], fun k hk => ?_, h5.lt, h5.low, h5.Bn, h5.Mn, h5.own, h5.gbox⟩
            · have h6 := HBD.out.1
              rw [due_one] at h6
              simp at h6 ⊢
              omega
            · obtain rfl : g = k := by simpa [Value.ownBlock] using hk
              simp [h5.inG]
        rw [hask] at HASK
        have HYES := Lib.hid hask
        clear hask
        gi_wp2_with (first
          | (gi_at_call 116; refine (HASK.out HGK3.out).mono ?_; rintro r W5 ⟨rfl, hgs5, hfr5⟩; have hn5 : W5.cell? ⟨wr.heap.size, 2, none⟩ = some (.slice A q c) := by
              have hnx := (HMD3.out.asked hfr5 HFG2.out).nx
              simp [World.cell?, hnx]
             have HGS5 := Lib.hid hgs5; have HFR5 := Lib.hid hfr5; clear hgs5 hfr5)
          | (gi_at_call 114; refine (backward_in F (n - 1) (hF _) hro _ _ _ _).mono ?_; rintro r w4 ⟨rfl, rfl⟩))
        have HMD3 := Lib.hid (HMD3.out.asked HFR5.out HFG2.out)
        have HJ3 := Lib.hid (HJ.out _ _ _ _ _ HJ3.out (HFR5.out.mono (fun k hk => Or.inl (HMD3.out.own k (HFG.out k hk).1))) (fun k hk => Or.inl hk))
        clear hn5 hn2 hgc
        clear HASK HGK3
        obtain ⟨W4, hW4⟩ : ∃ W4, W4 = W5.alloc (.cells #[.slice A q c] 24) := ⟨_, rfl⟩
        rw [← hW4]
        have HW4 := Lib.hid hW4
        have hs4 : W4.heap.size = W5.heap.size + 1 := by rw [hW4]; simp
        have HB4 := Lib.hid (show Below W5.heap.size W5 W4 by rw [hW4]; exact (Below.refl _ _).alloc (Nat.le_refl _) _)
        have hbs : W4.cell? ⟨W5.heap.size, 0, none⟩ = some (.slice A q c) := by rw [hW4]; exact (Boxed.new W5 _ _).cell
        clear hW4
        have HS4 := Lib.hid hs4
        have HBS := Lib.hid hbs
        clear hs4 hbs
        have hLow3 := HMD3.out.low.size
        refine wpIn_rangeFunc_frame hro hn1 (gf := 129) (lb := #[.pointer (some ⟨W5.heap.size, 0, none⟩)]) rfl (hF _) (enters_of Try.func129 (by kernel_rfl) rfl)
          (encs := fun y : It wo => #[.int .i64 (y.1.1 : Int), y.val]) (n₀ := wo.heap.size) (S := fun xs => xs.map It.ex = x.ex.args.reverse ∧ SubB x.1.2.2.2 xs) (Sp := fun _ => True) (N := x.ex.args.length) (M0 := [W5.heap.size]) (w0 := W4)
          (fun l2 J2 Jx2 X hX _ _ hY2 h02 => back_in F (n - 1) (hF _) hro (by omega) l2 W5.heap.size wo A q c x.ex.args x.1.2.2.2 HSL.out J2 Jx2 hY2 X ((hX.cell (p := ⟨W5.heap.size, 0, none⟩) (by rw [HS4.out]; exact Nat.lt_succ_self _)).trans HBS.out) ((HMD3.out.low.trans (HB4.out.mono hLow3)).trans (hX.mono (by rw [HS4.out]; omega))) h02)
          (Below.refl _ _) (by rw [HS4.out]; omega) (by simp; rw [HS4.out]; omega) (fun _ => rfl)
          (Pushed wo W.heap.size (W.heap.size + 1) m st0) (fun _ _ _ _ => False) (pushed_foot wo _ _ m st0) (fun _ _ _ _ _ h _ _ => h)
          [W.heap.size + 1, g] ?fp ?start (Parted wo W.heap.size (W.heap.size + 1) m st0 (fun pb y => #[.func (.yield l) #[] #[], .pointer (some ⟨Be, 0, none⟩), .pointer (some ⟨Bg, 0, none⟩), undef, .pointer (some ⟨W.heap.size + 1, 0, none⟩), .pointer (some ⟨wr.heap.size, 0, none⟩), undef, .pointer (some ⟨pb, 0, none⟩), .agg #[.int .i64 e.kind, .string e.name, u], .slice (some ⟨W.heap.size, 0, none⟩) 1 1, .slice (some ⟨g, 0, none⟩) (m + 1) cap, .int .i64 ((m : Int) + 1), .bool true, .slice (some ⟨g, 0, none⟩) (m + 1) cap, .slice (some ⟨g, 0, none⟩) (m + 1) cap, .int .i64 ((m : Int) + 1), .int .i64 (m : Int), .pointer (some ⟨g, m * 3, none⟩), .agg #[.int .i64 x.ex.kind, .string x.ex.name, .slice A q c], .slice (some ⟨g, 0, none⟩) (m + 1) cap, .slice (some ⟨g, 0, none⟩) (m + 1) cap, .int .i64 ((m : Int) + 1), .int .i64 (m : Int), .slice (some ⟨g, 0, none⟩) m cap, .func (.yield l) #[] #[], .agg #[.int .i64 x.ex.kind, .string x.ex.name, .slice A q c], .bool true, .bool false, .func (.func 116) #[] #[.pointer (some ⟨Bs, 0, none⟩)], .pointer (some ⟨wr.heap.size, 2, none⟩), .slice A q c, .bool true, .bool false, .pointer (some ⟨wr.heap.size, 2, none⟩), .slice A q c, .func (.func 129) #[] #[.pointer (some ⟨W5.heap.size, 0, none⟩)], .int .i64 (y.1.1 : Int), y.val, u38, u39, u40, u41, u42, u43])) (parted_foot wo _ _ m st0 _) ?assign ?body ?done ?stop
        case fp =>
          intro k hk
          simp only [List.mem_cons, List.not_mem_nil, or_false] at hk
          have h3 := HMD3.out
          have hB := h3.lt (W.heap.size + 1) (List.mem_cons_of_mem _ h3.inB)
          have hG := h3.lt g (List.mem_cons_of_mem _ h3.inG)
          rcases hk with rfl | rfl
          · exact ⟨h3.Mn _ (List.mem_cons_of_mem _ h3.inB), by rw [HS4.out]; omega, by simp; omega⟩
          · exact ⟨h3.Mn _ (List.mem_cons_of_mem _ h3.inG), by rw [HS4.out]; omega, by simp; omega⟩
        case start =>
          have h3 := HMD3.out
          exact ⟨some ⟨g, 0, none⟩, cap, rfl, box_on h3.box (HB4.out.block _ h3.box.lt), by rw [List.append_nil]; exact row_on h3.row (fun k e => HB4.out.block _ (h3.lt _ (by rw [show k = g by simpa [Value.ownBlock, eq_comm] using e]; exact List.mem_cons_of_mem _ h3.inG)))⟩
        case assign =>
          intro l2 pre2 y Fp X KX hI hFp hFr hK
          obtain ⟨AO, co, rfl, h1, h2⟩ := hI
          obtain ⟨A2, c2, hu2, -, -, -⟩ := y.slice
          have hv : y.val = .agg #[.int .i64 y.ex.kind, .string y.ex.name, .slice A2 y.ex.args.length c2] := by rw [← hu2]; rfl
          have HU2 := Lib.hid hu2
          have HV := Lib.hid hv
          have H1 := Lib.hid h1
          have H2 := Lib.hid h2
          have HFP := Lib.hid hFp
          have HKX := Lib.hid hK
          dsimp only
          rw [hv]
          clear hu2 hv h1 h2 hFp hFr hK
          gi_wp2
          refine HKX.out _ (X.heap.size :: (W.heap.size + 1) :: (Value.ownBlock (.slice AO (m + pre2.length) co)).toList) _ (Fr.alloc _ _) (fun k hk => ?_) ⟨X.heap.size, AO, co, rfl, ?_, ⟨?_, ?_⟩, H1.out.alloc _, H2.out.alloc _, ?_⟩
          · rcases List.mem_cons.1 hk with rfl | hk
            · exact ⟨Or.inr (Nat.le_refl _), by simp⟩
            · exact ⟨Or.inl hk, by have := (HFP.out k hk).2; simp; omega⟩
          · rw [HU2.out]; exact World.alloc_heap_new X _
          · have := H1.out.lt; omega
          · intro e
            have := (H2.out.lt _ e).2
            omega
          · dsimp only; rw [HV.out]
        case body =>
          rintro l2 pre2 y _ Fp X ⟨pb, AO, co, rfl, hpb, hne, h1, h2, rfl⟩ hFp hFr hlen
          obtain ⟨A2, c2, hu2, -, -, -⟩ := y.slice
          have HFP := Lib.hid hFp
          have HNE := Lib.hid hne
          have H1 := Lib.hid h1
          have H2 := Lib.hid h2
          have HPB := Lib.hid hpb
          have HU2 := Lib.hid hu2
          have HKL := Lib.hid (show m + pre2.length ≤ 1099511627776 by
            have h5 := HBD.out.1
            rw [due_one, List.length_cons, List.length_append] at h5
            have h6 := due_len st0
            have h7 : x.ex.args.length ≤ (exNodesL x.ex.args).length := by rw [(nodes_size _).2 x.ex.args (Nat.le_refl _)]; exact sizes_len _
            have := HM.out
            omega)
          clear hFp hFr hne h1 h2 hpb hu2 hlen
          have hfw := HFW.out
          subst hfw
          gi_wp2
          refine region_round (R := PushEnd W.heap.size (W.heap.size + 1) (m + pre2.length) (.slice AO (m + pre2.length) co) (flat (st0 ++ pre2)) y.cells X) (by kernel_rfl) (all_not (by rfl))
            (push_any "l03_expr.go:109" [] W.heap.size (W.heap.size + 1) pb (m + pre2.length) co y.ex.args.length c2 AO A2 y.ex.kind y.ex.name (flat (st0 ++ pre2)) X _ _ _ _ _ _ _ _ _ _ _ _ _ _ _ _ _ _ _ _ _ _ _ _ _ _ _ _ _ _ _ _ _ _ _ _ _ _ _ _ _ _
              H1.out H2.out HNE.out (by rw [← HU2.out]; exact HPB.out) (by have := H1.out.lt; omega) HKL.out (fun Y hY => by rw [It.cells, HU2.out]; exact hY)) (fun _ Y hY => ?_)
          exact pushed_step hY (HFP.out _ (by simp)).2 pb
        case done =>
          rintro D ks Fp X hD hDF hFl hS ⟨AO, co, rfl, h1, h2⟩ hFr hK
          have h3 := HMD3.out
          have hfrX : Fr (wr.heap.size :: M) W5 X := (Fr.of_below HB4.out).trans hFr (fun z hz => by
            simp at hz
            rcases hz with rfl | rfl | rfl
            · exact Or.inl (List.mem_cons_of_mem _ h3.inB)
            · exact Or.inl (List.mem_cons_of_mem _ h3.inG)
            · exact Or.inr (Nat.le_refl _))
          have hs4 := HS4.out
          have hXs := hFr.size
          have hDl : D < X.heap.size := (Array.getElem?_eq_some_iff.1 hK).1
          have hown : ∀ k, Value.ownBlock (.slice AO (m + ks.length) co) = some k → (k ∈ wr.heap.size :: M ∨ W5.heap.size ≤ k) ∧ k < X.heap.size := fun k hk => by
            obtain ⟨e1, e2⟩ := hFl k (by simp [hk])
            refine ⟨?_, e1⟩
            rcases e2 with e2 | e2
            · simp at e2
              rcases e2 with rfl | rfl
              · exact Or.inl (List.mem_cons_of_mem _ h3.inB)
              · exact Or.inl (List.mem_cons_of_mem _ h3.inG)
            · exact Or.inr (by omega)
          have hM2 : ∀ k ∈ D :: ((Value.ownBlock (.slice AO (m + ks.length) co)).toList ++ wr.heap.size :: M), (k ∈ wr.heap.size :: M ∨ W5.heap.size ≤ k) ∧ k < X.heap.size := fun k hk => by
            rcases List.mem_cons.1 hk with rfl | hk
            · exact ⟨Or.inr (by omega), hDl⟩
            · rcases List.mem_append.1 hk with hk | hk
              · exact hown k (by simpa using hk)
              · exact ⟨Or.inl hk, Nat.lt_of_lt_of_le (h3.lt k hk) hfrX.size⟩
          have hfrX2 : Fr [W.heap.size + 1, g] W5 X := (Fr.of_below HB4.out).trans hFr (fun z hz => by
            simp at hz
            rcases hz with rfl | rfl | rfl
            · exact Or.inl (by simp)
            · exact Or.inl (by simp)
            · exact Or.inr (Nat.le_refl _))
          have hlowX : Below wo.heap.size W5 X := hfrX.below h3.Mn h3.low.size
          have hdue : due (st0 ++ ks) = exNodesL x.ex.args ++ due st0 := by rw [due_app, due_kids ks _ hS.1]
          show KK _ _
          refine hKK _ _ (Handed.intro (due (st0 ++ ks)).length ?_ (hJJ _ _ _ ⟨D :: Ds, D :: ((Value.ownBlock (.slice AO (m + ks.length) co)).toList ++ wr.heap.size :: M), pre ++ [x], st0 ++ ks, .slice AO (m + ks.length) co, _, _, _, _, _, _, _, _, _, _, _, _, _, _, _, _, _, _, _, _, _, _, _, _, _, _, _, _, _, _, _, _, _, _, rfl, ?_, ?_, Lib.hid rfl, ?_, ?_⟩))
          · rw [HK.out, due_one, hdue]; simp
          · exact Lib.hid (HJ.out _ _ _ _ _ HJ3.out hfrX (fun k hk => (hM2 k hk).1))
          · refine Lib.hid ⟨HI1.out _ _ _ _ HND.out.inv HYES.out hS.1 hS.2, ?_, h1, ?_, by simp [h3.inB], fun k hk => by simp [hk], fun k hk => (hM2 k hk).2, h3.low.trans hlowX, h3.Bn, fun k hk => (hM2 k hk).1.elim (h3.Mn k) (fun h => by omega), fun k hk => ?_, box_on h3.gbox (hfrX2.block _ h3.gbox.lt (by simp; have := HBG.out; have := h3.Bn; have := h3.gn; omega))⟩
            · have h6 := HBD.out.1
              rw [due_one] at h6
              rw [hdue]
              simp at h6 ⊢
              omega
            · rw [List.length_append, ← HM.out]; exact h2
            · simp only [List.mem_cons, List.mem_append]
              exact Or.inr (Or.inr (List.mem_cons.1 (h3.own k hk)))
          · refine Lib.hid ⟨List.nodup_cons.2 ⟨fun h => ?_, h3.marks.1⟩, fun E hE => ?_⟩
            · have := h3.lt D (h3.marks.2 D h).1
              omega
            · rcases List.mem_cons.1 hE with rfl | hE
              · exact ⟨by simp, hK, by have := h3.box.lt; omega⟩
              · obtain ⟨e1, e2, e3⟩ := h3.marks.2 E hE
                have hEl := h3.lt E e1
                have hEB : E ≠ W.heap.size + 1 := fun e => by
                  have hb := h3.box
                  unfold Boxed at hb
                  rw [← e, e2] at hb
                  cases hb
                have hEg : E ≠ g := fun e => by
                  rcases h3.row.2 with ⟨h0, -⟩ | ⟨g', cap', cur, hv, -, hb, -⟩
                  · cases h0
                  · cases hv
                    rw [← e, e2] at hb
                    cases hb
                refine ⟨by simp only [List.mem_cons, List.mem_append]; exact Or.inr (Or.inr (List.mem_cons.1 e1)), ?_, e3⟩
                exact (hFr.block E (by omega) (by simp; omega)).trans ((HB4.out.block E hEl).trans e2)
          · exact Lib.hid (HGF.out _ _ _ HGS5.out hfrX2.size (fun k hk => hfrX2.block k (by have := (HFG2.out k hk).1; have := h3.box.lt; have := h3.Bn; omega) (by simp; have := (HFG2.out k hk).1; have := h3.Bn; have := h3.gn; omega)))
        case stop =>
          rintro D c2 pre2 Fp X _ _ _ _ h _ _
          exact h.elim
      · have h3 := HMD.out.1.keep HBM.out hk3
        have HJ3 := Lib.hid hjx3
        have HMD3 := Lib.hid h3
        clear h3 hjx3 hk3
        gi_wp2
        exact leave_marks rfl Ds W3 HMD3.out.marks.1 (fun D hD => (HMD3.out.marks.2 D hD).2.1) (fun v X hf => ⟨⟨_, rfl⟩, .inr ⟨_, wr.heap.size :: M, ⟨pre, st0, x, rfl, HND.out.inv⟩, HJX.out _ _ _ _ _ HJ3.out (hf.mono (fun k hk => Or.inl (HMD3.out.marks.2 k hk).1)) (fun k hk => Or.inl hk)⟩⟩)
end Go.Proofs.Ytbnghkgfbjipdaa
