/- The program's own nodesWhere under nodesOnce$1: what it hands out. Condition: fewer than 2^40 nodes. For the program's own nodesOnce (it goes into arguments that parts share only where it meets them first): what holds between two rounds, so that no first occurrence is left out. No condition. Places, pointers with a number, as keys of maps and where they are compared. Condition: the memory that they lead to is plain. A law of our own for a range over a function whose rounds hand out to another loop: what the rounds keep is told with the iterator's own blocks. No condition. The contracts of the program's own nodesOnce: a range over it answers every question about a first occurrence as a range over all nodes does. Conditions: fewer than 2^40 nodes; no string shares the memory of the expression. The occurrences of constructors as a list, what it says of ConArity; and what a loop outside keeps through a range over a function inside. No condition. A rule of a slice, and where its blocks are among all. No condition. The contract of the program's own constructorsOf: it answers every question about a first occurrence as the list of all occurrences does. Conditions: fewer than 2^40 nodes in each body; no string shares the memory of the program. The contracts of the program's own constructorsOf and ConArity. Conditions: fewer than 2^40 nodes in each body; no string shares the memory of the program. The contract of the program's own demandsOf: two maps, of the first rules by their names and of the numbers of arguments by the constructors' names. Conditions: fewer than 2^40 nodes in each body, fewer than 2^40 rules; no string shares the memory of the program. The contracts of kind and arity at a bare value stand in RuLight. No condition. What areMetBy checks, node by node. No condition. The contract of the program's own areMetBy. Conditions: fewer than 2^40 nodes; the rules' parameters are fewer than 2^40. The contract of the program's own IsExprFor. Conditions: fewer than 2^40 nodes in the expression and in each body, fewer than 2^40 rules and parameters; no string shares the memory of the program. -/
import Derived.Test.YtmndlhbgacgnlaaGreatNodesKit
import Derived.Test.YtmndlhbgacgnlaaGreatEqKit
import Derived.Test.YtmndlhbgacgnlaaGreatFrame
import Derived.Test.YtmndlhbgacgnlaaGreatNodesOf
import Derived.Test.YtmndlhbgacgnlaaGreatSet
import Derived.Test.YtmndlhbgacgnlaaGreatOwnRuFind
import Derived.Test.YtmndlhbgacgnlaaGreatOwnSize
import Derived.Test.YtmndlhbgacgnlaaGreatRuCon
import Derived.Test.YtmndlhbgacgnlaaGreatRu
import Derived.Test.YtmndlhbgacgnlaaGreatRuLight
import Derived.Test.YtmndlhbgacgnlaaGreatThaw
import Derived.Deep.RegionLaw
import Derived.Test.YtmndlhbgacgnlaaGreatRuFits
import Derived.Test.YtmndlhbgacgnlaaGreatRegionBelow
import Derived.Test.YtmndlhbgacgnlaaGreatOwnValid
namespace Go.Proofs.YtmndlhbgacgnlaaGreat
open Go Go.RowKit Go.Shelf
attribute [local go_sem] Oper.semAt_some

set_option maxRecDepth 100000 in
set_option maxHeartbeats 2000000 in
theorem nodes_once_in (F : Fence) (n : Nat) (hFw : F = Fence.wide) (hro : F.round = none) (hF : ∀ k, F.fn k) (hn : 3 ≤ n) (l Be Bg Bs : Nat) (wo : World) (e : Ex) (u : Value) (bs : List Nat) (he : ExIs wo (.agg #[.int .i64 e.kind, .string e.name, u]) e bs) (hsz : exSize e ≤ 1099511627776)
    (J Jx : List (It wo) → List Nat → World → Prop) (hJ : Minds J) (hJx : Minds Jx)
    (hY : ∀ pre x M W1, J pre M W1 → (∀ k ∈ M, k < W1.heap.size) → pre.length < exSize e → YieldAt F (n - 1) Tryz.prog l #[x.val] W1 fun e W2 =>
      (e = .returned (.bool true) ∧ J (pre ++ [x]) M W2 ∧ Kept wo.heap.size M W1 W2) ∨ (e = .returned (.bool false) ∧ Jx (pre ++ [x]) M W2 ∧ Kept wo.heap.size M W1 W2))
    (Inv : List (It wo) → List (It wo) → Prop) (Gs : List (It wo) → World → Prop) (ask : List (It wo) → It wo → Bool) (M0 Fg : List Nat)
    (hI0 : ∀ x : It wo, x.ex = e → x.1.2.2.2 = bs → Inv [] [x]) (hI1 : ∀ (pre st : List (It wo)) (x : It wo) (ks : List (It wo)), Inv pre (st ++ [x]) → ask pre x = true → ks.map It.ex = x.ex.args.reverse → SubB x.1.2.2.2 ks → Inv (pre ++ [x]) (st ++ ks))
    (hI2 : ∀ (pre st : List (It wo)) (x : It wo), Inv pre (st ++ [x]) → ask pre x = false → Inv (pre ++ [x]) st)
    (hGf : ∀ pre A B, Gs pre A → A.heap.size ≤ B.heap.size → (∀ k ∈ Fg, B.heap[k]? = A.heap[k]?) → Gs pre B)
    (hG : ∀ (pre : List (It wo)) (x : It wo) (A : Option Addr) (c : Nat) (W1 : World), Gs pre W1 → Below wo.heap.size wo W1 → x.1.2.2.1 = .slice A x.ex.args.length c → pre.length < exSize e → (∃ st, Inv pre (st ++ [x])) → CallsIn F (n - 1) Tryz.prog 103 #[.slice A x.ex.args.length c, .pointer (some ⟨Bs, 0, none⟩)] W1 fun r W2 => r = .returned (.bool (ask pre x)) ∧ Gs (pre ++ [x]) W2 ∧ Fr Fg W1 W2)
    (W : World) (hW : Below wo.heap.size wo W) (hM0 : ∀ k ∈ M0, wo.heap.size ≤ k ∧ k < W.heap.size) (hBgM : Bg ∈ M0) (hFg : ∀ k ∈ Fg, k ∈ M0 ∧ k ≠ Bg) (hgb : Boxed W Bg 137 (.func (.func 103) #[] #[.pointer (some ⟨Bs, 0, none⟩)]))
    (h0 : W.cell? ⟨Be, 0, none⟩ = some (.int .i64 e.kind)) (h1 : W.cell? ⟨Be, 1, none⟩ = some (.string e.name)) (h2 : W.cell? ⟨Be, 2, none⟩ = some u) (hJ0 : J [] M0 W) (hGs0 : Gs [] W) :
    CallsIn F n Tryz.prog 125 #[.func (.yield l) #[] #[], .pointer (some ⟨Be, 0, none⟩), .pointer (some ⟨Bg, 0, none⟩)] W fun r W2 => (∃ v, r = .returned v) ∧
      ((∃ (xs : List (It wo)) (M : List Nat), Inv xs [] ∧ J xs M W2) ∨ (∃ (pre : List (It wo)) (M : List Nat), (∃ pre0 st0 x, pre = pre0 ++ [x] ∧ Inv pre0 (st0 ++ [x])) ∧ Jx pre M W2)) := by
  have hn1 : 1 ≤ n := by omega
  refine callsIn_of_wp_marks Tryz.func125 rfl (hF _) ?_ hro
  simp only [Tryz.ntmps125, List.size_toArray, List.length_cons, List.length_nil, Nat.reduceAdd, Nat.reduceSub, Array.replicate_succ, Array.replicate_zero, List.push_toArray, List.append_toArray, List.nil_append, List.cons_append]
  have HFW := Lib.hid hFw
  clear hFw
  have HE := Lib.hid he
  have HY := Lib.hid hY
  have HW := Lib.hid hW
  have HJ := Lib.hid hJ
  have HJX := Lib.hid hJx
  have HJ0 := Lib.hid hJ0
  have HI1 := Lib.hid hI1
  have HI2 := Lib.hid hI2
  have HGF := Lib.hid hGf
  have HG := Lib.hid hG
  have HGS0 := Lib.hid hGs0
  have HM0 := Lib.hid hM0
  have HBM := Lib.hid hBgM
  have HFG := Lib.hid hFg
  have HGB := Lib.hid hgb
  have HI0 := Lib.hid hI0
  have HBG := Lib.hid (hM0 Bg hBgM).2
  have HFG2 := Lib.hid (fun k (hk : k ∈ Fg) => And.intro (hM0 k (hFg k hk).1).2 (And.intro (hFg k hk).2 (hM0 k (hFg k hk).1).1))
  clear he hY hW hJ hJx hJ0 hI0 hI1 hI2 hGf hG hGs0 hM0 hBgM hFg hgb
  gi_wp2
  refine wpIn_loop_ghost_k (fun k a wr => ∃ (Ds M : List Nat) (pre st : List (It wo)) (lv : Value) (u5 u7 u10 u11 u12 u13 u14 u15 u16 u17 u18 u19 u20 u21 u22 u23 u24 u25 u26 u27 u28 u29 u30 u31 u32 u33 u34 u35 u38 u39 u40 u41 u42 u43 : Value), a = { tmps := #[.func (.yield l) #[] #[], .pointer (some ⟨Be, 0, none⟩), .pointer (some ⟨Bg, 0, none⟩), undef, .pointer (some ⟨W.heap.size + 1, 0, none⟩), u5, undef, u7, .agg #[.int .i64 e.kind, .string e.name, u], .slice (some ⟨W.heap.size, 0, none⟩) 1 1, u10, u11, u12, u13, u14, u15, u16, u17, u18, u19, u20, u21, u22, u23, u24, u25, u26, u27, u28, u29, u30, u31, u32, u33, u34, u35, undef, undef, u38, u39, u40, u41, u42, u43], defers := Ds.map markOf } ∧ Hid (J pre M wr) ∧ Hid (Nd wo W.heap.size (exSize e) Bg (.func (.func 103) #[] #[.pointer (some ⟨Bs, 0, none⟩)]) M0 Inv (W.heap.size + 1) pre st lv M wr) ∧ Hid (k = (due st).length) ∧ Hid (Marks W.heap.size Ds M wr) ∧ Hid (Gs pre wr)) (exSize e) ?_ ?_
  · have hs2 : ((W.alloc (.cells #[.int .i64 e.kind, .string e.name, u] 32)).alloc (.cells #[.slice (some ⟨W.heap.size, 0, none⟩) 1 1] 30)).heap.size = W.heap.size + 2 := by simp
    have hlw : Below W.heap.size W ((W.alloc (.cells #[.int .i64 e.kind, .string e.name, u] 32)).alloc (.cells #[.slice (some ⟨W.heap.size, 0, none⟩) 1 1] 30)) := ((Below.refl _ _).alloc (Nat.le_refl _) _).alloc (by simp) _
    have hwz := HW.out.size
    have hle0 : ∀ k, k < W.heap.size → ((W.alloc (.cells #[.int .i64 e.kind, .string e.name, u] 32)).alloc (.cells #[.slice (some ⟨W.heap.size, 0, none⟩) 1 1] 30)).heap[k]? = W.heap[k]? := fun k hk => hlw.block k hk
    refine ⟨[], (W.heap.size + 1) :: W.heap.size :: M0, [], [⟨(0, e, u, bs), HE.out⟩], .slice (some ⟨W.heap.size, 0, none⟩) 1 1, _, _, _, _, _, _, _, _, _, _, _, _, _, _, _, _, _, _, _, _, _, _, _, _, _, _, _, _, _, _, _, _, _, _, rfl, Lib.hid (HJ.out _ _ _ _ _ HJ0.out (Fr.of_below hlw) (fun k hk => ?_)), Lib.hid ⟨HI0.out _ rfl rfl, ?_, ?_, ?_, by simp, fun k hk => by simp [Value.ownBlock] at hk; simp [hk], fun k hk => ?_, HW.out.trans (hlw.mono hwz), by omega, fun k hk => ?_, fun k hk => by simp [hk], ?_⟩, Lib.hid ?_, Lib.hid ⟨by simp, by simp⟩, Lib.hid (HGF.out _ _ _ HGS0.out (by omega) (fun k hk => hle0 k (HFG2.out k hk).1))⟩
    · simp at hk
      rcases hk with rfl | rfl | hk
      · exact Or.inr (by omega)
      · exact Or.inr (Nat.le_refl _)
      · exact Or.inl hk
    · rw [show due [(⟨(0, e, u, bs), HE.out⟩ : It wo)] = exNodes e by simp [due, It.ex], nodes_len]; simp
    · have := Boxed.new (W.alloc (.cells #[.int .i64 e.kind, .string e.name, u] 32)) 30 (.slice (some ⟨W.heap.size, 0, none⟩) 1 1)
      rw [World.size_alloc] at this
      exact this
    · exact World.ownsRow.alloc (World.ownsRow_lit W #[.int .i64 e.kind, .string e.name, u] 1 (Nat.le_refl _) (by unfold maxLen; omega) rfl) _
    · simp at hk
      rcases hk with rfl | rfl | hk
      · omega
      · omega
      · have := (HM0.out k hk).2; omega
    · simp at hk
      rcases hk with rfl | rfl | hk
      · omega
      · exact hwz
      · exact (HM0.out k hk).1
    · exact box_on HGB.out (hle0 _ HBG.out)
    · rw [show due [(⟨(0, e, u, bs), HE.out⟩ : It wo)] = exNodes e by simp [due, It.ex], nodes_len]
  · rintro gk _ wr ⟨Ds, M, pre, st, lv, u5, u7, u10, u11, u12, u13, u14, u15, u16, u17, u18, u19, u20, u21, u22, u23, u24, u25, u26, u27, u28, u29, u30, u31, u32, u33, u34, u35, u38, u39, u40, u41, u42, u43, rfl, HJP, HND, HK, HMK, HGS⟩ JJ KK hJJ hKK
    rcases last_of st with rfl | ⟨st0, x, rfl⟩
    · have hbox := HND.out.box.cell
      have hbf := HND.out.box.frozen
      have hblt := HND.out.box.lt
      obtain ⟨AO, co, rfl⟩ : ∃ AO co, lv = .slice AO 0 co := by
        rcases HND.out.row.2 with ⟨h0, -⟩ | ⟨g, cap, cur, h0, -⟩
        · exact ⟨_, _, h0⟩
        · exact ⟨_, _, h0⟩
      gi_wp2
      exact leave_marks rfl Ds wr HMK.out.1 (fun D hD => (HMK.out.2 D hD).2.1) (fun v X hf => ⟨⟨_, rfl⟩, .inl ⟨pre, HND.out.inv, M, HJ.out _ _ _ _ _ HJP.out (hf.mono (fun k hk => Or.inl (HMK.out.2 k hk).1)) (fun k hk => Or.inl hk)⟩⟩)
    · have hbox := HND.out.box.cell
      have hbf := HND.out.box.frozen
      have hblt := HND.out.box.lt
      obtain ⟨g, cap, rfl, hgM, hgn, c0, c1, c2, hcap, hpop⟩ := HND.out.top
      have hbd := HND.out.bound
      obtain ⟨A, c, hu, hsl, hac1, hac2⟩ := x.slice
      rw [hu] at c2
      obtain ⟨q, hq⟩ : ∃ q, q = x.ex.args.length := ⟨_, rfl⟩
      rw [← hq] at c2 hu hsl hac1
      obtain ⟨m, hm⟩ : ∃ m, m = st0.length := ⟨_, rfl⟩
      rw [← hm] at hbox c0 c1 c2 hcap hpop
      have hm3 : (m : Int) + 1 ≤ 1099511627777 := by
        have := hbd.2
        simp at this
        omega
      have hcap3 : (cap : Int) ≤ 9223372036854775807 := by
        rcases hpop.2 with ⟨h0, -⟩ | ⟨g', cap', cur, hv, -, -, hn, hmx, -⟩
        · cases h0
        · cases hv; unfold maxLen at hmx; omega
      have HM := Lib.hid hm
      have HPOP := Lib.hid hpop
      have HBD := Lib.hid hbd
      have HQ := Lib.hid hq
      have HU := Lib.hid hu
      have HSL := Lib.hid hsl
      have HGM := Lib.hid hgM
      have HGN := Lib.hid hgn
      have HWR := Lib.hid (show W.heap.size ≤ wr.heap.size by have h3 := HND.out.box.lt; omega)
      clear hm hpop hbd hq hu hsl hgM hgn
      have HLEN := Lib.hid (show pre.length < exSize e by have := HBD.out.1; rw [due_one, List.length_cons] at this; omega)
      have HGW := Lib.hid (HGF.out pre wr ((wr.setCell ⟨W.heap.size + 1, 0, none⟩ (.slice (some ⟨g, 0, none⟩) m cap)).alloc (.cells #[.int .i64 x.ex.kind, .string x.ex.name, .slice A q c] 32)) HGS.out (by simp [World.setCell]) (fun k hk => by have := (HFG2.out k hk).1; have := HWR.out; rw [Below.heap_alloc _ _ k (by simp [World.setCell]; omega), Below.heap_setCell _ _ _ _ (by simp; omega)]))
      have HMD := Lib.hid (Nd.pop HND.out HBG.out HWR.out HPOP.out HGM.out HGN.out HMK.out (.cells #[.int .i64 x.ex.kind, .string x.ex.name, .slice A q c] 32))
      gi_wp2
      obtain ⟨Wy, hWy⟩ : ∃ Wy, Wy = (wr.setCell ⟨W.heap.size + 1, 0, none⟩ (.slice (some ⟨g, 0, none⟩) m cap)).alloc (.cells #[.int .i64 x.ex.kind, .string x.ex.name, .slice A q c] 32) := ⟨_, rfl⟩
      rw [← hWy]
      rw [← hWy] at HMD HGW
      obtain ⟨fn, tmps, assign, body, hy, hR⟩ := HY.out pre x (wr.heap.size :: M) Wy (HJ.out _ _ _ _ _ HJP.out HMD.out.2.1 HMD.out.2.2) HMD.out.1.lt HLEN.out
      have hy2 : (Instr.yield l #[.agg #[.int .i64 x.ex.kind, .string x.ex.name, .slice A q c]]).run Tryz.prog Wy = .ok (.round l fn tmps assign body) Wy := by
        rw [← HU.out]; exact hy
      rw [hy2]
      refine ⟨fun _ => hn1, hR.mono ?_⟩
      clear hy hy2 hR hWy
      rintro r W3 (⟨rfl, hj3, hk3⟩ | ⟨rfl, hjx3, hk3⟩)
      · have HJ3 := Lib.hid hj3
        have HMD3 := Lib.hid (HMD.out.1.keep HBM.out hk3)
        have HGK3 := Lib.hid (HGF.out pre Wy W3 HGW.out hk3.1.size (fun k hk => hk3.2 k (HMD.out.1.own k (HFG.out k hk).1)))
        clear hj3 hk3
        have hnx := HMD3.out.nx
        have hn2 : W3.cell? ⟨wr.heap.size, 2, none⟩ = some (.slice A q c) := by simp [World.cell?, hnx]
        have hgc := HMD3.out.gbox.cell
        clear hnx
        have HASK := Lib.hid (fun (hh : Gs pre W3) => HG.out pre x A c W3 hh HMD3.out.low (by rw [← HQ.out]; exact HU.out) HLEN.out ⟨st0, HND.out.inv⟩)
        rw [← HQ.out] at HASK
        cases hask : ask pre x
        · rw [hask] at HASK
          have HNO := Lib.hid hask
          clear hask
          gi_wp2_with (gi_at_call 103; refine (HASK.out HGK3.out).mono ?_; rintro r W5 ⟨rfl, hgs5, hfr5⟩; have HGS5 := Lib.hid hgs5; have HFR5 := Lib.hid hfr5; clear hgs5 hfr5)
          have h5 := HMD3.out.asked HFR5.out HFG2.out
          refine Handed.intro (due st0).length ?_ (hJJ _ _ _ ⟨Ds, wr.heap.size :: M, pre ++ [x], st0, .slice (some ⟨g, 0, none⟩) m cap, _, _, _, _, _, _, _, _, _, _, _, _, _, _, _, _, _, _, _, _, _, _, _, _, _, _, _, _, _, _, _, _, _, _, rfl, ?_, ?_, Lib.hid rfl, Lib.hid h5.marks, HGS5⟩)
          · rw [HK.out, due_one]; simp; omega
          · exact Lib.hid (HJ.out _ _ _ _ _ HJ3.out (HFR5.out.mono (fun k hk => Or.inl (h5.own k (HFG.out k hk).1))) (fun k hk => Or.inl hk))
          · refine Lib.hid ⟨HI2.out _ _ _ HND.out.inv HNO.out, ?_, h5.box, by rw [← HM.out]; exact h5.row, by simp [h5.inB], fun k hk => ?_, h5.lt, h5.low, h5.Bn, h5.Mn, h5.own, h5.gbox⟩
            · have h6 := HBD.out.1
              rw [due_one] at h6
              simp at h6 ⊢
              omega
            · obtain rfl : g = k := by simpa [Value.ownBlock] using hk
              simp [h5.inG]
        rw [hask] at HASK
        have HYES := Lib.hid hask
        clear hask
        gi_wp2_with (first
          | (gi_at_call 103; refine (HASK.out HGK3.out).mono ?_; rintro r W5 ⟨rfl, hgs5, hfr5⟩; have hn5 : W5.cell? ⟨wr.heap.size, 2, none⟩ = some (.slice A q c) := by
              have hnx := (HMD3.out.asked hfr5 HFG2.out).nx
              simp [World.cell?, hnx]
             have HGS5 := Lib.hid hgs5; have HFR5 := Lib.hid hfr5; clear hgs5 hfr5)
          | (gi_at_call 126; refine (backward_in F (n - 1) (hF _) hro _ _ _ _).mono ?_; rintro r w4 ⟨rfl, rfl⟩))
        have HMD3 := Lib.hid (HMD3.out.asked HFR5.out HFG2.out)
        have HJ3 := Lib.hid (HJ.out _ _ _ _ _ HJ3.out (HFR5.out.mono (fun k hk => Or.inl (HMD3.out.own k (HFG.out k hk).1))) (fun k hk => Or.inl hk))
        clear hn5 hn2 hgc
        clear HASK HGK3
        obtain ⟨W4, hW4⟩ : ∃ W4, W4 = W5.alloc (.cells #[.slice A q c] 30) := ⟨_, rfl⟩
        rw [← hW4]
        have HW4 := Lib.hid hW4
        have hs4 : W4.heap.size = W5.heap.size + 1 := by rw [hW4]; simp
        have HB4 := Lib.hid (show Below W5.heap.size W5 W4 by rw [hW4]; exact (Below.refl _ _).alloc (Nat.le_refl _) _)
        have hbs : W4.cell? ⟨W5.heap.size, 0, none⟩ = some (.slice A q c) := by rw [hW4]; exact (Boxed.new W5 _ _).cell
        clear hW4
        have HS4 := Lib.hid hs4
        have HBS := Lib.hid hbs
        clear hs4 hbs
        have hLow3 := HMD3.out.low.size
        refine wpIn_rangeFunc_frame hro hn1 (gf := 137) (lb := #[.pointer (some ⟨W5.heap.size, 0, none⟩)]) rfl (hF _) (enters_of Tryz.func137 (by kernel_rfl) rfl)
          (encs := fun y : It wo => #[.int .i64 (y.1.1 : Int), y.val]) (n₀ := wo.heap.size) (S := fun xs => xs.map It.ex = x.ex.args.reverse ∧ SubB x.1.2.2.2 xs) (Sp := fun _ => True) (N := x.ex.args.length) (M0 := [W5.heap.size]) (w0 := W4)
          (fun l2 J2 Jx2 X hX _ _ hY2 h02 => back_in F (n - 1) (hF _) hro (by omega) l2 W5.heap.size wo A q c x.ex.args x.1.2.2.2 HSL.out J2 Jx2 hY2 X ((hX.cell (p := ⟨W5.heap.size, 0, none⟩) (by rw [HS4.out]; exact Nat.lt_succ_self _)).trans HBS.out) ((HMD3.out.low.trans (HB4.out.mono hLow3)).trans (hX.mono (by rw [HS4.out]; omega))) h02)
          (Below.refl _ _) (by rw [HS4.out]; omega) (by simp; rw [HS4.out]; omega) (fun _ => rfl)
          (Pushed wo W.heap.size (W.heap.size + 1) m st0) (fun _ _ _ _ => False) (pushed_foot wo _ _ m st0) (fun _ _ _ _ _ h _ _ => h)
          [W.heap.size + 1, g] ?fp ?start (Parted wo W.heap.size (W.heap.size + 1) m st0 (fun pb y => #[.func (.yield l) #[] #[], .pointer (some ⟨Be, 0, none⟩), .pointer (some ⟨Bg, 0, none⟩), undef, .pointer (some ⟨W.heap.size + 1, 0, none⟩), .pointer (some ⟨wr.heap.size, 0, none⟩), undef, .pointer (some ⟨pb, 0, none⟩), .agg #[.int .i64 e.kind, .string e.name, u], .slice (some ⟨W.heap.size, 0, none⟩) 1 1, .slice (some ⟨g, 0, none⟩) (m + 1) cap, .int .i64 ((m : Int) + 1), .bool true, .slice (some ⟨g, 0, none⟩) (m + 1) cap, .slice (some ⟨g, 0, none⟩) (m + 1) cap, .int .i64 ((m : Int) + 1), .int .i64 (m : Int), .pointer (some ⟨g, m * 3, none⟩), .agg #[.int .i64 x.ex.kind, .string x.ex.name, .slice A q c], .slice (some ⟨g, 0, none⟩) (m + 1) cap, .slice (some ⟨g, 0, none⟩) (m + 1) cap, .int .i64 ((m : Int) + 1), .int .i64 (m : Int), .slice (some ⟨g, 0, none⟩) m cap, .func (.yield l) #[] #[], .agg #[.int .i64 x.ex.kind, .string x.ex.name, .slice A q c], .bool true, .bool false, .func (.func 103) #[] #[.pointer (some ⟨Bs, 0, none⟩)], .pointer (some ⟨wr.heap.size, 2, none⟩), .slice A q c, .bool true, .bool false, .pointer (some ⟨wr.heap.size, 2, none⟩), .slice A q c, .func (.func 137) #[] #[.pointer (some ⟨W5.heap.size, 0, none⟩)], .int .i64 (y.1.1 : Int), y.val, u38, u39, u40, u41, u42, u43])) (parted_foot wo _ _ m st0 _) ?assign ?body ?done ?stop
        case fp =>
          intro k hk
          simp only [List.mem_cons, List.not_mem_nil, or_false] at hk
          have h3 := HMD3.out
          have hB := h3.lt (W.heap.size + 1) (List.mem_cons_of_mem _ h3.inB)
          have hG := h3.lt g (List.mem_cons_of_mem _ h3.inG)
          rcases hk with rfl | rfl
          · exact ⟨h3.Mn _ (List.mem_cons_of_mem _ h3.inB), by rw [HS4.out]; omega, by simp; omega⟩
          · exact ⟨h3.Mn _ (List.mem_cons_of_mem _ h3.inG), by rw [HS4.out]; omega, by simp; omega⟩
        case start =>
          have h3 := HMD3.out
          exact ⟨some ⟨g, 0, none⟩, cap, rfl, box_on h3.box (HB4.out.block _ h3.box.lt), by rw [List.append_nil]; exact row_on h3.row (fun k e => HB4.out.block _ (h3.lt _ (by rw [show k = g by simpa [Value.ownBlock, eq_comm] using e]; exact List.mem_cons_of_mem _ h3.inG)))⟩
        case assign =>
          intro l2 pre2 y Fp X KX hI hFp hFr hK
          obtain ⟨AO, co, rfl, h1, h2⟩ := hI
          obtain ⟨A2, c2, hu2, -, -, -⟩ := y.slice
          have hv : y.val = .agg #[.int .i64 y.ex.kind, .string y.ex.name, .slice A2 y.ex.args.length c2] := by rw [← hu2]; rfl
          have HU2 := Lib.hid hu2
          have HV := Lib.hid hv
          have H1 := Lib.hid h1
          have H2 := Lib.hid h2
          have HFP := Lib.hid hFp
          have HKX := Lib.hid hK
          dsimp only
          rw [hv]
          clear hu2 hv h1 h2 hFp hFr hK
          gi_wp2
          refine HKX.out _ (X.heap.size :: (W.heap.size + 1) :: (Value.ownBlock (.slice AO (m + pre2.length) co)).toList) _ (Fr.alloc _ _) (fun k hk => ?_) ⟨X.heap.size, AO, co, rfl, ?_, ⟨?_, ?_⟩, H1.out.alloc _, H2.out.alloc _, ?_⟩
          · rcases List.mem_cons.1 hk with rfl | hk
            · exact ⟨Or.inr (Nat.le_refl _), by simp⟩
            · exact ⟨Or.inl hk, by have := (HFP.out k hk).2; simp; omega⟩
          · rw [HU2.out]; exact World.alloc_heap_new X _
          · have := H1.out.lt; omega
          · intro e
            have := (H2.out.lt _ e).2
            omega
          · dsimp only; rw [HV.out]
        case body =>
          rintro l2 pre2 y _ Fp X ⟨pb, AO, co, rfl, hpb, hne, h1, h2, rfl⟩ hFp hFr hlen
          obtain ⟨A2, c2, hu2, -, -, -⟩ := y.slice
          have HFP := Lib.hid hFp
          have HNE := Lib.hid hne
          have H1 := Lib.hid h1
          have H2 := Lib.hid h2
          have HPB := Lib.hid hpb
          have HU2 := Lib.hid hu2
          have HKL := Lib.hid (show m + pre2.length ≤ 1099511627776 by
            have h5 := HBD.out.1
            rw [due_one, List.length_cons, List.length_append] at h5
            have h6 := due_len st0
            have h7 : x.ex.args.length ≤ (exNodesL x.ex.args).length := by rw [(nodes_size _).2 x.ex.args (Nat.le_refl _)]; exact sizes_len _
            have := HM.out
            omega)
          clear hFp hFr hne h1 h2 hpb hu2 hlen
          have hfw := HFW.out
          subst hfw
          gi_wp2
          refine region_round (R := PushEnd W.heap.size (W.heap.size + 1) (m + pre2.length) (.slice AO (m + pre2.length) co) (flat (st0 ++ pre2)) y.cells X) (by kernel_rfl) (all_not (by rfl))
            (push_any "l03_expr.go:109" [] W.heap.size (W.heap.size + 1) pb (m + pre2.length) co y.ex.args.length c2 AO A2 y.ex.kind y.ex.name (flat (st0 ++ pre2)) X _ _ _ _ _ _ _ _ _ _ _ _ _ _ _ _ _ _ _ _ _ _ _ _ _ _ _ _ _ _ _ _ _ _ _ _ _ _ _ _ _ _
              H1.out H2.out HNE.out (by rw [← HU2.out]; exact HPB.out) (by have := H1.out.lt; omega) HKL.out (fun Y hY => by rw [It.cells, HU2.out]; exact hY)) (fun _ Y hY => ?_)
          exact pushed_step hY (HFP.out _ (by simp)).2 pb
        case done =>
          rintro D ks Fp X hD hDF hFl hS ⟨AO, co, rfl, h1, h2⟩ hFr hK
          have h3 := HMD3.out
          have hfrX : Fr (wr.heap.size :: M) W5 X := (Fr.of_below HB4.out).trans hFr (fun z hz => by
            simp at hz
            rcases hz with rfl | rfl | rfl
            · exact Or.inl (List.mem_cons_of_mem _ h3.inB)
            · exact Or.inl (List.mem_cons_of_mem _ h3.inG)
            · exact Or.inr (Nat.le_refl _))
          have hs4 := HS4.out
          have hXs := hFr.size
          have hDl : D < X.heap.size := (Array.getElem?_eq_some_iff.1 hK).1
          have hown : ∀ k, Value.ownBlock (.slice AO (m + ks.length) co) = some k → (k ∈ wr.heap.size :: M ∨ W5.heap.size ≤ k) ∧ k < X.heap.size := fun k hk => by
            obtain ⟨e1, e2⟩ := hFl k (by simp [hk])
            refine ⟨?_, e1⟩
            rcases e2 with e2 | e2
            · simp at e2
              rcases e2 with rfl | rfl
              · exact Or.inl (List.mem_cons_of_mem _ h3.inB)
              · exact Or.inl (List.mem_cons_of_mem _ h3.inG)
            · exact Or.inr (by omega)
          have hM2 : ∀ k ∈ D :: ((Value.ownBlock (.slice AO (m + ks.length) co)).toList ++ wr.heap.size :: M), (k ∈ wr.heap.size :: M ∨ W5.heap.size ≤ k) ∧ k < X.heap.size := fun k hk => by
            rcases List.mem_cons.1 hk with rfl | hk
            · exact ⟨Or.inr (by omega), hDl⟩
            · rcases List.mem_append.1 hk with hk | hk
              · exact hown k (by simpa using hk)
              · exact ⟨Or.inl hk, Nat.lt_of_lt_of_le (h3.lt k hk) hfrX.size⟩
          have hfrX2 : Fr [W.heap.size + 1, g] W5 X := (Fr.of_below HB4.out).trans hFr (fun z hz => by
            simp at hz
            rcases hz with rfl | rfl | rfl
            · exact Or.inl (by simp)
            · exact Or.inl (by simp)
            · exact Or.inr (Nat.le_refl _))
          have hlowX : Below wo.heap.size W5 X := hfrX.below h3.Mn h3.low.size
          have hdue : due (st0 ++ ks) = exNodesL x.ex.args ++ due st0 := by rw [due_app, due_kids ks _ hS.1]
          show KK _ _
          refine hKK _ _ (Handed.intro (due (st0 ++ ks)).length ?_ (hJJ _ _ _ ⟨D :: Ds, D :: ((Value.ownBlock (.slice AO (m + ks.length) co)).toList ++ wr.heap.size :: M), pre ++ [x], st0 ++ ks, .slice AO (m + ks.length) co, _, _, _, _, _, _, _, _, _, _, _, _, _, _, _, _, _, _, _, _, _, _, _, _, _, _, _, _, _, _, _, _, _, _, rfl, ?_, ?_, Lib.hid rfl, ?_, ?_⟩))
          · rw [HK.out, due_one, hdue]; simp
          · exact Lib.hid (HJ.out _ _ _ _ _ HJ3.out hfrX (fun k hk => (hM2 k hk).1))
          · refine Lib.hid ⟨HI1.out _ _ _ _ HND.out.inv HYES.out hS.1 hS.2, ?_, h1, ?_, by simp [h3.inB], fun k hk => by simp [hk], fun k hk => (hM2 k hk).2, h3.low.trans hlowX, h3.Bn, fun k hk => (hM2 k hk).1.elim (h3.Mn k) (fun h => by omega), fun k hk => ?_, box_on h3.gbox (hfrX2.block _ h3.gbox.lt (by simp; have := HBG.out; have := h3.Bn; have := h3.gn; omega))⟩
            · have h6 := HBD.out.1
              rw [due_one] at h6
              rw [hdue]
              simp at h6 ⊢
              omega
            · rw [List.length_append, ← HM.out]; exact h2
            · simp only [List.mem_cons, List.mem_append]
              exact Or.inr (Or.inr (List.mem_cons.1 (h3.own k hk)))
          · refine Lib.hid ⟨List.nodup_cons.2 ⟨fun h => ?_, h3.marks.1⟩, fun E hE => ?_⟩
            · have := h3.lt D (h3.marks.2 D h).1
              omega
            · rcases List.mem_cons.1 hE with rfl | hE
              · exact ⟨by simp, hK, by have := h3.box.lt; omega⟩
              · obtain ⟨e1, e2, e3⟩ := h3.marks.2 E hE
                have hEl := h3.lt E e1
                have hEB : E ≠ W.heap.size + 1 := fun e => by
                  have hb := h3.box
                  unfold Boxed at hb
                  rw [← e, e2] at hb
                  cases hb
                have hEg : E ≠ g := fun e => by
                  rcases h3.row.2 with ⟨h0, -⟩ | ⟨g', cap', cur, hv, -, hb, -⟩
                  · cases h0
                  · cases hv
                    rw [← e, e2] at hb
                    cases hb
                refine ⟨by simp only [List.mem_cons, List.mem_append]; exact Or.inr (Or.inr (List.mem_cons.1 e1)), ?_, e3⟩
                exact (hFr.block E (by omega) (by simp; omega)).trans ((HB4.out.block E hEl).trans e2)
          · exact Lib.hid (HGF.out _ _ _ HGS5.out hfrX2.size (fun k hk => hfrX2.block k (by have := (HFG2.out k hk).1; have := h3.box.lt; have := h3.Bn; omega) (by simp; have := (HFG2.out k hk).1; have := h3.Bn; have := h3.gn; omega)))
        case stop =>
          rintro D c2 pre2 Fp X _ _ _ _ h _ _
          exact h.elim
      · have h3 := HMD.out.1.keep HBM.out hk3
        have HJ3 := Lib.hid hjx3
        have HMD3 := Lib.hid h3
        clear h3 hjx3 hk3
        gi_wp2
        exact leave_marks rfl Ds W3 HMD3.out.marks.1 (fun D hD => (HMD3.out.marks.2 D hD).2.1) (fun v X hf => ⟨⟨_, rfl⟩, .inr ⟨_, wr.heap.size :: M, ⟨pre, st0, x, rfl, HND.out.inv⟩, HJX.out _ _ _ _ _ HJ3.out (hf.mono (fun k hk => Or.inl (HMD3.out.marks.2 k hk).1)) (fun k hk => Or.inl hk)⟩⟩)
end Go.Proofs.YtmndlhbgacgnlaaGreat

namespace Go.Proofs.YtmndlhbgacgnlaaGreat
open Go Go.RowKit

section
variable {wo : World}
/-- The place of the arguments of a node. -/
def plOf (x : It wo) : Option (Addr × Nat) := match x.1.2.2.1 with
  | .slice (some a) n _ => if n = 0 then none else some (a, n)
  | _ => none
/-- Whether the arguments are gone into. -/
def askO (pre : List (It wo)) (x : It wo) : Bool := match plOf x with
  | none => false
  | some p => decide (some p ∉ pre.map plOf)
theorem plOf_slice {x : It wo} {A : Option Addr} {n c : Nat} (h : x.1.2.2.1 = .slice A n c) : (n = 0 → plOf x = none) ∧ (∀ a, A = some a → n ≠ 0 → plOf x = some (a, n)) := by
  unfold plOf
  rw [h]
  constructor
  · intro h0
    cases A with
    | none => rfl
    | some a => simp [h0]
  · rintro a rfl hn
    simp [hn]
theorem plOf_none {x : It wo} (h : plOf x = none) : x.ex.args = [] := by
  obtain ⟨A, c, e1, hs, -, -⟩ := x.slice
  obtain ⟨-, h2⟩ := plOf_slice e1
  obtain ⟨A', c', e2, -, -, h3⟩ := hs
  cases e2
  rcases h3 with ⟨h3, -⟩ | ⟨g, o, b, rfl, -, -, h4⟩
  · exact h3
  · by_cases hl : x.ex.args.length = 0
    · exact List.eq_nil_of_length_eq_zero hl
    · rw [h2 _ rfl hl] at h; cases h
theorem plOf_some {x : It wo} {p : Addr × Nat} (h : plOf x = some p) : ∃ g o c bs', p = (⟨g, o, none⟩, x.ex.args.length) ∧ x.1.2.2.1 = .slice (some ⟨g, o, none⟩) x.ex.args.length c ∧ x.ex.args.length ≠ 0 ∧ g ∈ x.1.2.2.2 ∧ g < wo.heap.size ∧ ExsAt wo g o 0 x.ex.args bs' := by
  obtain ⟨A, c, e1, hs, -, -⟩ := x.slice
  obtain ⟨h1, h2⟩ := plOf_slice e1
  obtain ⟨A', c', e2, -, -, h3⟩ := hs
  cases e2
  by_cases hl : x.ex.args.length = 0
  · rw [h1 hl] at h; cases h
  · rcases h3 with ⟨h3, -⟩ | ⟨g, o, b, rfl, hg, e3, h4⟩
    · rw [h3] at hl; exact absurd rfl hl
    · rw [h2 _ rfl hl] at h
      cases h
      exact ⟨g, o, c, b, rfl, e1, hl, by rw [e3]; simp, hg, h4⟩
theorem plOf_same {x y : It wo} {p : Addr × Nat} (hx : plOf x = some p) (hy : plOf y = some p) : x.ex.args = y.ex.args := by
  obtain ⟨g, o, c, b, rfl, -, -, -, -, h1⟩ := plOf_some hx
  obtain ⟨g', o', c', b', e, -, -, -, -, h2⟩ := plOf_some hy
  simp only [Prod.mk.injEq, Addr.mk.injEq, and_true] at e
  obtain ⟨⟨rfl, rfl⟩, hl⟩ := e
  exact (at_det _).2 _ _ (Nat.le_refl _) wo g o 0 b b' h1 h2 hl

theorem find_skip {α : Type} {q : α → Bool} {A B K C : List α} (h : ∀ z ∈ K, z ∈ A) : (A ++ (B ++ (K ++ C))).find? q = (A ++ (B ++ C)).find? q := by
  simp only [List.find?_append]
  cases hA : A.find? q with
  | some a => rfl
  | none =>
    have hK : K.find? q = none := by
      rw [List.find?_eq_none] at hA ⊢
      exact fun z hz => hA z (h z hz)
    rw [hK]; simp

/-- Between two rounds: every question is answered alike over what was handed out and what is to come as over all nodes; and what is below each place that was met has been handed out, or is still on top of the list. -/
structure InvO (e : Ex) (bs : List Nat) (pre st : List (It wo)) : Prop where
  blk : SubB bs (pre ++ st)
  find : ∀ q : Ex → Bool, (pre.map It.ex ++ due st).find? q = (exNodes e).find? q
  seen : ∀ s ∈ pre, plOf s ≠ none → ∃ j, j ≤ st.length ∧ (∀ y ∈ st.drop j, exSize y.ex < exSize s.ex) ∧ ∀ z ∈ exNodesL s.ex.args, z ∈ pre.map It.ex ++ due (st.drop j)
theorem size_of_args {e e2 : Ex} (h : e.args = e2.args) : exSize e = exSize e2 := by
  cases e; cases e2
  simp only [Ex.args] at h
  rw [exSize, exSize, h]
theorem InvO.start {e : Ex} {bs : List Nat} (x : It wo) (hx : x.ex = e) (hb : ∀ z ∈ x.1.2.2.2, z ∈ bs) : InvO e bs [] [x] :=
  ⟨fun y hy => by rw [List.nil_append, List.mem_singleton] at hy; subst hy; exact hb, fun q => by rw [show due [x] = exNodes x.ex by simp [due], hx]; rfl, fun s hs => by cases hs⟩
theorem InvO.go {e : Ex} {bs : List Nat} {pre st ks : List (It wo)} {x : It wo} (h : InvO e bs pre (st ++ [x])) (hk : ks.map It.ex = x.ex.args.reverse) (hb : SubB x.1.2.2.2 ks) : InvO e bs (pre ++ [x]) (st ++ ks) := by
  have hd : due (st ++ ks) = exNodesL x.ex.args ++ due st := by rw [due_app, due_kids ks _ hk]
  have hks : ∀ y ∈ ks, exSize y.ex < exSize x.ex := fun y hy => exSize_args (by
    have : y.ex ∈ ks.map It.ex := List.mem_map_of_mem hy
    rw [hk] at this
    simpa using this)
  refine ⟨fun y hy z hz => ?_, fun q => ?_, fun s hs hp => ?_⟩
  · simp only [List.mem_append, List.mem_singleton] at hy
    rcases hy with (hy | rfl) | hy | hy
    · exact h.blk y (by simp [hy]) z hz
    · exact h.blk y (by simp) z hz
    · exact h.blk y (by simp [hy]) z hz
    · exact h.blk x (by simp) z (hb y hy z hz)
  · rw [← h.find q, due_one, hd]
    simp
  · rcases List.mem_append.1 hs with hs | hs
    · obtain ⟨j, hj, h1, h2⟩ := h.seen s hs hp
      by_cases hl : j ≤ st.length
      · rw [List.drop_append_of_le_length hl] at h1 h2
        refine ⟨j, by simp; omega, fun y hy => ?_, fun z hz => ?_⟩
        · rw [List.drop_append_of_le_length hl] at hy
          rcases List.mem_append.1 hy with hy | hy
          · exact h1 y (by simp [hy])
          · exact Nat.lt_trans (hks y hy) (h1 x (by simp))
        · have := h2 z hz
          rw [due_one] at this
          rw [List.drop_append_of_le_length hl, due_app, due_kids ks _ hk]
          simp only [List.map_append, List.map_cons, List.map_nil, List.mem_append, List.mem_cons, List.not_mem_nil, or_false] at this ⊢
          rcases this with h | h | h | h
          · exact Or.inl (Or.inl h)
          · exact Or.inl (Or.inr h)
          · exact Or.inr (Or.inl h)
          · exact Or.inr (Or.inr h)
      · rw [List.drop_eq_nil_of_le (by simp; omega)] at h2
        refine ⟨(st ++ ks).length, Nat.le_refl _, fun y hy => by simp at hy, fun z hz => ?_⟩
        have := h2 z hz
        simp only [due, List.reverse_nil, List.flatMap_nil, List.append_nil] at this
        simp [this]
    · rw [List.mem_singleton] at hs
      subst hs
      refine ⟨st.length, by simp, fun y hy => hks y (by simpa using hy), fun z hz => ?_⟩
      rw [List.drop_left, due_kids ks _ hk]
      simp [hz]
theorem InvO.skip {e : Ex} {bs : List Nat} {pre st : List (It wo)} {x : It wo} (h : InvO e bs pre (st ++ [x])) (ha : askO pre x = false) : InvO e bs (pre ++ [x]) st := by
  -- what is below x has been handed out
  have hbel : ∀ z ∈ exNodesL x.ex.args, z ∈ pre.map It.ex := by
    intro z hz
    unfold askO at ha
    cases hp : plOf x with
    | none => rw [plOf_none hp] at hz; simp [exNodesL] at hz
    | some p =>
      rw [hp] at ha
      simp only [decide_eq_false_iff_not, Decidable.not_not] at ha
      obtain ⟨s, hs, hsp⟩ := List.mem_map.1 ha
      have he := plOf_same hsp hp
      obtain ⟨j, hj, h1, h2⟩ := h.seen s hs (by rw [hsp]; simp)
      by_cases hl : j ≤ st.length
      · rw [List.drop_append_of_le_length hl] at h1
        have := h1 x (by simp)
        rw [size_of_args he] at this
        omega
      · rw [List.drop_eq_nil_of_le (by simp; omega)] at h2
        have := h2 z (by rw [he]; exact hz)
        simpa [due] using this
  refine ⟨fun y hy z hz => ?_, fun q => ?_, fun s hs hp => ?_⟩
  · simp only [List.mem_append, List.mem_singleton] at hy
    rcases hy with (hy | rfl) | hy
    · exact h.blk y (by simp [hy]) z hz
    · exact h.blk y (by simp) z hz
    · exact h.blk y (by simp [hy]) z hz
  · have h1 := h.find q
    rw [due_one] at h1
    rw [← h1]
    have := find_skip (q := q) (A := pre.map It.ex) (B := [x.ex]) (K := exNodesL x.ex.args) (C := due st) hbel
    simpa using this.symm
  · rcases List.mem_append.1 hs with hs | hs
    · obtain ⟨j, hj, h1, h2⟩ := h.seen s hs hp
      by_cases hl : j ≤ st.length
      · rw [List.drop_append_of_le_length hl] at h1 h2
        refine ⟨j, hl, fun y hy => h1 y (by simp [hy]), fun z hz => ?_⟩
        have := h2 z hz
        rw [due_one] at this
        simp only [List.map_append, List.map_cons, List.map_nil, List.mem_append, List.mem_cons, List.not_mem_nil, or_false] at this ⊢
        rcases this with h | h | h | h
        · exact Or.inl (Or.inl h)
        · exact Or.inl (Or.inr h)
        · exact Or.inl (Or.inl (hbel z h))
        · exact Or.inr h
      · rw [List.drop_eq_nil_of_le (by simp; omega)] at h2
        refine ⟨st.length, Nat.le_refl _, fun y hy => by simp at hy, fun z hz => ?_⟩
        have := h2 z hz
        simp only [due, List.reverse_nil, List.flatMap_nil, List.append_nil] at this
        simp [this]
    · rw [List.mem_singleton] at hs
      subst hs
      exact ⟨st.length, Nat.le_refl _, fun y hy => by simp at hy, fun z hz => by simp [hbel z hz]⟩
end
end Go.Proofs.YtmndlhbgacgnlaaGreat

namespace Go.Proofs.YtmndlhbgacgnlaaGreat
open Go Go.RowKit

/-- A pointer to plain memory with a number. -/
def PlaceK (w : World) (v : Value) : Prop := ∃ (a : Addr) (n : Int), v = .agg #[.pointer (some a), .int .i64 n] ∧ FreeB w a.block
theorem eq_int {w : World} (a b : Int) (d : Nat) : (Op.equalIn (d + 1) 3 (.int .i64 a) (.int .i64 b)).run Tryz.prog w = .ok (decide (a = b)) w := by
  by_cases h : a = b <;> simp [Op.equalIn, run_underlying Tryz.underlying3, h]
theorem eq_place (w : World) {a c : Addr} {m n : Int} (ha : FreeB w a.block) (hc : FreeB w c.block) :
    (Op.equal 145 (.agg #[.pointer (some a), .int .i64 m]) (.agg #[.pointer (some c), .int .i64 n])).run Tryz.prog w = .ok (decide (a = c) && decide (m = n)) w := by
  obtain ⟨j, hj, -, hz, -⟩ := info_parts Tryz.infoEx
  have hz : j.size ≠ 0 := by omega
  have e1 : (Op.equalIn 9999 143 (.pointer (some a)) (.pointer (some c))).run Tryz.prog w = .ok (decide (a = c)) w := eq_ptr (P := Tryz.prog) (w := w) (tp := 143) Tryz.underlying143 hj hz ha hc 9998
  have e2 : (Op.equalIn 9999 3 (.int .i64 m) (.int .i64 n)).run Tryz.prog w = .ok (decide (m = n)) w := eq_int m n 9998
  have u := run_underlying (w := w) Tryz.underlying145
  have st : Tryz.prog.stoodInHeld 145 = false := by kernel_rfl
  have p0 : ∀ x y : Value, (part 143 #[x, y] 0).run Tryz.prog w = .ok x w := fun x y => by kernel_rfl
  have p1 : ∀ x y : Value, (part 3 #[x, y] 1).run Tryz.prog w = .ok y w := fun x y => by kernel_rfl
  rw [Op.equal, show Op.maxDepth = 9999 + 1 from rfl, Op.equalIn]
  by_cases h1 : a = c
  · rw [decide_eq_true h1] at e1 ⊢
    by_cases h2 : m = n
    · rw [decide_eq_true h2] at e2 ⊢
      simp [u, st, p0, p1, e1, e2]
    · rw [decide_eq_false h2] at e2 ⊢
      simp [u, st, p0, p1, e1, e2]
  · rw [decide_eq_false h1] at e1 ⊢
    simp [u, st, p0, e1]
theorem placeT (w : World) : KeyT Tryz.prog 145 w (PlaceK w) := by
  refine ⟨fun em v ⟨a, n, hv, _⟩ => ?_, fun x es hx hes => ?_, fun v ⟨a, n, hv, _⟩ => ?_⟩
  · subst hv
    have u := run_underlying (w := w) Tryz.underlying145
    have up := run_underlying (w := w) Tryz.underlying143
    have ui := run_underlying (w := w) Tryz.underlying3
    have p0 : ∀ x y : Value, (part 143 #[x, y] 0).run Tryz.prog w = .ok x w := fun x y => by kernel_rfl
    have p1 : ∀ x y : Value, (part 3 #[x, y] 1).run Tryz.prog w = .ok y w := fun x y => by kernel_rfl
    have c1 : (Instr.checkKey em 9999 143 (.pointer (some a))).run Tryz.prog w = .ok () w := by rw [show 9999 = 9998 + 1 from rfl, Instr.checkKey]; simp [up]
    have c2 : (Instr.checkKey em 9999 3 (.int .i64 n)).run Tryz.prog w = .ok () w := by rw [show 9999 = 9998 + 1 from rfl, Instr.checkKey]; simp [ui]
    rw [show 10000 = 9999 + 1 from rfl, Instr.checkKey]
    simp [u, p0, p1, c1, c2]
  · have h := find_asking (P := Tryz.prog) (k := 145) (w := w) (K := PlaceK w) (fun x y ⟨a, m, hx, h1⟩ ⟨c, n, hy, h2⟩ => ⟨decide (a = c) && decide (m = n), by rw [hx, hy]; exact eq_place w h1 h2, by rw [hx, hy]; simp⟩) hx es 0 hes
    have e := Go.run_findKey_eq (P := Tryz.prog) w (k := 145) (by kernel_rfl) x es
    rw [e]
    simpa using h
  · subst hv
    simp [Instr.keyThatStays, Instr.sameBits]

/-- Two addresses of which one leads to plain memory that no string shares. -/
theorem same_half {P : Program} {w : World} {a b : Addr} {v : Value} (ha : FreeB w a.block) (hb : w.cell? ⟨b.block, b.off, none⟩ = some v) : (sameAddr a b).run P w = .ok (decide (a = b)) w := by
  by_cases hbl : a.block = b.block
  · have : (a == b) = decide (a = b) := by by_cases h : a = b <;> simp [h]
    simp [sameAddr, hbl, this]
  · obtain ⟨⟨ca, ta, fa, hca⟩, hfa⟩ := ha
    have hne : a ≠ b := fun e => hbl (by rw [e])
    have h1 : ∀ o p, w.frozen? ⟨a.block, o, p⟩ = false := fun o p => frozen_off hfa _ rfl
    obtain ⟨cb, tb, fb, hcb, hsz⟩ : ∃ cb tb fb, w.heap[b.block]? = some (.cells cb tb fb) ∧ cb.size ≠ 0 := by
      unfold World.cell? at hb
      split at hb
      · rename_i cb tb fb he
        refine ⟨cb, tb, fb, he, fun h0 => ?_⟩
        simp [Array.getElem?_eq_none (xs := cb) (i := b.off) (by omega)] at hb
      · cases hb
    simp [sameAddr, hbl, h1, hca, hcb, noView, viewAt, World.shape?, mayBeOne, stringish, hne, hsz]
theorem eq_ptr_half {P : Program} {w : World} {tp te : TypeId} {j : TypeInfo} {a b : Addr} {v : Value} (hp : P.underlying tp = some (.pointer te)) (hte : P.info? te = some j) (hsz : j.size ≠ 0) (ha : FreeB w a.block) (hb : w.cell? ⟨b.block, b.off, none⟩ = some v) (d : Nat) :
    (Op.equalIn (d + 1) tp (.pointer (some a)) (.pointer (some b))).run P w = .ok (decide (a = b)) w := by
  simp [Op.equalIn, run_underlying hp, sizeOf, typeInfo, hte, hsz, same_half ha hb]
theorem eq_place_half (w : World) {a c : Addr} {m n : Int} {v : Value} (ha : FreeB w a.block) (hc : w.cell? ⟨c.block, c.off, none⟩ = some v) :
    (Op.equal 145 (.agg #[.pointer (some a), .int .i64 m]) (.agg #[.pointer (some c), .int .i64 n])).run Tryz.prog w = .ok (decide (a = c) && decide (m = n)) w := by
  obtain ⟨j, hj, -, hz, -⟩ := info_parts Tryz.infoEx
  have hz : j.size ≠ 0 := by omega
  have e1 : (Op.equalIn 9999 143 (.pointer (some a)) (.pointer (some c))).run Tryz.prog w = .ok (decide (a = c)) w := eq_ptr_half (P := Tryz.prog) (w := w) (tp := 143) Tryz.underlying143 hj hz ha hc 9998
  have e2 : (Op.equalIn 9999 3 (.int .i64 m) (.int .i64 n)).run Tryz.prog w = .ok (decide (m = n)) w := eq_int m n 9998
  have u := run_underlying (w := w) Tryz.underlying145
  have st : Tryz.prog.stoodInHeld 145 = false := by kernel_rfl
  have p0 : ∀ x y : Value, (part 143 #[x, y] 0).run Tryz.prog w = .ok x w := fun x y => by kernel_rfl
  have p1 : ∀ x y : Value, (part 3 #[x, y] 1).run Tryz.prog w = .ok y w := fun x y => by kernel_rfl
  rw [Op.equal, show Op.maxDepth = 9999 + 1 from rfl, Op.equalIn]
  by_cases h1 : a = c
  · rw [decide_eq_true h1] at e1 ⊢
    by_cases h2 : m = n
    · rw [decide_eq_true h2] at e2 ⊢
      simp [u, st, p0, p1, e1, e2]
    · rw [decide_eq_false h2] at e2 ⊢
      simp [u, st, p0, p1, e1, e2]
  · rw [decide_eq_false h1] at e1 ⊢
    simp [u, st, p0, e1]
end Go.Proofs.YtmndlhbgacgnlaaGreat

namespace Go.Proofs.YtmndlhbgacgnlaaGreat
open Go Go.RowKit

variable {F : Fence} {n : Nat} {P : Program}
/-- How the body of a round may be left. -/
def nestPost {α : Type} (I : List α → List Nat → World → Prop) (Ix : Code → List α → List Nat → World → Prop) (n₀ : Nat) (xs : List α) (M : List Nat) (W : World) : Exit → Act → World → Prop
  | .normal, _, W2 => I xs M W2 ∧ Kept n₀ M W W2
  | .ret, _, W2 => Ix .ret xs M W2 ∧ Kept n₀ M W W2
  | .exit id, _, W2 => Ix (.exit id) xs M W2 ∧ Kept n₀ M W W2
  | .goto t, _, W2 => Ix (.goto t) xs M W2 ∧ Kept n₀ M W W2
  | .panic _, _, _ => False
  | .outgrown, _, _ => False

theorem wpIn_rangeFunc_nest {α : Type} {g : Operand} {ps : Array Tmp} {assign body : Code} {Q : Exit → Act → World → Prop} {a : Act} {w : World}
    (hro : F.round = none) (h1 : 1 ≤ n) {gf : Nat} {lb : Array Value} (hg : a.eval g = .func (.func gf) #[] lb) (hFg : F.fn gf) (eg : ∀ args w, (callFunc gf args).run P w = .ok (.enter gf args) w)
    {encs : α → Array Value} {n₀ : Nat} {S Sp : List α → Prop} {N : Nat} {M0 : List Nat} {w0 : World} (hseq : SeqF F (n - 1) P gf lb encs n₀ S Sp N M0 w0)
    (hb0 : Below w0.heap.size w0 w) (hn0 : n₀ ≤ w.heap.size) (hps : ∀ x, (encs x).size = ps.size)
    (I : List α → List Nat → World → Prop) (Ix : Code → List α → List Nat → World → Prop) (hI : Minds I) (hIx : ∀ c, Minds (Ix c))
    (M1 : List Nat) (h0 : I [] M1 w) (hM01 : ∀ k ∈ M0, k ∈ M1) (hM1 : ∀ k ∈ M1, n₀ ≤ k ∧ k < w.heap.size)
    (Ax : Nat → List α → α → Act → World → Prop) (hAx : ∀ b xs x a2 A l o, Ax b xs x a2 A → l < b → Ax b xs x a2 (A.putObj l o))
    (hassign : ∀ (l : Nat) (pre : List α) (x : α) (W : World) (K : Act → World → Prop), (∀ a2 W2, Fr [] W W2 → Ax W.heap.size pre x a2 W2 → K a2 W2) →
      assign.wpIn (F.inRound l) (n - 1 - 1) P (Exit.then K (fun _ _ _ => False)) { tmps := (ps.zip (encs x)).foldl (fun t (p, v) => t.setIfInBounds p v) a.tmps, defers := [] } W)
    (hbody : ∀ (l b : Nat) (pre : List α) (x : α) (a2 : Act) (M : List Nat) (W : World), I pre M W → Ax b pre x a2 W → (∀ k ∈ M, n₀ ≤ k ∧ k < b) → b ≤ W.heap.size → Below n₀ w W → pre.length < N →
      body.wpIn (F.inRound l) (n - 1 - 1) P (nestPost I Ix n₀ (pre ++ [x]) M W) a2 W)
    (hdone : ∀ (D : Nat) (xs : List α) (M : List Nat) (W : World), w.heap.size ≤ D → D ∈ M → (∀ k ∈ M, n₀ ≤ k ∧ k < W.heap.size) → S xs → I xs M W → Below n₀ w W → W.heap[D]? = some (.deferred (some [])) → Q .normal { a with defers := { target := .collected D, args := #[] } :: a.defers } W)
    (hstop : ∀ (D : Nat) (c : Code) (pre : List α) (M : List Nat) (W : World), w.heap.size ≤ D → D ∈ M → (∀ k ∈ M, n₀ ≤ k ∧ k < W.heap.size) → Sp pre → Ix c pre M W → Below n₀ w W → W.heap[D]? = some (.deferred (some [])) → c.wpIn F n P Q { a with defers := { target := .collected D, args := #[] } :: a.defers } W) :
    (Code.rangeFunc g ps assign body).wpIn F n P Q a w := by
  refine wpIn_rangeFunc fun fn hfn => ?_
  rw [hro]
  obtain ⟨lr, hlr⟩ : ∃ lr : LoopState → Option Code → Loop, ∀ st pe, lr st pe = { state := st, pending := pe, fn, tmps := a.tmps, params := ps, assign, body, defers := w.heap.size } := ⟨_, fun _ _ => rfl⟩
  obtain ⟨X, hX⟩ : ∃ X, X = (w.alloc (.deferred (some []))).alloc (.loop (lr .ready none)) := ⟨_, rfl⟩
  have hsX : X.heap.size = w.heap.size + 2 := by rw [hX]; simp
  have hXl : X.heap[w.heap.size + 1]? = some (.loop (lr .ready none)) := by
    have := World.alloc_heap_new (w.alloc (.deferred (some []))) (.loop (lr .ready none))
    rw [World.size_alloc, ← hX] at this
    exact this
  have hXd : X.heap[w.heap.size]? = some (.deferred (some [])) := by
    rw [hX]; exact (Below.heap_alloc _ _ _ (by simp)).trans (World.alloc_heap_new w _)
  have hwX : Below w.heap.size w X := by
    rw [hX]; exact ((Below.refl _ w).alloc (Nat.le_refl _) _).alloc (by simp) _
  let Jn : (List α → List Nat → World → Prop) → (World → Prop) → List α → List Nat → World → Prop := fun G L pre M W =>
    ∃ M', G pre M' W ∧ (∀ k ∈ M, k ∈ M') ∧ w.heap.size ∈ M' ∧ w.heap.size + 1 ∈ M' ∧ w.heap.size ∉ M ∧ w.heap.size + 1 ∉ M ∧ (∀ k ∈ M', n₀ ≤ k ∧ (k ∈ M ∨ k < W.heap.size)) ∧ w.heap.size + 1 < W.heap.size ∧ L W ∧ W.heap[w.heap.size]? = some (.deferred (some [])) ∧ Below n₀ w W
  have hminds : ∀ (G : List α → List Nat → World → Prop) (L : World → Prop), Minds G → (∀ A B : World, L A → B.heap[w.heap.size + 1]? = A.heap[w.heap.size + 1]? → L B) → Minds (Jn G L) := by
    intro G L hG hL pre M M2 A B ⟨M', g1, g2, g3, g4, g5, g6, g7, g8, g9, g10, g11⟩ hf hm
    have hfM : Fr M' A B := hf.mono (fun k hk => Or.inl (g2 k hk))
    have hn : ∀ k, k < A.heap.size → k ∉ M → k ∉ M2 := fun k hk hn hk2 => (hm k hk2).elim hn (fun h => by omega)
    refine ⟨M2 ++ M'.filter (fun k => decide (k < A.heap.size)), hG _ _ _ _ _ g1 hfM (fun k hk => ?_), fun k hk => by simp [hk], by simp [g3]; omega, by simp [g4]; omega, hn _ (by omega) g5, hn _ (by omega) g6, fun k hk => ?_, Nat.lt_of_lt_of_le g8 hf.size, hL A B g9 (hf.block _ g8 g6), (hf.block _ (by omega) g5).trans g10, ?_⟩
    · simp only [List.mem_append, List.mem_filter] at hk
      rcases hk with hk | hk
      · exact (hm k hk).imp (g2 k) id
      · exact Or.inl hk.1
    · simp only [List.mem_append, List.mem_filter, decide_eq_true_eq] at hk
      have hAw := g11.size
      rcases hk with hk | hk
      · refine ⟨?_, Or.inl hk⟩
        rcases hm k hk with h | h
        · exact (g7 k (g2 k h)).1
        · omega
      · exact ⟨(g7 k hk.1).1, Or.inr (Nat.lt_of_lt_of_le hk.2 hf.size)⟩
    · exact g11.trans (hfM.below (fun k hk => (g7 k hk).1) (Nat.le_trans hn0 g11.size))
  let L1 : World → Prop := fun W => W.heap[w.heap.size + 1]? = some (.loop (lr .ready none))
  refine ⟨w.heap.size + 1, [{ target := .collected w.heap.size, args := #[] }], X, { target := .fn (.func gf) lb, args := #[.func (.yield (w.heap.size + 1)) #[] #[]] }, X, gf,
    #[.func (.yield (w.heap.size + 1)) #[] #[]] ++ lb, X, ?_, ?_, ?_, ?_, fun _ => h1, ?_⟩
  · rw [hX, hlr]; exact run_enterLoop_outer _ _ _ _ _
  · simp only [resolve, hg]
    simp [go_sem]
  · intro f2 hf2; simp [Target.leads] at hf2; subst hf2; exact hFg
  · simp [invoke, go_sem, eg]
  · refine (hseq (w.heap.size + 1) (Jn I L1)
      (fun pre M W => ∃ c, Jn (Ix c) (fun W => W.heap[w.heap.size + 1]? = some (.loop (lr .done (some c)))) pre M W)
      X (hb0.trans (hwX.mono hb0.size))
      (hminds _ _ hI (fun A B h e => e.trans h))
      (fun pre M M2 A B ⟨c, h⟩ hf hm => ⟨c, hminds _ _ (hIx c) (fun A B h e => e.trans h) pre M M2 A B h hf hm⟩)
      ?_ ?_).mono ?_
    · -- one round
      rintro pre x M W ⟨M', g1, g2, g3, g4, g5, g6, g7, g8, hl, g10, g11⟩ hMs hlen
      have hM' : ∀ k ∈ M', n₀ ≤ k ∧ k < W.heap.size := fun k hk => ⟨(g7 k hk).1, (g7 k hk).2.elim (hMs k) id⟩
      have hy := run_yield (P := P) (args := encs x) hl (by rw [hlr]; exact hps x)
      rw [hlr] at hy
      refine ⟨fn, _, assign, body, hy, roundIn_of_wpIn hfn (hassign _ pre x W _ ?_)⟩
      intro a2 W2 hfr2 hax
      have hs2 := hfr2.size
      have hl2 := (hfr2.block _ g8 (by simp)).trans hl
      have hd2 := (hfr2.block _ (by omega) (by simp)).trans g10
      refine ⟨_, run_beginRound hl2 (by rw [hlr]), ?_⟩
      obtain ⟨W3, hW3⟩ : ∃ W3, W3 = W2.putObj (w.heap.size + 1) (.loop { lr .ready none with state := .busy }) := ⟨_, rfl⟩
      rw [← hW3]
      have hs3 : W3.heap.size = W2.heap.size := by rw [hW3]; simp
      have ho3 : ∀ k, k ≠ w.heap.size + 1 → W3.heap[k]? = W2.heap[k]? := fun k hk => by rw [hW3]; exact World.putObj_heap_other hk
      have hl3 : W3.heap[w.heap.size + 1]? = some (.loop { lr .ready none with state := .busy }) := by rw [hW3]; exact World.putObj_heap_same (by omega)
      have hf13 : Fr M' W W3 := (hfr2.mono (fun k hk => by cases hk)).trans (T := [w.heap.size + 1]) (by rw [hW3]; exact Fr.put W2 _ _ (by simp)) (fun k hk => by simp at hk; subst hk; exact Or.inl g4)
      have hI3 := hI _ _ _ _ _ g1 hf13 (fun k hk => Or.inl hk)
      have hB3 : Below n₀ w W3 := g11.trans (hf13.below (fun k hk => (hM' k hk).1) (Nat.le_trans hn0 g11.size))
      refine wpIn_mono (hbody _ W.heap.size pre x a2 M' W3 hI3 (by rw [hW3]; exact hAx _ _ _ _ _ _ _ hax g8) hM' (by omega) hB3 hlen) ?_
      have fin : ∀ (jump : Option Code) (W4 : World), Kept n₀ M' W3 W4 →
          (Instr.endRound (w.heap.size + 1) jump).run P W4 = .ok (.bool jump.isNone) (W4.putObj (w.heap.size + 1) (.loop (lr (if jump.isNone then .ready else .done) jump))) ∧
          ∀ G : List α → List Nat → World → Prop, Minds G → G (pre ++ [x]) M' W4 →
            Jn G (fun W => W.heap[w.heap.size + 1]? = some (.loop (lr (if jump.isNone then .ready else .done) jump))) (pre ++ [x]) M (W4.putObj (w.heap.size + 1) (.loop (lr (if jump.isNone then .ready else .done) jump))) ∧
            Kept n₀ M W (W4.putObj (w.heap.size + 1) (.loop (lr (if jump.isNone then .ready else .done) jump))) := by
        intro jump W4 hk4
        have hl4 := (hk4.2 _ g4).trans hl3
        have hd4 := (hk4.2 _ g3).trans ((ho3 _ (by omega)).trans hd2)
        have hr := run_endRound (P := P) jump hl4
        rw [hlr] at hr ⊢
        have hlt4 : w.heap.size + 1 < W4.heap.size := (Array.getElem?_eq_some_iff.1 hl4).1
        obtain ⟨W5, hW5⟩ : ∃ W5, W5 = W4.putObj (w.heap.size + 1) (.loop (lr (if jump.isNone then .ready else .done) jump)) := ⟨_, rfl⟩
        rw [hlr] at hW5
        have ho5 : ∀ k, k ≠ w.heap.size + 1 → W5.heap[k]? = W4.heap[k]? := fun k hk => by rw [hW5]; exact World.putObj_heap_other hk
        have hs5 : W5.heap.size = W4.heap.size := by rw [hW5]; simp
        have hs4 := hk4.1.size
        have hf45 : Fr [w.heap.size + 1] W4 W5 := by rw [hW5]; exact Fr.put W4 _ _ (by simp)
        have hB5 : Below n₀ W4 W5 := hf45.below (by simp; omega) (by omega)
        refine ⟨hr, ?_⟩
        rw [← hW5]
        intro G hG hg4
        refine ⟨⟨M', hG _ _ _ _ _ hg4 (hf45.mono (fun k hk => by simp at hk; subst hk; exact Or.inl g4)) (fun k hk => Or.inl hk), g2, g3, g4, g5, g6, fun k hk => ⟨(hM' k hk).1, Or.inr (by have := (hM' k hk).2; omega)⟩, by omega, by rw [hW5]; exact World.putObj_heap_same hlt4, (ho5 _ (by omega)).trans hd4, (hB3.trans hk4.1).trans hB5⟩, ?_, fun k hk => ?_⟩
        · exact ((hf13.below (fun k hk => (hM' k hk).1) (by omega)).trans hk4.1).trans hB5
        · have hkl : k ≠ w.heap.size + 1 := fun e => g6 (e ▸ hk)
          exact (ho5 k hkl).trans ((hk4.2 k (g2 k hk)).trans ((ho3 k hkl).trans (hfr2.block k (hMs k hk) (by simp))))
      rintro e a4 W4 hp
      cases e with
      | normal =>
        obtain ⟨q1, q2⟩ := hp
        obtain ⟨r1, r2⟩ := fin none W4 q2
        obtain ⟨r3, r4⟩ := r2 I hI q1
        exact ⟨_, _, r1, .inl ⟨rfl, r3, r4⟩⟩
      | ret =>
        obtain ⟨q1, q2⟩ := hp
        obtain ⟨r1, r2⟩ := fin (some .ret) W4 q2
        obtain ⟨r3, r4⟩ := r2 (Ix .ret) (hIx _) q1
        exact ⟨_, _, r1, .inr ⟨rfl, ⟨.ret, r3⟩, r4⟩⟩
      | exit id =>
        obtain ⟨q1, q2⟩ := hp
        obtain ⟨r1, r2⟩ := fin (some (.exit id)) W4 q2
        obtain ⟨r3, r4⟩ := r2 (Ix (.exit id)) (hIx _) q1
        exact ⟨_, _, r1, .inr ⟨rfl, ⟨.exit id, r3⟩, r4⟩⟩
      | goto t =>
        obtain ⟨q1, q2⟩ := hp
        obtain ⟨r1, r2⟩ := fin (some (.goto t)) W4 q2
        obtain ⟨r3, r4⟩ := r2 (Ix (.goto t)) (hIx _) q1
        exact ⟨_, _, r1, .inr ⟨rfl, ⟨.goto t, r3⟩, r4⟩⟩
      | panic ch => exact hp.elim
      | outgrown => exact hp.elim
    · refine ⟨(w.heap.size + 1) :: w.heap.size :: M1, hI _ _ _ _ _ h0 (Fr.of_below hwX) (fun k hk => ?_), fun k hk => by simp [hM01 k hk], by simp, by simp, fun h => by have := (hM1 _ (hM01 _ h)).2; omega, fun h => by have := (hM1 _ (hM01 _ h)).2; omega, fun k hk => ?_, by omega, hXl, hXd, hwX.mono hn0⟩
      · simp at hk
        rcases hk with rfl | rfl | hk
        · exact Or.inr (by omega)
        · exact Or.inr (Nat.le_refl _)
        · exact Or.inl hk
      · simp at hk
        rcases hk with rfl | rfl | hk
        · exact ⟨by omega, Or.inr (by omega)⟩
        · exact ⟨hn0, Or.inr (by omega)⟩
        · exact ⟨(hM1 k hk).1, Or.inr (by have := (hM1 k hk).2; omega)⟩
    · -- behind the iterator
      have leave : ∀ (G : List α → List Nat → World → Prop) (st : LoopState) (pe : Option Code) (xs : List α) (M : List Nat) (W : World), Minds G → Jn G (fun W => W.heap[w.heap.size + 1]? = some (.loop (lr st pe))) xs M W → st ≠ .busy →
          ∃ M2 W2, (Instr.endLoop (w.heap.size + 1)).run P W = .ok pe W2 ∧ G xs M2 W2 ∧ w.heap.size ∈ M2 ∧ (∀ k ∈ M2, n₀ ≤ k ∧ k < W2.heap.size) ∧ Below n₀ w W2 ∧ W2.heap[w.heap.size]? = some (.deferred (some [])) := by
        rintro G st pe xs M W hG ⟨M', g1, g2, g3, g4, g5, g6, g7, g8, hl, g10, g11⟩ hst
        have hr := run_endLoop (P := P) hl (by rw [hlr]; exact hst)
        rw [hlr] at hr
        refine ⟨M'.filter (fun k => decide (k < W.heap.size)), _, hr, hG _ _ _ _ _ g1 (Fr.put W _ _ g4) (fun k hk => Or.inl ((List.mem_filter.1 hk).1)), by simp [g3]; omega, fun k hk => ?_, g11.trans ((Fr.put (S := [w.heap.size + 1]) W _ _ (by simp)).below (by simp; omega) (Nat.le_trans hn0 g11.size)), (World.putObj_heap_other (by omega)).trans g10⟩
        simp only [List.mem_filter, decide_eq_true_eq] at hk
        exact ⟨(g7 k hk.1).1, by simp; exact hk.2⟩
      rintro e W2 ⟨⟨v, rfl⟩, (⟨xs, M, hS, hj⟩ | ⟨pre, M, hSp, c, hj⟩)⟩
      · obtain ⟨M2, W4, r1, r2, r3, r4, r5, r6⟩ := leave I .ready none xs M W2 hI hj (by simp)
        exact ⟨none, W4, r1, hdone _ xs M2 W4 (Nat.le_refl _) r3 r4 hS r2 r5 r6⟩
      · obtain ⟨M2, W4, r1, r2, r3, r4, r5, r6⟩ := leave (Ix c) .done (some c) pre M W2 (hIx c) hj (by simp)
        exact ⟨some c, W4, r1, hstop _ c pre M2 W4 (Nat.le_refl _) r3 r4 hSp r2 r5 r6⟩
end Go.Proofs.YtmndlhbgacgnlaaGreat

namespace Go.Proofs.YtmndlhbgacgnlaaGreat
open Go Go.RowKit Go.Shelf
attribute [local go_sem] Oper.semAt_some

def pkv (p : Addr × Nat) : Value := .agg #[.pointer (some p.1), .int .i64 (p.2 : Int)]
theorem pkv_inj {p q : Addr × Nat} (h : pkv p = pkv q) : p = q := by
  simp only [pkv, Value.agg.injEq, Array.mk.injEq, List.cons.injEq, Value.pointer.injEq, Option.some.injEq, Value.int.injEq, and_true, true_and] at h
  exact Prod.ext h.1 (by omega)
/-- The places that were asked for, in the map of block b + 1, which the box b + 2 holds. -/
def OnceS (wo : World) (b : Nat) (pre : List (It wo)) (W : World) : Prop :=
  Boxed W (b + 2) 142 (.map (some (b + 1))) ∧ ∃ M, MapIs W (b + 1) M ∧ (∀ x ∈ M, ∃ p, x = (pkv p, .bool true) ∧ FreeB wo p.1.block) ∧ ∀ p, ((pkv p, Value.bool true) ∈ M ↔ some p ∈ pre.map plOf)
theorem OnceS.on {wo : World} {b : Nat} {pre : List (It wo)} {A B : World} (h : OnceS wo b pre A) (hk : ∀ k ∈ [b + 2, b + 1], B.heap[k]? = A.heap[k]?) : OnceS wo b pre B := by
  obtain ⟨h1, M, h2, h3⟩ := h
  exact ⟨box_on h1 (hk _ (by simp)), M, h2.on (hk _ (by simp)), h3⟩

set_option maxHeartbeats 1000000 in
theorem place_in (F : Fence) (n : Nat) (hF : ∀ k, F.fn k) (hro : F.round = none) (g o q c : Nat) (w : World) (hn : 0 < q) (hn2 : q ≤ 9223372036854775807) :
    CallsIn F n Tryz.prog 104 #[.slice (some ⟨g, o, none⟩) q c] w (RetPost (.agg #[.pointer (some ⟨g, o, none⟩), .int .i64 (q : Int)]) w) := by
  have HL := Lib.hid (fun (o : Obj) => (Below.refl w.heap.size w).alloc (Nat.le_refl _) o)
  have hn3 : (0 : Int) < (q : Int) := by omega
  refine callsIn_of_wp Tryz.func104 rfl (hF _) ?_ hro
  simp only [Tryz.ntmps104, List.size_toArray, List.length_cons, List.length_nil, Nat.reduceAdd, Nat.reduceSub, Array.replicate_succ, Array.replicate_zero, List.push_toArray, List.append_toArray, List.nil_append, List.cons_append]
  gi_wp2
  refine bodyPost_ret (v := .agg #[.pointer (some ⟨g, o, none⟩), .int .i64 (q : Int)]) (by simp [results, Tryz.results104, go_sem]) rfl ?_
  exact ⟨rfl, HL.out _⟩
set_option maxRecDepth 100000 in
set_option maxHeartbeats 2000000 in
theorem once_in (F : Fence) (n : Nat) (hF : ∀ k, F.fn k) (hro : F.round = none) (hn1 : 1 ≤ n) (wo : World) (e : Ex) (bs : List Nat) (b : Nat) (hfr : ∀ z ∈ bs, ∀ o, wo.frozen? ⟨z, o, none⟩ = false)
    (pre : List (It wo)) (x : It wo) (A : Option Addr) (c : Nat) (W1 : World) (hs : OnceS wo b pre W1) (hW : Below wo.heap.size wo W1) (hx : x.1.2.2.1 = .slice A x.ex.args.length c) (hI : ∃ st, InvO e bs pre (st ++ [x])) :
    CallsIn F n Tryz.prog 103 #[.slice A x.ex.args.length c, .pointer (some ⟨b + 2, 0, none⟩)] W1 fun r W2 => r = .returned (.bool (askO pre x)) ∧ OnceS wo b (pre ++ [x]) W2 ∧ Fr [b + 2, b + 1] W1 W2 := by
  obtain ⟨st, hst⟩ := hI
  have hsl := x.slice
  obtain ⟨A', c', e1, -, hc1, hc2⟩ := hsl
  rw [hx] at e1
  cases e1
  obtain ⟨hp0, hp1⟩ := plOf_slice hx
  obtain ⟨q, hq⟩ : ∃ q, q = x.ex.args.length := ⟨_, rfl⟩
  rw [← hq] at hc1 ⊢
  have hqq : (q : Int) ≤ 9223372036854775807 := by omega
  by_cases h0 : q = 0
  · have HA := Lib.hid (show askO pre x = false by unfold askO; rw [hp0 (by rw [← hq, h0])])
    have HS := Lib.hid (show OnceS wo b (pre ++ [x]) W1 from by
      obtain ⟨h1, M, h2, h3, h4⟩ := hs
      refine ⟨h1, M, h2, h3, fun p => ?_⟩
      rw [h4 p, List.map_append, List.map_cons, List.map_nil, hp0 (by rw [← hq, h0])]
      simp)
    clear hs hst hx hp0 hp1 hq
    subst h0
    refine callsIn_of_wp Tryz.func103 rfl (hF _) ?_ hro
    simp only [Tryz.ntmps103, List.size_toArray, List.length_cons, List.length_nil, Nat.reduceAdd, Nat.reduceSub, Array.replicate_succ, Array.replicate_zero, List.push_toArray, List.append_toArray, List.nil_append, List.cons_append]
    gi_wp2
    go_ret
    exact ⟨by rw [HA.out]; rfl, HS.out, Fr.refl _ _⟩
  · obtain ⟨p, hp⟩ : ∃ p, plOf x = some p := by
      cases hpl : plOf x with
      | some p => exact ⟨p, rfl⟩
      | none => exact absurd (by rw [hq, plOf_none hpl]; rfl) h0
    obtain ⟨g, o, c2, bs', rfl, e2, -, hg1, hg2, hat⟩ := plOf_some hp
    rw [hx] at e2
    cases e2
    have hfg : FreeB wo g := by
      have hgb : g ∈ bs := hst.blk x (by simp) g hg1
      cases hl : x.ex.args with
      | nil => rw [hl] at hq; exact absurd hq h0
      | cons e9 r9 =>
        rw [hl, ExsAt] at hat
        obtain ⟨b8, b9, -, h8, -⟩ := hat
        obtain ⟨u, k0, -⟩ := h8.is
        exact FreeB.of_cell k0 (hfr g hgb)
    have hfW : ∀ z, FreeB wo z → FreeB W1 z := fun z hz => hz.on (hW.block z hz.lt)
    obtain ⟨hbx, M, hM, hMK, hMp⟩ := hs
    have hc := hbx.cell
    have hkey : pkv (⟨g, o, none⟩, x.ex.args.length) = .agg #[.pointer (some ⟨g, o, none⟩), .int .i64 (q : Int)] := by rw [hq]; rfl
    have HALL := Lib.hid (show ∀ W2, Below W1.heap.size W1 W2 → (Instr.lookup 142 (.map (some (b + 1))) (.agg #[.pointer (some ⟨g, o, none⟩), .int .i64 (q : Int)]) false).run Tryz.prog (W2.alloc (.cells #[.pointer (some ⟨g, o, none⟩), .int .i64 (q : Int)] 145)) = .ok (.bool (!askO pre x)) (W2.alloc (.cells #[.pointer (some ⟨g, o, none⟩), .int .i64 (q : Int)] 145)) ∧ MapIs (W2.alloc (.cells #[.pointer (some ⟨g, o, none⟩), .int .i64 (q : Int)] 145)) (b + 1) M ∧ (∀ x ∈ M, PlaceK (W2.alloc (.cells #[.pointer (some ⟨g, o, none⟩), .int .i64 (q : Int)] 145)) x.1) ∧ PlaceK (W2.alloc (.cells #[.pointer (some ⟨g, o, none⟩), .int .i64 (q : Int)] 145)) (.agg #[.pointer (some ⟨g, o, none⟩), .int .i64 (q : Int)]) ∧
        (∀ (W5 : World) (L2 : List (Value × Value)), MapIs W5 (b + 1) L2 → Put M (.agg #[.pointer (some ⟨g, o, none⟩), .int .i64 (q : Int)]) (.bool true) L2 → (W2.alloc (.cells #[.pointer (some ⟨g, o, none⟩), .int .i64 (q : Int)] 145)).grownBy W5 (some (b + 1)) → OnceS wo b (pre ++ [x]) W5 ∧ Fr [b + 2, b + 1] W1 W5) ∧ W2.cell? ⟨b + 2, 0, none⟩ = some (.map (some (b + 1))) ∧ b + 2 < W2.heap.size from fun W2 hb2 => by
      obtain ⟨Wb, hWb⟩ : ∃ Wb, Wb = W2.alloc (.cells #[.pointer (some ⟨g, o, none⟩), .int .i64 (q : Int)] 145) := ⟨_, rfl⟩
      have hbB : Below W1.heap.size W1 Wb := by rw [hWb]; exact hb2.alloc hb2.size _
      have hMb : MapIs Wb (b + 1) M := hM.on (hbB.block _ hM.lt)
      have hfB : ∀ z, FreeB wo z → FreeB Wb z := fun z hz => (hfW z hz).on (hbB.block z (hfW z hz).lt)
      have hKK : ∀ x ∈ M, PlaceK Wb x.1 := fun y hy => by
        obtain ⟨p2, rfl, hf⟩ := hMK y hy
        exact ⟨p2.1, (p2.2 : Int), rfl, hfB _ hf⟩
      have hPK : PlaceK Wb (.agg #[.pointer (some ⟨g, o, none⟩), .int .i64 (q : Int)]) := ⟨_, _, rfl, hfB g hfg⟩
      obtain ⟨vl, has, hrun, hit⟩ := hMb.look (placeT Wb) Tryz.underlying142 (zeroB Wb) hPK hKK
      have hr2 := hrun false
      simp only [if_false, Bool.false_eq_true] at hr2
      have hans : vl = .bool (!askO pre x) := by
        unfold askO
        rw [hp]
        rcases hit with ⟨h1, rfl⟩ | ⟨h1, rfl, rfl⟩
        · obtain ⟨p2, e9, -⟩ := hMK _ h1
          rw [← hkey] at e9 h1
          rw [Prod.mk.injEq] at e9
          obtain ⟨e9, rfl⟩ := e9
          have := (hMp _).1 h1
          simp [this]
        · have : some ((⟨g, o, none⟩ : Addr), x.ex.args.length) ∉ pre.map plOf := fun hh => h1 _ ((hMp _).2 hh) hkey
          simp [this]
      have hN : ∀ (W5 : World) (L2 : List (Value × Value)), MapIs W5 (b + 1) L2 → Put M (.agg #[.pointer (some ⟨g, o, none⟩), .int .i64 (q : Int)]) (.bool true) L2 → Wb.grownBy W5 (some (b + 1)) → OnceS wo b (pre ++ [x]) W5 ∧ Fr [b + 2, b + 1] W1 W5 := fun W5 L2 h1 h2 h3 => by
        obtain ⟨es, clock, -, -, hnd⟩ := hMb
        have hput := put_mem hnd h2
        refine ⟨⟨box_on hbx ((h3.block _ (Nat.lt_of_lt_of_le hbx.lt hbB.size) (fun e9 => by have := Option.some.inj e9; omega)).trans (hbB.block _ hbx.lt)), L2, h1, fun y hy => ?_, fun p2 => ?_⟩, (Fr.of_below hbB).trans (Fr.grown h3 (fun k e9 => by cases e9; simp)) (fun k hk => Or.inl hk)⟩
        · obtain ⟨yk, yv⟩ := y
          rcases (hput yk yv).1 hy with ⟨rfl, rfl⟩ | ⟨-, hy⟩
          · exact ⟨(⟨g, o, none⟩, x.ex.args.length), by rw [hkey], hfg⟩
          · exact hMK _ hy
        · rw [hput, hMp p2, List.map_append, List.map_cons, List.map_nil, hp, List.mem_append, List.mem_singleton]
          constructor
          · rintro (⟨h9, -⟩ | ⟨-, h9⟩)
            · exact Or.inr (by rw [← hkey] at h9; rw [pkv_inj h9])
            · exact Or.inl h9
          · intro h9
            by_cases h8 : pkv p2 = .agg #[.pointer (some ⟨g, o, none⟩), .int .i64 (q : Int)]
            · exact Or.inl ⟨h8, rfl⟩
            · rcases h9 with h9 | h9
              · exact Or.inr ⟨h8, h9⟩
              · rw [Option.some.inj h9] at h8
                exact absurd hkey h8
      rw [hans] at hr2
      rw [hWb] at hr2 hMb hKK hPK hN
      exact ⟨hr2, hMb, hKK, hPK, hN, (hb2.cell (p := ⟨b + 2, 0, none⟩) hbx.lt).trans hc, Nat.lt_of_lt_of_le hbx.lt hb2.size⟩)
    have hq1 : 0 < q := by omega
    have HPL := Lib.hid (fun (k : Nat) => place_in F k hF hro g o q c W1 hq1 (by omega))
    generalize askO pre x = ak at *
    have hqe : ((q : Int) == 0) = false := by simp; omega
    clear hM hMK hMp hbx hfW hfg hat hg1 hg2 hp hp0 hp1 hst hx hW hkey h0 hq hfr hc hq1
    refine callsIn_of_wp Tryz.func103 rfl (hF _) ?_ hro
    simp only [Tryz.ntmps103, List.size_toArray, List.length_cons, List.length_nil, Nat.reduceAdd, Nat.reduceSub, Array.replicate_succ, Array.replicate_zero, List.push_toArray, List.append_toArray, List.nil_append, List.cons_append]
    gi_wp2_with (first
      | (gi_at_call 104; refine (HPL.out _).mono ?_; rintro r W2 ⟨rfl, hb2⟩; obtain ⟨hr2, hmb, hkk, hpk, hn5, hc2', hbl2⟩ := HALL.out W2 hb2; have HMB := Lib.hid hmb; have HKK := Lib.hid hkk; have HPK := Lib.hid hpk; have HN := Lib.hid hn5; clear hmb hkk hpk hn5 hb2)
      | (gi_at_mapUpdate; refine asc_put_in _ rfl _ _ _ 142 rfl 145 4 Tryz.underlying142 (PlaceK _) (placeT _) (b + 1) M rfl HMB.out _ _ rfl rfl HPK.out HKK.out ?_; intro W5 L2 hm5 hp5 hg5; have HE5 := Lib.hid (HN.out W5 L2 hm5 hp5 hg5); clear hm5 hp5 hg5))
    go_ret
    exact ⟨by simp, HE5.out⟩

/-- The boxes of nodesWhere$1 behind block b. -/
def onceLb (b : Nat) : Array Value := #[.pointer (some ⟨b + 3, 0, none⟩), .pointer (some ⟨b + 4, 0, none⟩)]
/-- What nodesOnce hands back where the heap had b blocks. -/
def onceFun (b : Nat) : Value := .func (.func 125) #[] (onceLb b)
/-- The world behind a call of nodesOnce. -/
def onceW (w : World) (k : Int) (s : ByteArray) (u : Value) : World :=
  ((((w.alloc (.cells #[.int .i64 k, .string s, u] 32)).alloc (.map #[] 0)).alloc (.cells #[.map (some (w.heap.size + 1))] 142)).alloc (.cells #[.int .i64 k, .string s, u] 32)).alloc (.cells #[.func (.func 103) #[] #[.pointer (some ⟨w.heap.size + 2, 0, none⟩)]] 137)
theorem onceW_size (w : World) (k : Int) (s : ByteArray) (u : Value) : (onceW w k s u).heap.size = w.heap.size + 5 := by simp [onceW]
theorem onceW_below {n : Nat} {wo w : World} (h : Below n wo w) (hn : n ≤ w.heap.size) (k : Int) (s : ByteArray) (u : Value) : Below n wo (onceW w k s u) :=
  ((((h.alloc hn _).alloc (by simp; omega) _).alloc (by simp; omega) _).alloc (by simp; omega) _).alloc (by simp; omega) _
theorem onceW_facts (w : World) (k : Int) (s : ByteArray) (u : Value) : (onceW w k s u).heap[w.heap.size + 3]? = some (.cells #[.int .i64 k, .string s, u] 32 (0, 0)) ∧ Boxed (onceW w k s u) (w.heap.size + 4) 137 (.func (.func 103) #[] #[.pointer (some ⟨w.heap.size + 2, 0, none⟩)]) ∧
    Boxed (onceW w k s u) (w.heap.size + 2) 142 (.map (some (w.heap.size + 1))) ∧ MapIs (onceW w k s u) (w.heap.size + 1) [] := by
  obtain ⟨a1, h1⟩ : ∃ a1, a1 = w.alloc (.cells #[.int .i64 k, .string s, u] 32) := ⟨_, rfl⟩
  obtain ⟨a2, h2⟩ : ∃ a2, a2 = a1.alloc (.map #[] 0) := ⟨_, rfl⟩
  obtain ⟨a3, h3⟩ : ∃ a3, a3 = a2.alloc (.cells #[.map (some (w.heap.size + 1))] 142) := ⟨_, rfl⟩
  obtain ⟨a4, h4⟩ : ∃ a4, a4 = a3.alloc (.cells #[.int .i64 k, .string s, u] 32) := ⟨_, rfl⟩
  obtain ⟨a5, h5⟩ : ∃ a5, a5 = a4.alloc (.cells #[.func (.func 103) #[] #[.pointer (some ⟨w.heap.size + 2, 0, none⟩)]] 137) := ⟨_, rfl⟩
  have e : onceW w k s u = a5 := by rw [h5, h4, h3, h2, h1]; rfl
  have s1 : a1.heap.size = w.heap.size + 1 := by rw [h1]; simp
  have s2 : a2.heap.size = w.heap.size + 2 := by rw [h2]; simp [s1]
  have s3 : a3.heap.size = w.heap.size + 3 := by rw [h3]; simp [s2]
  have s4 : a4.heap.size = w.heap.size + 4 := by rw [h4]; simp [s3]
  have k2 : ∀ j, j < w.heap.size + 2 → a3.heap[j]? = a2.heap[j]? := fun j hj => by rw [h3]; exact Below.heap_alloc _ _ _ (by omega)
  have k3 : ∀ j, j < w.heap.size + 3 → a4.heap[j]? = a3.heap[j]? := fun j hj => by rw [h4]; exact Below.heap_alloc _ _ _ (by omega)
  have k4 : ∀ j, j < w.heap.size + 4 → a5.heap[j]? = a4.heap[j]? := fun j hj => by rw [h5]; exact Below.heap_alloc _ _ _ (by omega)
  have m := MapIs.made a1
  rw [← h2, s1] at m
  have b3 := Boxed.new a2 142 (.map (some (w.heap.size + 1)))
  rw [← h3, s2] at b3
  have b4 := World.alloc_heap_new a3 (.cells #[.int .i64 k, .string s, u] 32)
  rw [← h4, s3] at b4
  have b5 := Boxed.new a4 137 (.func (.func 103) #[] #[.pointer (some ⟨w.heap.size + 2, 0, none⟩)])
  rw [← h5, s4] at b5
  rw [e]
  exact ⟨(k4 _ (by omega)).trans b4, b5, box_on b3 ((k4 _ (by omega)).trans (k3 _ (by omega))), m.on ((k4 _ (by omega)).trans ((k3 _ (by omega)).trans (k2 _ (by omega))))⟩

theorem run_makePlaces (w : World) : (Instr.makeMap 142 none).run Tryz.prog w = .ok (.map (some w.heap.size)) (w.alloc (.map #[] 0)) := by
  simp [Instr.makeMap]
set_option maxHeartbeats 1000000 in
theorem nodesOnce_in (F : Fence) (n : Nat) (hF : ∀ k, F.fn k) (hro : F.round = none) (hn : 1 ≤ n) (k : Int) (s : ByteArray) (A : Option Addr) (m c : Nat) (w : World) :
    CallsIn F n Tryz.prog 73 #[.agg #[.int .i64 k, .string s, .slice A m c]] w fun e w2 => e = .returned (onceFun w.heap.size) ∧ w2 = onceW w k s (.slice A m c) := by
  have hmk := run_makePlaces
  refine callsIn_of_wp Tryz.func73 rfl (hF _) ?_ hro
  simp only [Tryz.ntmps73, List.size_toArray, List.length_cons, List.length_nil, Nat.reduceAdd, Nat.reduceSub, Array.replicate_succ, Array.replicate_zero, List.push_toArray, List.append_toArray, List.nil_append, List.cons_append]
  gi_wp2_with (gi_at_call 99; refine (nodesWhere_in F (n - 1) hF hro _ _ _ _ _ _ _ _).mono ?_; rintro e w' ⟨rfl, rfl⟩)
  go_ret
  exact ⟨rfl, rfl⟩

/-- What nodesOnce hands back, as a range over it wants it: it tells of every first occurrence what all nodes tell. -/
theorem once_stops (F : Fence) (n : Nat) (hFw : F = Fence.wide) (hro : F.round = none) (hF : ∀ k, F.fn k) (hn : 3 ≤ n) (wo : World) (e : Ex) (u : Value) (bs : List Nat) (he : ExIs wo (.agg #[.int .i64 e.kind, .string e.name, u]) e bs) (hsz : exSize e ≤ 1099511627776) (hfr : ∀ z ∈ bs, ∀ o, wo.frozen? ⟨z, o, none⟩ = false) (b : Nat) (w0 w : World) (hb : b = w0.heap.size) (hw : w = onceW w0 e.kind e.name u) (hW : Below wo.heap.size wo w0) :
    SeqF F n Tryz.prog 125 (onceLb b) (fun x : It wo => #[x.val]) wo.heap.size (fun xs => ∀ q : Ex → Bool, (xs.map It.ex).find? q = (exNodes e).find? q) (fun pre => ∃ rest, ∀ q : Ex → Bool, (pre.map It.ex ++ rest).find? q = (exNodes e).find? q) (exSize e) [b + 4, b + 2, b + 1] w := by
  intro l J Jx W hwW hJ hJx hY h0
  have hs0 := hW.size
  have hsz2 : w.heap.size = w0.heap.size + 5 := by rw [hw, onceW_size]
  obtain ⟨f1, f2, f3, f4⟩ := onceW_facts w0 e.kind e.name u
  rw [← hw, ← hb] at f1 f2 f3 f4
  have hlow : Below wo.heap.size wo w := by rw [hw]; exact onceW_below hW hs0 _ _ _
  have k : ∀ j, j < b + 5 → W.heap[j]? = w.heap[j]? := fun j hj => hwW.block j (by omega)
  have hb2 : W.heap[b + 3]? = some (.cells #[.int .i64 e.kind, .string e.name, u] 32 (0, 0)) := (k _ (by omega)).trans f1
  have hg2 := box_on f2 (k (b + 4) (by omega))
  have hWs := hwW.size
  refine (nodes_once_in F n hFw hro hF hn l (b + 3) (b + 4) (b + 2) wo e u bs he hsz J Jx hJ hJx hY (InvO e bs) (OnceS wo b) askO [b + 4, b + 2, b + 1] [b + 2, b + 1] ?_ ?_ ?_ (fun pre A B h _ hk => h.on hk) ?_
    W (hlow.trans (hwW.mono hlow.size)) (fun j hj => by simp at hj; omega) (by simp) (fun j hj => by simp at hj ⊢; omega) hg2 (by simp [World.cell?, hb2]) (by simp [World.cell?, hb2]) (by simp [World.cell?, hb2]) h0 ⟨box_on f3 (k (b + 2) (by omega)), [], f4.on (k (b + 1) (by omega)), (fun x hx => by cases hx), fun p => by simp⟩).mono ?_
  · intro x hx hb9
    exact InvO.start x hx (fun z hz => by rw [hb9] at hz; exact hz)
  · intro pre st x ks h _ hk hb
    exact h.go hk hb
  · intro pre st x h ha
    exact h.skip ha
  · intro pre x A c W1 h1 h2 h3 _ h5
    exact once_in F (n - 1) hF hro (by omega) wo e bs b hfr pre x A c W1 h1 h2 h3 h5
  · rintro r W2 ⟨hv, ⟨xs, M, h1, h2⟩ | ⟨pre, M, ⟨pre0, st0, x, rfl, h1⟩, h2⟩⟩
    · refine ⟨hv, .inl ⟨xs, M, fun q => ?_, h2⟩⟩
      have := h1.find q
      simpa [due] using this
    · refine ⟨hv, .inr ⟨_, M, ⟨exNodesL x.ex.args ++ due st0, fun q => ?_⟩, h2⟩⟩
      have := h1.find q
      rw [due_one] at this
      rw [← this]
      simp
end Go.Proofs.YtmndlhbgacgnlaaGreat

namespace Go.Proofs.YtmndlhbgacgnlaaGreat
open Go Go.RowKit

abbrev Cn : Type := ByteArray × Nat
def Cn.enc (x : Cn) : Array Value := #[.string x.1, .int .i64 (x.2 : Int)]
def conOf (e : Ex) : Option Cn := if e.kind = 2 then some (e.name, e.args.length) else none
def headOf (r : Ru) : List Cn := if r.con.size = 0 then [] else [(r.con, r.vars.length)]
def bodyOf (e : Ex) : List Cn := (exNodes e).filterMap conOf
def consRu (r : Ru) : List Cn := headOf r ++ bodyOf r.body
def consAll (l : List Ru) : List Cn := l.flatMap consRu
def cntR (l : List Ru) : Nat := (l.map (fun r => exSize r.body + 1)).sum
theorem cntR_snoc (l : List Ru) (r : Ru) : cntR (l ++ [r]) = cntR l + (exSize r.body + 1) := by simp [cntR]
theorem cntR_take (l : List Ru) (k : Nat) : cntR (l.take k) ≤ cntR l := by
  have h : cntR l = cntR (l.take k) + cntR (l.drop k) := by rw [cntR, cntR, cntR, ← List.sum_append, ← List.map_append, List.take_append_drop]
  omega
theorem consAll_snoc (l : List Ru) (r : Ru) : consAll (l ++ [r]) = consAll l ++ consRu r := by simp [consAll]

/-- What an answer is. -/
def arOf : Option Cn → Int
  | some x => (x.2 : Int)
  | none => -1
theorem arOf_none : arOf none = -1 := rfl
theorem arOf_some (x : Cn) : arOf (some x) = (x.2 : Int) := rfl
theorem arOf_app (A B : List Cn) (q : Cn → Bool) : arOf ((A ++ B).find? q) = if 0 ≤ arOf (A.find? q) then arOf (A.find? q) else arOf (B.find? q) := by
  rw [List.find?_append]
  cases h : A.find? q with
  | none => simp [arOf]
  | some x => simp [arOf]
def isC (c : ByteArray) (x : Cn) : Bool := decide (x.1 = c)
theorem conE_find (c : ByteArray) (n : Nat) : (∀ e : Ex, exSize e ≤ n → conE c e = arOf ((bodyOf e).find? (isC c))) ∧ (∀ l : List Ex, exSizes l ≤ n → conL c l = arOf (((exNodesL l).filterMap conOf).find? (isC c))) := by
  induction n with
  | zero =>
    refine ⟨fun e h => by have := exSize_pos e; omega, fun l h => ?_⟩
    cases l with
    | nil => rw [conL]; simp [exNodesL, arOf]
    | cons e r => rw [exSizes] at h; have := exSize_pos e; omega
  | succ n ih =>
    have hE : ∀ e : Ex, exSize e ≤ n + 1 → conE c e = arOf ((bodyOf e).find? (isC c)) := by
      intro e h
      cases e with
      | mk k s l =>
        rw [exSize] at h
        rw [conE, bodyOf, exNodes, ih.2 l (by omega)]
        by_cases hk : k = 2
        · by_cases hs : s = c
          · simp [hk, hs, conOf, Ex.kind, Ex.name, Ex.args, isC, arOf]
          · simp [hk, hs, conOf, Ex.kind, Ex.name, Ex.args, isC]
        · simp [hk, conOf, Ex.kind]
    refine ⟨hE, ?_⟩
    intro l
    induction l with
    | nil => intro _; rw [conL]; simp [exNodesL, arOf]
    | cons e r ihl =>
      intro h
      rw [exSizes] at h
      rw [conL, exNodesL, List.filterMap_append, arOf_app, hE e (by omega), ihl (by omega)]
      rfl
theorem conR_find (c : ByteArray) : ∀ l : List Ru, conR c l = arOf ((consAll l).find? (isC c)) := by
  intro l
  induction l with
  | nil => rfl
  | cons r t ih =>
    rw [conR, show consAll (r :: t) = (headOf r ++ bodyOf r.body) ++ consAll t by simp [consAll, consRu], arOf_app, arOf_app, ih, (conE_find c _).1 r.body (Nat.le_refl _)]
    unfold headOf
    by_cases h0 : r.con.size = 0
    · have : ¬ (r.con = c ∧ c.size ≠ 0) := by rintro ⟨rfl, h⟩; exact h h0
      rw [if_neg this, if_pos h0]
      simp [arOf_none]
    · rw [if_neg h0]
      by_cases hc : r.con = c
      · rw [if_pos ⟨hc, by rw [← hc]; exact h0⟩]; simp [isC, hc, arOf_some]
      · rw [if_neg (fun h => hc h.1)]; simp [isC, hc, arOf_none]
theorem find_map {A B : List Ex} (h : ∀ q : Ex → Bool, A.find? q = B.find? q) (q : Cn → Bool) : (A.filterMap conOf).find? q = (B.filterMap conOf).find? q := by
  rw [List.find?_filterMap, List.find?_filterMap, h]
theorem find_apps {A A2 B B2 : List Cn} (h1 : ∀ q, A.find? q = A2.find? q) (h2 : ∀ q, B.find? q = B2.find? q) (q : Cn → Bool) : (A ++ B).find? q = (A2 ++ B2).find? q := by
  rw [List.find?_append, List.find?_append, h1, h2]

/-- The constructors among what was handed out. -/
def consO {wo : World} (ys : List (It wo)) : List Cn := (ys.map It.ex).filterMap conOf
theorem consO_yes {wo : World} (ys : List (It wo)) (x : It wo) (h : x.ex.kind = 2) : consO (ys ++ [x]) = consO ys ++ [(x.ex.name, x.ex.args.length)] := by simp [consO, conOf, h]
theorem consO_no {wo : World} (ys : List (It wo)) (x : It wo) (h : ¬ x.ex.kind = 2) : consO (ys ++ [x]) = consO ys := by simp [consO, conOf, h]
theorem consO_len {wo : World} (ys : List (It wo)) : (consO ys).length ≤ ys.length := by
  have := List.length_filterMap_le conOf (ys.map It.ex)
  simpa [consO] using this
theorem consAll_split {l : List Ru} {i : Nat} {r : Ru} (h : l[i]? = some r) : consAll l = consAll (l.take i) ++ (headOf r ++ (bodyOf r.body ++ consAll (l.drop (i + 1)))) := by
  obtain ⟨h1, h2⟩ := List.getElem?_eq_some_iff.1 h
  have : l = l.take i ++ (r :: l.drop (i + 1)) := by rw [← h2, ← List.drop_eq_getElem_cons h1, List.take_append_drop]
  conv => lhs; rw [this]
  simp [consAll, consRu]
theorem step_find {wo : World} {pre1 C : List Cn} {r : Ru} {ys : List (It wo)} (h1 : ∀ q, pre1.find? q = (C ++ headOf r).find? q) (h2 : ∀ q : Ex → Bool, (ys.map It.ex).find? q = (exNodes r.body).find? q) (q : Cn → Bool) : (pre1 ++ consO ys).find? q = (C ++ consRu r).find? q := by
  rw [consRu, ← List.append_assoc]
  exact find_apps h1 (find_map h2) q
theorem stop_find {wo : World} {pre1 : List Cn} {l : List Ru} {i : Nat} {r : Ru} {ys : List (It wo)} {rest : List Ex} (hg : l[i]? = some r) (h1 : ∀ q, pre1.find? q = (consAll (l.take i) ++ headOf r).find? q) (h2 : ∀ q : Ex → Bool, (ys.map It.ex ++ rest).find? q = (exNodes r.body).find? q) (q : Cn → Bool) : ((pre1 ++ consO ys) ++ (rest.filterMap conOf ++ consAll (l.drop (i + 1)))).find? q = (consAll l).find? q := by
  rw [consAll_split hg, show (pre1 ++ consO ys) ++ (rest.filterMap conOf ++ consAll (l.drop (i + 1))) = pre1 ++ ((ys.map It.ex ++ rest).filterMap conOf ++ consAll (l.drop (i + 1))) by simp [consO], ← List.append_assoc (consAll _)]
  exact find_apps h1 (find_apps (find_map h2) (fun _ => rfl)) q
theorem head_find {pre C : List Cn} {r : Ru} (h : ∀ q, pre.find? q = C.find? q) (hc : ¬ r.con.size = 0) (q : Cn → Bool) : (pre ++ [(r.con, r.vars.length)]).find? q = (C ++ headOf r).find? q := by
  rw [headOf, if_neg hc]
  exact find_apps h (fun _ => rfl) q
theorem nohead_find {pre C : List Cn} {r : Ru} (h : ∀ q, pre.find? q = C.find? q) (hc : r.con.size = 0) (q : Cn → Bool) : pre.find? q = (C ++ headOf r).find? q := by
  rw [headOf, if_pos hc, List.append_nil]
  exact h q
theorem halt_find {pre : List Cn} {l : List Ru} {i : Nat} {r : Ru} (hg : l[i]? = some r) (h : ∀ q, pre.find? q = (consAll (l.take i)).find? q) (hc : ¬ r.con.size = 0) (q : Cn → Bool) : ((pre ++ [(r.con, r.vars.length)]) ++ (bodyOf r.body ++ consAll (l.drop (i + 1)))).find? q = (consAll l).find? q := by
  rw [consAll_split hg, ← List.append_assoc (consAll _)]
  exact find_apps (head_find h hc) (fun _ => rfl) q
theorem asC_no (k : Int) (hk : ¬ k = 2) (v : Value) (w : World) : (Instr.typeAssert (.iface (formTy k) v) 103 110 true).run Tryz.prog w = .ok (.tuple #[.agg #[.string ⟨#[]⟩, .slice none 0 0], .bool false]) w := by
  unfold formTy
  by_cases h1 : k = 1
  · rw [if_pos h1]; exact asVC v w
  · by_cases h3 : k = 3
    · rw [if_neg h1, if_neg hk, if_pos h3]; exact asKC v w
    · by_cases h4 : k = 4
      · rw [if_neg h1, if_neg hk, if_neg h3, if_pos h4]; exact asSC v w
      · rw [if_neg h1, if_neg hk, if_neg h3, if_neg h4]; exact asOC v w

section
variable {α : Type} {wo : World}
/-- What the loop outside keeps for itself while an iterator inside is under way: its own blocks K stand as in w1. -/
def Inn (G : List α → List Nat → World → Prop) (n₀ : Nat) (K : List Nat) (w1 : World) (pre : List α) (M : List Nat) (W : World) : Prop :=
  ∃ M', G pre M' W ∧ (∀ k ∈ M, k ∈ M') ∧ (∀ k ∈ K, k ∈ M' ∧ k ∉ M ∧ k < W.heap.size ∧ W.heap[k]? = w1.heap[k]?) ∧ (∀ k ∈ M', n₀ ≤ k ∧ (k ∈ M ∨ k < W.heap.size)) ∧ n₀ ≤ W.heap.size
theorem Inn.minds {G : List α → List Nat → World → Prop} {n₀ : Nat} {K : List Nat} {w1 : World} (hG : Minds G) : Minds (Inn G n₀ K w1) := by
  rintro pre M M2 A B ⟨M', g1, g2, g3, g4, g5⟩ hf hm
  refine ⟨M2 ++ M'.filter (fun k => decide (k < A.heap.size)), hG _ _ _ _ _ g1 (hf.mono (fun k hk => Or.inl (g2 k hk))) (fun k hk => ?_), fun k hk => by simp [hk], fun k hk => ?_, fun k hk => ?_, Nat.le_trans g5 hf.size⟩
  · simp only [List.mem_append, List.mem_filter] at hk
    rcases hk with hk | hk
    · exact (hm k hk).imp (g2 k) id
    · exact Or.inl hk.1
  · obtain ⟨h1, h2, h3, h4⟩ := g3 k hk
    refine ⟨by simp [h1, h3], fun h => (hm k h).elim h2 (fun h => by omega), Nat.lt_of_lt_of_le h3 hf.size, (hf.block k h3 h2).trans h4⟩
  · simp only [List.mem_append, List.mem_filter, decide_eq_true_eq] at hk
    rcases hk with hk | hk
    · refine ⟨(hm k hk).elim (fun h => (g4 k (g2 k h)).1) (fun h => by omega), Or.inl hk⟩
    · exact ⟨(g4 k hk.1).1, Or.inr (Nat.lt_of_lt_of_le hk.2 hf.size)⟩
/-- A round of the loop inside: the loop outside is told, and keeps what is its own. -/
theorem Inn.turn {G2 : List α → List Nat → World → Prop} {n₀ : Nat} {K : List Nat} {w1 : World} {pre2 : List α} {M M' : List Nat} {W W2 : World} (g2 : ∀ k ∈ M, k ∈ M') (g3 : ∀ k ∈ K, k ∈ M' ∧ k ∉ M ∧ k < W.heap.size ∧ W.heap[k]? = w1.heap[k]?) (g4 : ∀ k ∈ M', n₀ ≤ k ∧ (k ∈ M ∨ k < W.heap.size)) (g5 : n₀ ≤ W.heap.size) (h : G2 pre2 M' W2) (hk : Kept n₀ M' W W2) : Inn G2 n₀ K w1 pre2 M W2 ∧ Kept n₀ M W W2 := by
  refine ⟨⟨M', h, g2, fun k hk2 => ?_, fun k hk2 => ⟨(g4 k hk2).1, (g4 k hk2).2.imp id (fun h => Nat.lt_of_lt_of_le h hk.1.size)⟩, Nat.le_trans g5 hk.1.size⟩, hk.1, fun k hk2 => hk.2 k (g2 k hk2)⟩
  obtain ⟨h1, h2, h3, h4⟩ := g3 k hk2
  exact ⟨h1, h2, Nat.lt_of_lt_of_le h3 hk.1.size, (hk.2 k h1).trans h4⟩
end
/-- A call of yield, wherever it stands, where nothing is asked of the depth. -/
theorem yield_wide {F : Fence} {m : Nat} {P : Program} {l : Nat} {args : Array Value} {W : World} {R : Ending → World → Prop} (hF : F = Fence.wide) (h : YieldAt F m P l args W R) (l2 m2 : Nat) : YieldAt (F.inRound l2) m2 P l args W R := by
  subst hF
  obtain ⟨fn, tmps, assign, body, h1, h2, h3⟩ := h
  exact ⟨fn, tmps, assign, body, h1, h2, fun c cs _ => h3 c cs (fun d hd => by simp [Fence.wide] at hd)⟩
end Go.Proofs.YtmndlhbgacgnlaaGreat

namespace Go.Proofs.YtmndlhbgacgnlaaGreat
open Go Go.RowKit

theorem RsIs.get2 {w : World} {A : Option Addr} {n c : Nat} {l : List Ru} {bs : List Nat} (h : RsIs w (.slice A n c) l bs) (k : Nat) (hk : k < l.length) : ∃ g o r v1 v2 u b, RuleAt w A l k g o r v1 v2 u b ∧ ∀ x ∈ b, x ∈ bs := by
  obtain ⟨A', c', e, h1, h2, h4⟩ := h
  cases e
  rcases h4 with ⟨rfl, -⟩ | ⟨g, o, bs', rfl, h5, rfl, h6⟩
  · simp at hk
  · have hg : l[k]? = some l[k] := List.getElem?_eq_getElem hk
    obtain ⟨b1, ⟨v1, v2, u, h7, h8⟩, h9⟩ := h6.get l 0 bs' k _ hg
    rw [Nat.zero_add] at h7
    exact ⟨g, o, l[k], v1, v2, u, b1, ⟨rfl, h5, hg, List.getElem_mem hk, h7, h8⟩, fun x hx => List.mem_cons_of_mem _ (h9 x hx)⟩

end Go.Proofs.YtmndlhbgacgnlaaGreat

namespace Go.Proofs.YtmndlhbgacgnlaaGreat
open Go Go.RowKit Go.Shelf
attribute [local go_sem] Oper.semAt_some

/-- What the loop over the rules keeps. -/
structure Ob (J : List Cn → List Nat → World → Prop) (wo : World) (lp By : Nat) (Ds : List Nat) (pre : List Cn) (M : List Nat) (W : World) : Prop where
  j : J pre M W
  lt : ∀ k ∈ M, k < W.heap.size
  n0 : ∀ k ∈ M, wo.heap.size ≤ k
  low : Below wo.heap.size wo W
  byM : By ∈ M
  box : Boxed W By 112 (.func (.yield lp) #[] #[])
  marks : Marks wo.heap.size Ds M W
theorem Ob.grow {J : List Cn → List Nat → World → Prop} {wo : World} {lp By : Nat} {Ds : List Nat} {pre : List Cn} {M : List Nat} {W W2 : World} (h : Ob J wo lp By Ds pre M W) (hJ : Minds J) (hb : Below W.heap.size W W2) (ks : List Nat) (hk : ∀ k ∈ ks, W.heap.size ≤ k ∧ k < W2.heap.size) : Ob J wo lp By Ds pre (ks ++ M) W2 := by
  refine ⟨hJ _ _ _ _ _ h.j (Fr.of_below hb) (fun k hk2 => ?_), fun k hk2 => ?_, fun k hk2 => ?_, h.low.trans (hb.mono h.low.size), by simp [h.byM], box_on h.box (hb.block _ h.box.lt), h.marks.1, fun D hD => ?_⟩
  · rcases List.mem_append.1 hk2 with h2 | h2
    · exact Or.inr (hk k h2).1
    · exact Or.inl h2
  · rcases List.mem_append.1 hk2 with h2 | h2
    · exact (hk k h2).2
    · exact Nat.lt_of_lt_of_le (h.lt k h2) hb.size
  · rcases List.mem_append.1 hk2 with h2 | h2
    · exact Nat.le_trans h.low.size (hk k h2).1
    · exact h.n0 k h2
  · obtain ⟨h1, h2, h3⟩ := h.marks.2 D hD
    exact ⟨by simp [h1], (hb.block D (h.lt D h1)).trans h2, h3⟩
theorem Ob.kept {J J2 : List Cn → List Nat → World → Prop} {wo : World} {lp By : Nat} {Ds : List Nat} {pre pre2 : List Cn} {M : List Nat} {W W2 : World} (h : Ob J wo lp By Ds pre M W) (hk : Kept wo.heap.size M W W2) (hj : J2 pre2 M W2) : Ob J2 wo lp By Ds pre2 M W2 := by
  refine ⟨hj, fun k hk2 => Nat.lt_of_lt_of_le (h.lt k hk2) hk.1.size, h.n0, h.low.trans hk.1, h.byM, box_on h.box (hk.2 _ h.byM), h.marks.1, fun D hD => ?_⟩
  obtain ⟨h1, h2, h3⟩ := h.marks.2 D hD
  exact ⟨h1, (hk.2 D h1).trans h2, h3⟩

/-- Behind a range inside: what the loop over the rules keeps. -/
theorem Ob.behind {J J2 : List Cn → List Nat → World → Prop} {wo : World} {lp By D : Nat} {Ds : List Nat} {pre pre2 : List Cn} {M5 M2 M' : List Nat} {W5 X : World} (h5 : Ob J wo lp By Ds pre M5 W5) (g1 : J2 pre2 M' X) (g2 : ∀ k ∈ M2, k ∈ M') (g3 : ∀ k ∈ By :: Ds, k ∈ M' ∧ k ∉ M2 ∧ k < X.heap.size ∧ X.heap[k]? = W5.heap[k]?) (g4 : ∀ k ∈ M', wo.heap.size ≤ k ∧ (k ∈ M2 ∨ k < X.heap.size)) (hM2 : ∀ k ∈ M2, wo.heap.size ≤ k ∧ k < X.heap.size) (hD : D ∈ M2) (hK : X.heap[D]? = some (.deferred (some []))) (hlow : Below wo.heap.size W5 X) : Ob J2 wo lp By (D :: Ds) pre2 M' X := by
  obtain ⟨y1, y2, y3, y4⟩ := g3 By (by simp)
  refine ⟨g1, fun k hk => (g4 k hk).2.elim (fun h => (hM2 k h).2) id, fun k hk => (g4 k hk).1, h5.low.trans hlow, y1, box_on h5.box y4, List.nodup_cons.2 ⟨fun h => (g3 D (by simp [h])).2.1 hD, h5.marks.1⟩, fun E hE => ?_⟩
  rcases List.mem_cons.1 hE with rfl | hE
  · exact ⟨g2 _ hD, hK, (hM2 _ hD).1⟩
  · obtain ⟨e1, e2, e3, e4⟩ := g3 E (by simp [hE])
    obtain ⟨-, d2, d3⟩ := h5.marks.2 E hE
    exact ⟨e1, e4.trans d2, d3⟩

theorem kept_after {n₀ : Nat} {M : List Nat} {X Y Z : World} (h : Below X.heap.size X Y) (hl : ∀ k ∈ M, k < X.heap.size) (hn : n₀ ≤ X.heap.size) (hk : Kept n₀ M Y Z) : Kept n₀ M X Z :=
  ⟨(h.mono hn).trans hk.1, fun k hk2 => (hk.2 k hk2).trans (h.block k (hl k hk2))⟩
theorem SsIs.strs_len {w : World} {v : Value} {xs : List ByteArray} {bs : List Nat} (h : SsIs w v xs bs) : (xs.length : Int) ≤ 9223372036854775807 := by
  obtain ⟨A, c, rfl⟩ := h.slice
  have := h.strs
  omega
set_option maxRecDepth 100000 in
set_option maxHeartbeats 2000000 in
theorem cons_stops (F : Fence) (n : Nat) (hFw : F = Fence.wide) (hro : F.round = none) (hF : ∀ k, F.fn k) (hn : 9 ≤ n) (wo : World) (l : List Ru) (A : Option Addr) (m c : Nat) (bs : List Nat) (hv : RsIs wo (.slice A m c) l bs) (hsz : ∀ r ∈ l, exSize r.body ≤ 1099511627776) (hfr : ∀ z ∈ bs, ∀ o, wo.frozen? ⟨z, o, none⟩ = false) (Bp : Nat) (w : World) (hW : Below wo.heap.size wo w) (hBp : w.cell? ⟨Bp, 0, none⟩ = some (.slice A m c)) (hBl : Bp < w.heap.size) :
    SeqF F n Tryz.prog 72 #[.pointer (some ⟨Bp, 0, none⟩)] Cn.enc wo.heap.size (fun xs => ∀ q, xs.find? q = (consAll l).find? q) (fun pre => ∃ rest, ∀ q, (pre ++ rest).find? q = (consAll l).find? q) (cntR l) [] w := by
  intro lp J Jx W hwW hJ hJx hY h0
  have hn1 : 1 ≤ n := by omega
  have hBW : W.cell? ⟨Bp, 0, none⟩ = some (.slice A m c) := (hwW.cell (p := ⟨Bp, 0, none⟩) hBl).trans hBp
  have hbl : Bp < W.heap.size := Nat.lt_of_lt_of_le hBl hwW.size
  obtain ⟨hm, hmc, hc⟩ := hv.len
  have hm3 : (m : Int) ≤ 9223372036854775807 := by omega
  have HFW := Lib.hid hFw
  have HV := Lib.hid hv
  have HM := Lib.hid hm
  have HSZ := Lib.hid hsz
  have HFR := Lib.hid hfr
  have HY := Lib.hid hY
  have HJ := Lib.hid hJ
  have HJX := Lib.hid hJx
  have HJ0 := Lib.hid h0
  have HW := Lib.hid (hW.trans (hwW.mono hW.size))
  clear hFw hv hm hsz hfr hY hJ hJx h0 hW hwW hBp hBl
  refine callsIn_of_wp_marks Tryz.func72 rfl (hF _) ?_ hro
  simp only [Tryz.ntmps72, List.size_toArray, List.length_cons, List.length_nil, Nat.reduceAdd, Nat.reduceSub, Array.replicate_succ, Array.replicate_zero, List.push_toArray, List.append_toArray, List.nil_append, List.cons_append]
  gi_wp2
  refine wpIn_loop_ghost_k (fun k a wr => ∃ (Ds M : List Nat) (pre : List Cn) (i : Nat) (u3 u4 u5 u6 u7 u8 u12 u13 u14 u15 u16 u17 u18 u19 u20 u21 u22 u23 u24 u25 u26 u27 u28 u29 u30 u31 u32 u33 u34 u35 u36 u37 u38 u39 u40 u41 u42 u43 u44 u45 u46 u47 u48 u49 u50 u51 : Value), a = { tmps := #[.func (.yield lp) #[] #[], .pointer (some ⟨Bp, 0, none⟩), .pointer (some ⟨W.heap.size, 0, none⟩), u3, u4, u5, u6, u7, u8, .slice A m c, .int .i64 (m : Int), .int .i64 (i : Int), u12, u13, u14, u15, u16, u17, u18, u19, u20, u21, u22, u23, u24, u25, u26, u27, u28, u29, u30, u31, u32, u33, u34, u35, u36, u37, u38, u39, u40, u41, u42, u43, u44, u45, u46, u47, u48, u49, u50, u51], defers := Ds.map markOf } ∧ i ≤ m ∧ k + i = m ∧ Hid (Ob J wo lp W.heap.size Ds pre M wr) ∧ Hid (∀ q, pre.find? q = (consAll (l.take i)).find? q) ∧ Hid (pre.length ≤ cntR (l.take i))) m ?_ ?_
  · have hs : (W.alloc (.cells #[.func (.yield lp) #[] #[]] 112)).heap.size = W.heap.size + 1 := by simp
    have hlw : Below W.heap.size W (W.alloc (.cells #[.func (.yield lp) #[] #[]] 112)) := (Below.refl _ _).alloc (Nat.le_refl _) _
    have hws := HW.out.size
    refine ⟨[], [W.heap.size], [], 0, _, _, _, _, _, _, _, _, _, _, _, _, _, _, _, _, _, _, _, _, _, _, _, _, _, _, _, _, _, _, _, _, _, _, _, _, _, _, _, _, _, _, _, _, _, _, rfl, by omega, by omega, Lib.hid ⟨HJ.out _ _ _ _ _ HJ0.out (Fr.of_below hlw) (fun k hk => by simp at hk; omega), fun k hk => by simp at hk; omega, fun k hk => by simp at hk; omega, HW.out.trans (hlw.mono hws), by simp, Boxed.new W _ _, by simp, fun D hD => by cases hD⟩, Lib.hid (fun q => by simp [consAll]), Lib.hid (by simp)⟩
  · rintro gk _ wr ⟨Ds, M, pre, i, u3, u4, u5, u6, u7, u8, u12, u13, u14, u15, u16, u17, u18, u19, u20, u21, u22, u23, u24, u25, u26, u27, u28, u29, u30, u31, u32, u33, u34, u35, u36, u37, u38, u39, u40, u41, u42, u43, u44, u45, u46, u47, u48, u49, u50, u51, rfl, hi, hki, HOB, HFI, HLE⟩ JJ KK hJJ hKK
    by_cases hlt : i < m
    · obtain ⟨g, o, r, v1, v2, u, b1', hra, hsub⟩ := HV.out.get2 i (by rw [← HM.out]; exact hlt)
      obtain ⟨rfl, hbl', hget, hmem, hcs, his⟩ := hra
      have hcw := hcs.of (w' := wr) (fun mm _ _ => HOB.out.low.cell (p := ⟨g, mm, none⟩) hbl')
      obtain ⟨c0, c1, c2, c3, c4, c5, c6⟩ := hcw
      clear hcs
      obtain ⟨z1, z2, z3, hz, -, -, hp1, hp2, hp3⟩ := his.parts
      have hsl := hp1.strs_len
      obtain ⟨A1, k1, rfl⟩ := hp1.slice
      obtain ⟨A2, k2, rfl⟩ := hp2.slice
      obtain ⟨A3, q3, k3, rfl⟩ := his_slice0 hp3
      have HHP := Lib.hid hp3
      have HGET := Lib.hid hget
      have HBD := Lib.hid (HSZ.out r hmem)
      have HFB := Lib.hid (show ∀ z ∈ z3, ∀ o, wo.frozen? ⟨z, o, none⟩ = false from fun z hzz => HFR.out z (hsub z (by rw [hz]; simp [hzz])))
      obtain ⟨q1, hq1⟩ : ∃ q1, q1 = r.vars.length := ⟨_, rfl⟩
      rw [← hq1] at c2 hsl
      have HQ1 := Lib.hid hq1
      have hq1m : (q1 : Int) ≤ 9223372036854775807 := hsl
      clear hp1 hp2 hp3 his hget hmem hz hq1 hsl hsub
      have HOW := Lib.hid (show Ob J wo lp W.heap.size Ds pre (wr.heap.size :: M) (wr.alloc (.cells #[.string r.name, .string r.con, .slice A1 q1 k1, .slice A2 r.params.length k2, .int .i64 r.body.kind, .string r.body.name, .slice A3 q3 k3] 34)) from HOB.out.grow HJ.out ((Below.refl _ _).alloc (Nat.le_refl _) _) [wr.heap.size] (fun k hk => by simp at hk; subst hk; simp))
      have HLT := Lib.hid (show cntR (l.take i) + (exSize r.body + 1) ≤ cntR l by
        have := cntR_take l (i + 1)
        rw [take_ru l i r HGET.out, cntR_snoc] at this
        exact this)
      by_cases hcon : r.con.size = 0
      · have hbe := empty_yes hcon
        have HFH := Lib.hid (nohead_find (r := r) HFI.out hcon)
        clear hcon
        have HPL := Lib.hid (show pre.length ≤ cntR (l.take i) + 1 by have := HLE.out; omega)
        gi_wp2_with (gi_at_call 73; refine (nodesOnce_in F (n - 1) hF hro (by omega) _ _ _ _ _ _).mono ?_; rintro e w' ⟨rfl, rfl⟩)
        obtain ⟨W3, hW3⟩ : ∃ W3, W3 = wr.alloc (.cells #[.string r.name, .string r.con, .slice A1 q1 k1, .slice A2 r.params.length k2, .int .i64 r.body.kind, .string r.body.name, .slice A3 q3 k3] 34) := ⟨_, rfl⟩
        rw [← hW3] at HOW ⊢
        have HO3 := HOW
        have hsz3 : W3.heap.size = wr.heap.size + 1 := by rw [hW3]; simp
        clear hW3
        obtain ⟨W5, hW5⟩ : ∃ W5, W5 = onceW W3 r.body.kind r.body.name (.slice A3 q3 k3) := ⟨_, rfl⟩
        rw [← hW5]
        obtain ⟨b3, hb3⟩ : ∃ b3, b3 = wr.heap.size + 1 := ⟨_, rfl⟩
        rw [← hb3]
        have HB3 := Lib.hid (show b3 = W3.heap.size from (by rw [hb3, hsz3]))
        have hs5 : W5.heap.size = b3 + 5 := by rw [hW5, onceW_size, HB3.out]
        have hlow5 : Below W3.heap.size W3 W5 := by rw [hW5]; exact onceW_below (Below.refl _ _) (Nat.le_refl _) _ _ _
        have HO5 := Lib.hid (HO3.out.grow HJ.out hlow5 [b3 + 4, b3 + 2, b3 + 1] (fun k hk => by have := HB3.out; simp at hk; omega))
        have HW5 := Lib.hid hW5
        have HS5 := Lib.hid hs5
        clear hW5 hs5 hb3 hlow5
        have HBYL := Lib.hid HO3.out.box.lt
        refine wpIn_rangeFunc_nest hro hn1 (gf := 125) (lb := onceLb b3) rfl (hF _) (enters_of Tryz.func125 (by kernel_rfl) rfl)
          (once_stops F (n - 1) HFW.out hro hF (by omega) wo r.body (.slice A3 q3 k3) z3 HHP.out HBD.out HFB.out b3 W3 W5 HB3.out HW5.out HO3.out.low) (Below.refl _ _) (Nat.le_trans HO3.out.low.size (by have := HS5.out; have := HB3.out; omega)) (fun _ => rfl)
          (Inn (fun (ys : List (It wo)) M W => ys.length ≤ exSize r.body ∧ J (pre ++ consO ys) M W) wo.heap.size (W.heap.size :: Ds) W5) (fun cc ys M W6 => cc = .ret ∧ Inn (fun (ys : List (It wo)) M W => Jx (pre ++ consO ys) M W) wo.heap.size (W.heap.size :: Ds) W5 ys M W6)
          (Inn.minds (fun ys M M2 A B h hf hm => ⟨h.1, HJ.out _ _ _ _ _ h.2 hf hm⟩)) (fun cc pre M M2 A B h hf hm => ⟨h.1, Inn.minds (fun ys M M2 A B h hf hm => HJX.out _ _ _ _ _ h hf hm) pre M M2 A B h.2 hf hm⟩)
          [b3 + 4, b3 + 2, b3 + 1] ?start (fun k hk => hk) ?inm
          (fun b _ x a2 X => a2 = { tmps := #[.func (.yield lp) #[] #[], .pointer (some ⟨Bp, 0, none⟩), .pointer (some ⟨W.heap.size, 0, none⟩), u3, .pointer (some ⟨wr.heap.size, 0, none⟩), .pointer (some ⟨b, 0, none⟩), u6, u7, u8, .slice (some ⟨g, o, none⟩) m c, .int .i64 (m : Int), .int .i64 (i : Int), .bool true, .pointer (some ⟨g, o + i * 7, none⟩), .agg #[.string r.name, .string r.con, .slice A1 q1 k1, .slice A2 r.params.length k2, .int .i64 r.body.kind, .string r.body.name, .slice A3 q3 k3], .pointer (some ⟨wr.heap.size, 1, none⟩), .string r.con, .bool false, .bool false, undef, undef, undef, undef, undef, undef, undef, undef, .bool false, .pointer (some ⟨wr.heap.size, 4, none⟩), .agg #[.int .i64 r.body.kind, .string r.body.name, .slice A3 q3 k3], onceFun b3, x.val, u32, u33, u34, u35, u36, u37, u38, u39, u40, u41, u42, u43, u44, u45, u46, u47, u48, u49, u50, u51], defers := [] } ∧ X.heap[b]? = some (.cells #[.int .i64 x.ex.kind, .string x.ex.name, x.1.2.2.1] 32 (0, 0)))
          (fun b ys x a2 X l o h hl => ⟨h.1, (World.putObj_heap_other (by omega)).trans h.2⟩) ?assign ?body ?done ?stop
        case start =>
          have hj5 : J (pre ++ consO (wo := wo) []) ([b3 + 4, b3 + 2, b3 + 1] ++ wr.heap.size :: M) W5 := by rw [show consO (wo := wo) [] = [] from rfl, List.append_nil]; exact HO5.out.j
          refine ⟨_, ⟨by simp, hj5⟩, fun k hk => List.mem_append_left _ hk, fun k hk => ?_, fun k hk => ⟨HO5.out.n0 k hk, Or.inr (HO5.out.lt k hk)⟩, HO5.out.low.size⟩
          have hk3 : k ∈ wr.heap.size :: M ∧ k < W3.heap.size := by
            rcases List.mem_cons.1 hk with rfl | hk
            · exact ⟨HO3.out.byM, HBYL.out⟩
            · exact ⟨(HO3.out.marks.2 k hk).1, HO3.out.lt k (HO3.out.marks.2 k hk).1⟩
          exact ⟨List.mem_append_right _ hk3.1, by have := HB3.out; simp; omega, by have := HS5.out; have := HB3.out; omega, rfl⟩
        case inm =>
          intro k hk
          have h1 := HO3.out.low.size
          have h2 := HS5.out
          have h3 := HB3.out
          simp at hk
          omega
        case assign =>
          intro l2 ys x X KX hK
          obtain ⟨A4, c4', hu2, -, -, -⟩ := x.slice
          have hv : x.val = .agg #[.int .i64 x.ex.kind, .string x.ex.name, .slice A4 x.ex.args.length c4'] := by rw [← hu2]; rfl
          have HU2 := Lib.hid hu2
          have HV2 := Lib.hid hv
          have HKX := Lib.hid hK
          dsimp only
          rw [hv]
          clear hu2 hv hK
          gi_wp2
          refine HKX.out _ _ (Fr.alloc _ _) ⟨?_, ?_⟩
          · rw [HV2.out]
          · rw [HU2.out]; exact World.alloc_heap_new _ _
        case body =>
          rintro l2 b2 ys x _ M2 X ⟨M', g1, g2, g3, g4, g5⟩ ⟨rfl, hnx⟩ hM2 hb2 hlow2 hlen
          have hn3 : 1 ≤ n - 1 - 1 := by omega
          obtain ⟨A4, c4', hu2, -, -, -⟩ := x.slice
          obtain ⟨q4, hq4⟩ : ∃ q4, q4 = x.ex.args.length := ⟨_, rfl⟩
          rw [← hq4] at hu2
          rw [hu2] at hnx
          have hn0 : X.cell? ⟨b2, 0, none⟩ = some (.int .i64 x.ex.kind) := by simp [World.cell?, hnx]
          have hn1' : X.cell? ⟨b2, 1, none⟩ = some (.string x.ex.name) := by simp [World.cell?, hnx]
          have hn2 : X.cell? ⟨b2, 2, none⟩ = some (.slice A4 q4 c4') := by simp [World.cell?, hnx]
          have HBB := Lib.hid (box_on HO5.out.box (g3 W.heap.size (by simp)).2.2.2)
          have HBX := Lib.hid (fun (w2 : World) (hb2 : Below X.heap.size X w2) => And.intro (box_on HBB.out (hb2.block _ HBB.out.lt)).cell (box_on HBB.out (hb2.block _ HBB.out.lt)).lt)
          have HG1 := Lib.hid g1
          have HG2 := Lib.hid g2
          have HG3 := Lib.hid g3
          have HG4 := Lib.hid g4
          have HG5 := Lib.hid g5
          have HLEN := Lib.hid hlen
          have HMX := Lib.hid (fun k (hk : k ∈ M') => (g4 k hk).2.elim (fun h => Nat.lt_of_lt_of_le (hM2 k h).2 hb2) id)
          have HQ4 := Lib.hid hq4
          clear g1 g2 g3 g4 g5 hM2 hb2 hlow2 hlen hnx hu2 hq4
          by_cases hk : x.ex.kind = 2
          · have HC := Lib.hid (consO_yes ys x hk)
            have aC := asCC
            have HT := Lib.hid (show formTy x.ex.kind = 110 by rw [hk]; rfl)
            clear hk
            gi_wp2_with (gi_at_call 69; refine (at_wide HFW.out (own_form _ _ _ _ _ _) l2).mono ?_; rintro r w2 ⟨rfl, hb2⟩; rw [HT.out]; obtain ⟨hc2, hl2⟩ := HBX.out w2 hb2; have HB2 := Lib.hid hb2; clear hb2)
            obtain ⟨Wz, hWz⟩ : ∃ Wz, Wz = w2.alloc (.cells #[.string x.ex.name, .slice A4 q4 c4'] 110) := ⟨_, rfl⟩
            rw [← hWz]
            have hlz : Below X.heap.size X Wz := by rw [hWz]; exact HB2.out.trans (((Below.refl _ w2).alloc (Nat.le_refl _) _).mono HB2.out.size)
            have HLZ := Lib.hid hlz
            obtain ⟨fn, tmps, assign, body, hy, hR⟩ := yield_wide HFW.out (HY.out (pre ++ consO ys) (x.ex.name, x.ex.args.length) M' Wz (HJ.out _ _ _ _ _ HG1.out.2 (Fr.of_below hlz) (fun k hk => Or.inl hk)) (fun k hk => Nat.lt_of_lt_of_le (HMX.out k hk) hlz.size) (by have h1 := HPL.out; have h2 := HLEN.out; have h3 := HLT.out; have h4 := consO_len ys; simp at h1 ⊢; omega)) l2 (n - 1 - 1 - 1)
            have hy2 : (Instr.yield lp #[.string x.ex.name, .int .i64 (q4 : Int)]).run Tryz.prog Wz = .ok (.round lp fn tmps assign body) Wz := by rw [HQ4.out]; exact hy
            rw [hy2]
            refine ⟨fun _ => hn3, hR.mono ?_⟩
            clear hy hy2 hR hWz hlz
            rintro e W6 (⟨rfl, hj6, hk6⟩ | ⟨rfl, hj6, hk6⟩)
            · have HT6 := Lib.hid (Inn.turn (G2 := fun (ys : List (It wo)) M W => ys.length ≤ exSize r.body ∧ J (pre ++ consO ys) M W) (pre2 := ys ++ [x]) HG2.out HG3.out HG4.out HG5.out ⟨(by have := HLEN.out; simp; omega), (by rw [HC.out, ← List.append_assoc]; exact hj6)⟩ (kept_after HLZ.out HMX.out HG5.out hk6))
              clear hj6 hk6
              gi_wp2
              exact HT6.out
            · have HT6 := Lib.hid (Inn.turn (G2 := fun (ys : List (It wo)) M W => Jx (pre ++ consO ys) M W) (pre2 := ys ++ [x]) HG2.out HG3.out HG4.out HG5.out (by rw [HC.out, ← List.append_assoc]; exact hj6) (kept_after HLZ.out HMX.out HG5.out hk6))
              clear hj6 hk6
              gi_wp2
              exact ⟨⟨rfl, HT6.out.1⟩, HT6.out.2⟩
          · have HC := Lib.hid (consO_no ys x hk)
            have aC := asC_no x.ex.kind hk
            clear hk
            gi_wp2_with (gi_at_call 69; refine (at_wide HFW.out (own_form _ _ _ _ _ _) l2).mono ?_; rintro r w2 ⟨rfl, hb2⟩; obtain ⟨hc2, hl2⟩ := HBX.out w2 hb2; have HB2 := Lib.hid hb2; clear hb2)
            have hlz : Below X.heap.size X (w2.alloc (.cells #[.string ⟨#[]⟩, .slice none 0 0] 110)) := HB2.out.trans (((Below.refl _ w2).alloc (Nat.le_refl _) _).mono HB2.out.size)
            exact Inn.turn (G2 := fun (ys : List (It wo)) M W => ys.length ≤ exSize r.body ∧ J (pre ++ consO ys) M W) (pre2 := ys ++ [x]) HG2.out HG3.out HG4.out HG5.out ⟨(by have := HLEN.out; simp; omega), (by rw [HC.out]; exact HJ.out _ _ _ _ _ HG1.out.2 (Fr.of_below hlz) (fun k hk => Or.inl hk))⟩ ⟨hlz.mono HG5.out, fun k hk => hlz.block k (HMX.out k hk)⟩
        case done =>
          rintro D ys M2 X hD hDM hM2 hS ⟨M', g1, g2, g3, g4, g5⟩ hlow2 hK
          have HLY := Lib.hid g1.1
          have HO6 := Lib.hid (HO5.out.behind g1.2 g2 g3 g4 hM2 hDM hK hlow2)
          have HFI6 := Lib.hid (step_find HFH.out hS)
          clear g1 g2 g3 g4 g5 hM2 hDM hK hlow2 hS hD
          gi_wp2
          refine Handed.intro (gk - 1) (by omega) (hJJ _ _ _ ⟨D :: Ds, M', pre ++ consO ys, i + 1, _, _, _, _, _, _, _, _, _, _, _, _, _, _, _, _, _, _, _, _, _, _, _, _, _, _, _, _, _, _, _, _, _, _, _, _, _, _, _, _, _, _, _, _, _, _, rfl, by omega, by omega, HO6, Lib.hid (fun q => ?_), Lib.hid ?_⟩)
          · rw [take_ru l i r HGET.out, consAll_snoc]
            exact HFI6.out q
          · rw [take_ru l i r HGET.out, cntR_snoc]
            have h1 := HPL.out
            have h2 := HLY.out
            have h3 := consO_len ys
            simp at h1 ⊢
            omega
        case stop =>
          rintro D cc ys M2 X hD hDM hM2 ⟨rest, hS⟩ ⟨rfl, M', g1, g2, g3, g4, g5⟩ hlow2 hK
          have HO6 := Lib.hid (HO5.out.behind g1 g2 g3 g4 hM2 hDM hK hlow2)
          have HSF := Lib.hid (stop_find HGET.out HFH.out hS)
          clear g1 g2 g3 g4 g5 hM2 hDM hK hlow2 hS hD
          gi_wp2
          exact leave_marks rfl (D :: Ds) X HO6.out.marks.1 (fun E hE => (HO6.out.marks.2 E hE).2.1) (fun v Y hf => ⟨⟨_, rfl⟩, .inr ⟨_, M', ⟨_, HSF.out⟩, HJX.out _ _ _ _ _ HO6.out.j (hf.mono (fun k hk => Or.inl (HO6.out.marks.2 k hk).1)) (fun k hk => Or.inl hk)⟩⟩)
      · have hbe := empty_not hcon
        have HFH := Lib.hid (head_find (r := r) HFI.out hcon)
        have HSTOP := Lib.hid (halt_find HGET.out HFI.out hcon)
        clear hcon
        have HPL := Lib.hid (show (pre ++ [(r.con, r.vars.length)]).length ≤ cntR (l.take i) + 1 by have := HLE.out; simp; omega)
        have hbox := HOW.out.box.cell
        gi_wp2_with fail
        obtain ⟨Wy, hWy⟩ : ∃ Wy, Wy = wr.alloc (.cells #[.string r.name, .string r.con, .slice A1 q1 k1, .slice A2 r.params.length k2, .int .i64 r.body.kind, .string r.body.name, .slice A3 q3 k3] 34) := ⟨_, rfl⟩
        rw [← hWy] at HOW hbox ⊢
        obtain ⟨fn, tmps, assign, body, hy, hR⟩ := HY.out pre (r.con, r.vars.length) (wr.heap.size :: M) Wy HOW.out.j HOW.out.lt (by have := HLE.out; have := HLT.out; omega)
        have hy2 : (Instr.yield lp #[.string r.con, .int .i64 (q1 : Int)]).run Tryz.prog Wy = .ok (.round lp fn tmps assign body) Wy := by rw [HQ1.out]; exact hy
        rw [hy2]
        have hnw : Wy.heap[wr.heap.size]? = some (.cells #[.string r.name, .string r.con, .slice A1 q1 k1, .slice A2 r.params.length k2, .int .i64 r.body.kind, .string r.body.name, .slice A3 q3 k3] 34 (0, 0)) := by rw [hWy]; exact World.alloc_heap_new wr _
        refine ⟨fun _ => hn1, hR.mono ?_⟩
        clear hy hy2 hR hWy hbox
        rintro e W3 (⟨rfl, hj3, hk3⟩ | ⟨rfl, hjx3, hk3⟩)
        · have HO3 := Lib.hid (HOW.out.kept hk3 hj3)
          have hn3 := (hk3.2 wr.heap.size (by simp)).trans hnw
          have hb4 : W3.cell? ⟨wr.heap.size, 4, none⟩ = some (.int .i64 r.body.kind) := by simp [World.cell?, hn3]
          have hb5 : W3.cell? ⟨wr.heap.size, 5, none⟩ = some (.string r.body.name) := by simp [World.cell?, hn3]
          have hb6 : W3.cell? ⟨wr.heap.size, 6, none⟩ = some (.slice A3 q3 k3) := by simp [World.cell?, hn3]
          clear hj3 hk3 hnw hn3
          gi_wp2_with (gi_at_call 73; refine (nodesOnce_in F (n - 1) hF hro (by omega) _ _ _ _ _ _).mono ?_; rintro e w' ⟨rfl, rfl⟩)
          clear hb4 hb5 hb6
          obtain ⟨W5, hW5⟩ : ∃ W5, W5 = onceW W3 r.body.kind r.body.name (.slice A3 q3 k3) := ⟨_, rfl⟩
          rw [← hW5]
          obtain ⟨b3, hb3⟩ : ∃ b3, b3 = W3.heap.size := ⟨_, rfl⟩
          rw [← hb3]
          have HB3 := Lib.hid (show b3 = W3.heap.size from hb3)
          have hs5 : W5.heap.size = b3 + 5 := by rw [hW5, onceW_size, HB3.out]
          have hlow5 : Below W3.heap.size W3 W5 := by rw [hW5]; exact onceW_below (Below.refl _ _) (Nat.le_refl _) _ _ _
          have HO5 := Lib.hid (HO3.out.grow HJ.out hlow5 [b3 + 4, b3 + 2, b3 + 1] (fun k hk => by have := HB3.out; simp at hk; omega))
          have HW5 := Lib.hid hW5
          have HS5 := Lib.hid hs5
          clear hW5 hs5 hb3 hlow5
          have HBYL := Lib.hid HO3.out.box.lt
          refine wpIn_rangeFunc_nest hro hn1 (gf := 125) (lb := onceLb b3) rfl (hF _) (enters_of Tryz.func125 (by kernel_rfl) rfl)
            (once_stops F (n - 1) HFW.out hro hF (by omega) wo r.body (.slice A3 q3 k3) z3 HHP.out HBD.out HFB.out b3 W3 W5 HB3.out HW5.out HO3.out.low) (Below.refl _ _) (Nat.le_trans HO3.out.low.size (by have := HS5.out; have := HB3.out; omega)) (fun _ => rfl)
            (Inn (fun (ys : List (It wo)) M W => ys.length ≤ exSize r.body ∧ J ((pre ++ [(r.con, r.vars.length)]) ++ consO ys) M W) wo.heap.size (W.heap.size :: Ds) W5) (fun cc ys M W6 => cc = .ret ∧ Inn (fun (ys : List (It wo)) M W => Jx ((pre ++ [(r.con, r.vars.length)]) ++ consO ys) M W) wo.heap.size (W.heap.size :: Ds) W5 ys M W6)
            (Inn.minds (fun ys M M2 A B h hf hm => ⟨h.1, HJ.out _ _ _ _ _ h.2 hf hm⟩)) (fun cc pre M M2 A B h hf hm => ⟨h.1, Inn.minds (fun ys M M2 A B h hf hm => HJX.out _ _ _ _ _ h hf hm) pre M M2 A B h.2 hf hm⟩)
            [b3 + 4, b3 + 2, b3 + 1] ?start (fun k hk => hk) ?inm
            (fun b _ x a2 X => a2 = { tmps := #[.func (.yield lp) #[] #[], .pointer (some ⟨Bp, 0, none⟩), .pointer (some ⟨W.heap.size, 0, none⟩), u3, .pointer (some ⟨wr.heap.size, 0, none⟩), .pointer (some ⟨b, 0, none⟩), u6, u7, u8, .slice (some ⟨g, o, none⟩) m c, .int .i64 (m : Int), .int .i64 (i : Int), .bool true, .pointer (some ⟨g, o + i * 7, none⟩), .agg #[.string r.name, .string r.con, .slice A1 q1 k1, .slice A2 r.params.length k2, .int .i64 r.body.kind, .string r.body.name, .slice A3 q3 k3], .pointer (some ⟨wr.heap.size, 1, none⟩), .string r.con, .bool true, .bool true, .func (.yield lp) #[] #[], .pointer (some ⟨wr.heap.size, 1, none⟩), .string r.con, .pointer (some ⟨wr.heap.size, 2, none⟩), .slice A1 q1 k1, .int .i64 (q1 : Int), .bool true, .bool false, .bool false, .pointer (some ⟨wr.heap.size, 4, none⟩), .agg #[.int .i64 r.body.kind, .string r.body.name, .slice A3 q3 k3], onceFun b3, x.val, u32, u33, u34, u35, u36, u37, u38, u39, u40, u41, u42, u43, u44, u45, u46, u47, u48, u49, u50, u51], defers := [] } ∧ X.heap[b]? = some (.cells #[.int .i64 x.ex.kind, .string x.ex.name, x.1.2.2.1] 32 (0, 0)))
            (fun b ys x a2 X l o h hl => ⟨h.1, (World.putObj_heap_other (by omega)).trans h.2⟩) ?assign ?body ?done ?stop
          case start =>
            have hj5 : J ((pre ++ [(r.con, r.vars.length)]) ++ consO (wo := wo) []) ([b3 + 4, b3 + 2, b3 + 1] ++ wr.heap.size :: M) W5 := by rw [show consO (wo := wo) [] = [] from rfl, List.append_nil]; exact HO5.out.j
            refine ⟨_, ⟨by simp, hj5⟩, fun k hk => List.mem_append_left _ hk, fun k hk => ?_, fun k hk => ⟨HO5.out.n0 k hk, Or.inr (HO5.out.lt k hk)⟩, HO5.out.low.size⟩
            have hk3 : k ∈ wr.heap.size :: M ∧ k < W3.heap.size := by
              rcases List.mem_cons.1 hk with rfl | hk
              · exact ⟨HO3.out.byM, HBYL.out⟩
              · exact ⟨(HO3.out.marks.2 k hk).1, HO3.out.lt k (HO3.out.marks.2 k hk).1⟩
            exact ⟨List.mem_append_right _ hk3.1, by have := HB3.out; simp; omega, by have := HS5.out; have := HB3.out; omega, rfl⟩
          case inm =>
            intro k hk
            have h1 := HO3.out.low.size
            have h2 := HS5.out
            have h3 := HB3.out
            simp at hk
            omega
          case assign =>
            intro l2 ys x X KX hK
            obtain ⟨A4, c4', hu2, -, -, -⟩ := x.slice
            have hv : x.val = .agg #[.int .i64 x.ex.kind, .string x.ex.name, .slice A4 x.ex.args.length c4'] := by rw [← hu2]; rfl
            have HU2 := Lib.hid hu2
            have HV2 := Lib.hid hv
            have HKX := Lib.hid hK
            dsimp only
            rw [hv]
            clear hu2 hv hK
            gi_wp2
            refine HKX.out _ _ (Fr.alloc _ _) ⟨?_, ?_⟩
            · rw [HV2.out]
            · rw [HU2.out]; exact World.alloc_heap_new _ _
          case body =>
            rintro l2 b2 ys x _ M2 X ⟨M', g1, g2, g3, g4, g5⟩ ⟨rfl, hnx⟩ hM2 hb2 hlow2 hlen
            have hn3 : 1 ≤ n - 1 - 1 := by omega
            obtain ⟨A4, c4', hu2, -, -, -⟩ := x.slice
            obtain ⟨q4, hq4⟩ : ∃ q4, q4 = x.ex.args.length := ⟨_, rfl⟩
            rw [← hq4] at hu2
            rw [hu2] at hnx
            have hn0 : X.cell? ⟨b2, 0, none⟩ = some (.int .i64 x.ex.kind) := by simp [World.cell?, hnx]
            have hn1' : X.cell? ⟨b2, 1, none⟩ = some (.string x.ex.name) := by simp [World.cell?, hnx]
            have hn2 : X.cell? ⟨b2, 2, none⟩ = some (.slice A4 q4 c4') := by simp [World.cell?, hnx]
            have HBB := Lib.hid (box_on HO5.out.box (g3 W.heap.size (by simp)).2.2.2)
            have HBX := Lib.hid (fun (w2 : World) (hb2 : Below X.heap.size X w2) => And.intro (box_on HBB.out (hb2.block _ HBB.out.lt)).cell (box_on HBB.out (hb2.block _ HBB.out.lt)).lt)
            have HG1 := Lib.hid g1
            have HG2 := Lib.hid g2
            have HG3 := Lib.hid g3
            have HG4 := Lib.hid g4
            have HG5 := Lib.hid g5
            have HLEN := Lib.hid hlen
            have HMX := Lib.hid (fun k (hk : k ∈ M') => (g4 k hk).2.elim (fun h => Nat.lt_of_lt_of_le (hM2 k h).2 hb2) id)
            have HQ4 := Lib.hid hq4
            clear g1 g2 g3 g4 g5 hM2 hb2 hlow2 hlen hnx hu2 hq4
            by_cases hk : x.ex.kind = 2
            · have HC := Lib.hid (consO_yes ys x hk)
              have aC := asCC
              have HT := Lib.hid (show formTy x.ex.kind = 110 by rw [hk]; rfl)
              clear hk
              gi_wp2_with (gi_at_call 69; refine (at_wide HFW.out (own_form _ _ _ _ _ _) l2).mono ?_; rintro r w2 ⟨rfl, hb2⟩; rw [HT.out]; obtain ⟨hc2, hl2⟩ := HBX.out w2 hb2; have HB2 := Lib.hid hb2; clear hb2)
              obtain ⟨Wz, hWz⟩ : ∃ Wz, Wz = w2.alloc (.cells #[.string x.ex.name, .slice A4 q4 c4'] 110) := ⟨_, rfl⟩
              rw [← hWz]
              have hlz : Below X.heap.size X Wz := by rw [hWz]; exact HB2.out.trans (((Below.refl _ w2).alloc (Nat.le_refl _) _).mono HB2.out.size)
              have HLZ := Lib.hid hlz
              obtain ⟨fn, tmps, assign, body, hy, hR⟩ := yield_wide HFW.out (HY.out ((pre ++ [(r.con, r.vars.length)]) ++ consO ys) (x.ex.name, x.ex.args.length) M' Wz (HJ.out _ _ _ _ _ HG1.out.2 (Fr.of_below hlz) (fun k hk => Or.inl hk)) (fun k hk => Nat.lt_of_lt_of_le (HMX.out k hk) hlz.size) (by have h1 := HPL.out; have h2 := HLEN.out; have h3 := HLT.out; have h4 := consO_len ys; simp at h1 ⊢; omega)) l2 (n - 1 - 1 - 1)
              have hy2 : (Instr.yield lp #[.string x.ex.name, .int .i64 (q4 : Int)]).run Tryz.prog Wz = .ok (.round lp fn tmps assign body) Wz := by rw [HQ4.out]; exact hy
              rw [hy2]
              refine ⟨fun _ => hn3, hR.mono ?_⟩
              clear hy hy2 hR hWz hlz
              rintro e W6 (⟨rfl, hj6, hk6⟩ | ⟨rfl, hj6, hk6⟩)
              · have HT6 := Lib.hid (Inn.turn (G2 := fun (ys : List (It wo)) M W => ys.length ≤ exSize r.body ∧ J ((pre ++ [(r.con, r.vars.length)]) ++ consO ys) M W) (pre2 := ys ++ [x]) HG2.out HG3.out HG4.out HG5.out ⟨(by have := HLEN.out; simp; omega), (by rw [HC.out, ← List.append_assoc]; exact hj6)⟩ (kept_after HLZ.out HMX.out HG5.out hk6))
                clear hj6 hk6
                gi_wp2
                exact HT6.out
              · have HT6 := Lib.hid (Inn.turn (G2 := fun (ys : List (It wo)) M W => Jx ((pre ++ [(r.con, r.vars.length)]) ++ consO ys) M W) (pre2 := ys ++ [x]) HG2.out HG3.out HG4.out HG5.out (by rw [HC.out, ← List.append_assoc]; exact hj6) (kept_after HLZ.out HMX.out HG5.out hk6))
                clear hj6 hk6
                gi_wp2
                exact ⟨⟨rfl, HT6.out.1⟩, HT6.out.2⟩
            · have HC := Lib.hid (consO_no ys x hk)
              have aC := asC_no x.ex.kind hk
              clear hk
              gi_wp2_with (gi_at_call 69; refine (at_wide HFW.out (own_form _ _ _ _ _ _) l2).mono ?_; rintro r w2 ⟨rfl, hb2⟩; obtain ⟨hc2, hl2⟩ := HBX.out w2 hb2; have HB2 := Lib.hid hb2; clear hb2)
              have hlz : Below X.heap.size X (w2.alloc (.cells #[.string ⟨#[]⟩, .slice none 0 0] 110)) := HB2.out.trans (((Below.refl _ w2).alloc (Nat.le_refl _) _).mono HB2.out.size)
              exact Inn.turn (G2 := fun (ys : List (It wo)) M W => ys.length ≤ exSize r.body ∧ J ((pre ++ [(r.con, r.vars.length)]) ++ consO ys) M W) (pre2 := ys ++ [x]) HG2.out HG3.out HG4.out HG5.out ⟨(by have := HLEN.out; simp; omega), (by rw [HC.out]; exact HJ.out _ _ _ _ _ HG1.out.2 (Fr.of_below hlz) (fun k hk => Or.inl hk))⟩ ⟨hlz.mono HG5.out, fun k hk => hlz.block k (HMX.out k hk)⟩
          case done =>
            rintro D ys M2 X hD hDM hM2 hS ⟨M', g1, g2, g3, g4, g5⟩ hlow2 hK
            have HLY := Lib.hid g1.1
            have HO6 := Lib.hid (HO5.out.behind g1.2 g2 g3 g4 hM2 hDM hK hlow2)
            have HFI6 := Lib.hid (step_find HFH.out hS)
            clear g1 g2 g3 g4 g5 hM2 hDM hK hlow2 hS hD
            gi_wp2
            refine Handed.intro (gk - 1) (by omega) (hJJ _ _ _ ⟨D :: Ds, M', (pre ++ [(r.con, r.vars.length)]) ++ consO ys, i + 1, _, _, _, _, _, _, _, _, _, _, _, _, _, _, _, _, _, _, _, _, _, _, _, _, _, _, _, _, _, _, _, _, _, _, _, _, _, _, _, _, _, _, _, _, _, _, rfl, by omega, by omega, HO6, Lib.hid (fun q => ?_), Lib.hid ?_⟩)
            · rw [take_ru l i r HGET.out, consAll_snoc]
              exact HFI6.out q
            · rw [take_ru l i r HGET.out, cntR_snoc]
              have h1 := HPL.out
              have h2 := HLY.out
              have h3 := consO_len ys
              simp at h1 ⊢
              omega
          case stop =>
            rintro D cc ys M2 X hD hDM hM2 ⟨rest, hS⟩ ⟨rfl, M', g1, g2, g3, g4, g5⟩ hlow2 hK
            have HO6 := Lib.hid (HO5.out.behind g1 g2 g3 g4 hM2 hDM hK hlow2)
            have HSF := Lib.hid (stop_find HGET.out HFH.out hS)
            clear g1 g2 g3 g4 g5 hM2 hDM hK hlow2 hS hD
            gi_wp2
            exact leave_marks rfl (D :: Ds) X HO6.out.marks.1 (fun E hE => (HO6.out.marks.2 E hE).2.1) (fun v Y hf => ⟨⟨_, rfl⟩, .inr ⟨_, M', ⟨_, HSF.out⟩, HJX.out _ _ _ _ _ HO6.out.j (hf.mono (fun k hk => Or.inl (HO6.out.marks.2 k hk).1)) (fun k hk => Or.inl hk)⟩⟩)
        · have HO3 := Lib.hid (HOW.out.kept hk3 hjx3)
          clear hjx3 hk3 hnw
          gi_wp2
          exact leave_marks rfl Ds W3 HO3.out.marks.1 (fun D hD => (HO3.out.marks.2 D hD).2.1) (fun v X hf => ⟨⟨_, rfl⟩, .inr ⟨_, _, ⟨_, HSTOP.out⟩, HJX.out _ _ _ _ _ HO3.out.j (hf.mono (fun k hk => Or.inl (HO3.out.marks.2 k hk).1)) (fun k hk => Or.inl hk)⟩⟩)
    · obtain rfl : i = m := by omega
      gi_wp2
      exact leave_marks rfl Ds wr HOB.out.marks.1 (fun D hD => (HOB.out.marks.2 D hD).2.1) (fun v X hf => ⟨⟨_, rfl⟩, .inl ⟨pre, (by have h1 := HFI.out; rw [HM.out, List.take_length] at h1; exact h1), M, HJ.out _ _ _ _ _ HOB.out.j (hf.mono (fun k hk => Or.inl (HOB.out.marks.2 k hk).1)) (fun k hk => Or.inl hk)⟩⟩)
end Go.Proofs.YtmndlhbgacgnlaaGreat

namespace Go.Proofs.YtmndlhbgacgnlaaGreat
open Go Go.RowKit Go.Shelf
attribute [local go_sem] Oper.semAt_some

def consFun (b : Nat) : Value := .func (.func 72) #[] #[.pointer (some ⟨b, 0, none⟩)]
set_option maxHeartbeats 1000000 in
theorem constructors_in (F : Fence) (n : Nat) (hF : ∀ k, F.fn k) (hro : F.round = none) (A : Option Addr) (m c : Nat) (w : World) :
    CallsIn F n Tryz.prog 46 #[.agg #[.slice A m c]] w fun e w2 => e = .returned (consFun w.heap.size) ∧ w2 = w.alloc (.cells #[.slice A m c] 26) := by
  refine callsIn_of_wp Tryz.func46 rfl (hF _) ?_ hro
  simp only [Tryz.ntmps46, List.size_toArray, List.length_cons, List.length_nil, Nat.reduceAdd, Nat.reduceSub, Array.replicate_succ, Array.replicate_zero, List.push_toArray, List.append_toArray, List.nil_append, List.cons_append]
  gi_wp2
  go_ret
  exact ⟨rfl, rfl⟩

def CarI (rb : Nat) (s : ByteArray) (xs : List Cn) (Fp : List Nat) (W : World) : Prop := Fp = [rb] ∧ Boxed W rb 3 (.int .i64 0) ∧ xs.find? (isC s) = none
def CarX (rb : Nat) (s : ByteArray) (c : Code) (xs : List Cn) (Fp : List Nat) (W : World) : Prop := c = .ret ∧ Fp = [rb] ∧ ∃ y, xs.find? (isC s) = some y ∧ Boxed W rb 3 (.int .i64 (y.2 : Int))
theorem cari_foot (rb : Nat) (s : ByteArray) (xs : List Cn) : Foot (CarI rb s xs) := by
  rintro Fp X Y ⟨rfl, h1, h3⟩ _ hk
  exact ⟨rfl, box_on h1 (hk rb (by simp)), h3⟩
theorem carx_foot (rb : Nat) (s : ByteArray) (c : Code) (xs : List Cn) : Foot (CarX rb s c xs) := by
  rintro Fp X Y ⟨h0, rfl, y, h1, h2⟩ _ hk
  exact ⟨h0, rfl, y, h1, box_on h2 (hk rb (by simp))⟩
theorem res_int4 {fn : Func} (h : fn.results = #[.cell 4 3]) (tmps : Array Value) (W : World) (rb : Nat) (z : Int) (ht : tmps.getD 4 undef = .pointer (some ⟨rb, 0, none⟩)) (hc : W.cell? ⟨rb, 0, none⟩ = some (.int .i64 z)) : (results fn tmps).run Tryz.prog W = .ok (.int .i64 z) W := by
  rw [Array.getD_eq_getD_getElem?] at ht
  simp [results, h, ht, go_sem, hc]
theorem int4_end {F : Fence} {n : Nat} {fn : Func} {tmps : Array Value} {z : Int} {D rb : Nat} {w X : World} (h : fn.results = #[.cell 4 3]) (ht : tmps.getD 4 undef = .pointer (some ⟨rb, 0, none⟩)) (hR : Boxed X rb 3 (.int .i64 z)) (hK : X.heap[D]? = some (.deferred (some []))) (hne : D ≠ rb) (hDw : w.heap.size ≤ D) (hlow : Below w.heap.size w X) :
    LeavesInM F n Tryz.prog fn tmps (RetPost (.int .i64 z) w) [{ target := .collected D, args := #[] }] .returning X := by
  refine ⟨by simp, .inl ⟨D, _, rfl, run_takeDeferred hK, ?_⟩⟩
  refine ⟨.int .i64 z, res_int4 h tmps _ rb z ht ?_, rfl, hlow.trans ((Fr.put (S := [D]) X _ _ (by simp)).below (by simpa using hDw) hlow.size)⟩
  exact (box_on hR (World.putObj_heap_other (Ne.symm hne))).cell
theorem car_start (w : World) (A : Option Addr) (m c : Nat) (s : ByteArray) (W0 : World) (h : W0 = (((w.alloc (.cells #[.slice A m c] 26)).alloc (.cells #[.string s] 9)).alloc (.cells #[.int .i64 0] 3)).alloc (.cells #[.slice A m c] 26)) :
    W0.heap.size = w.heap.size + 4 ∧ Below w.heap.size w W0 ∧ Boxed W0 (w.heap.size + 1) 9 (.string s) ∧ Boxed W0 (w.heap.size + 2) 3 (.int .i64 0) ∧ W0.cell? ⟨w.heap.size + 3, 0, none⟩ = some (.slice A m c) := by
  obtain ⟨a1, h1⟩ : ∃ a1, a1 = w.alloc (.cells #[.slice A m c] 26) := ⟨_, rfl⟩
  obtain ⟨a2, h2⟩ : ∃ a2, a2 = a1.alloc (.cells #[.string s] 9) := ⟨_, rfl⟩
  obtain ⟨a3, h3⟩ : ∃ a3, a3 = a2.alloc (.cells #[.int .i64 0] 3) := ⟨_, rfl⟩
  rw [← h1, ← h2, ← h3] at h
  have s1 : a1.heap.size = w.heap.size + 1 := by rw [h1]; simp
  have s2 : a2.heap.size = w.heap.size + 2 := by rw [h2]; simp [s1]
  have s3 : a3.heap.size = w.heap.size + 3 := by rw [h3]; simp [s2]
  have s4 : W0.heap.size = w.heap.size + 4 := by rw [h]; simp [s3]
  have b2 := Boxed.new a1 9 (.string s)
  rw [← h2, s1] at b2
  have b3 := Boxed.new a2 3 (.int .i64 0)
  rw [← h3, s2] at b3
  have b4 := Boxed.new a3 26 (.slice A m c)
  rw [← h, s3] at b4
  have k3 : ∀ j, j < w.heap.size + 2 → a3.heap[j]? = a2.heap[j]? := fun j hj => by rw [h3]; exact Below.heap_alloc _ _ _ (by omega)
  have k4 : ∀ j, j < w.heap.size + 3 → W0.heap[j]? = a3.heap[j]? := fun j hj => by rw [h]; exact Below.heap_alloc _ _ _ (by omega)
  refine ⟨s4, ?_, box_on b2 ((k4 _ (by omega)).trans (k3 _ (by omega))), box_on b3 (k4 _ (by omega)), b4.cell⟩
  rw [h, h3, h2, h1]
  exact ((((Below.refl _ w).alloc (Nat.le_refl _) _).alloc (by simp) _).alloc (by simp <;> omega) _).alloc (by simp <;> omega) _

set_option maxRecDepth 100000 in
set_option maxHeartbeats 2000000 in
theorem con_in (F : Fence) (n : Nat) (hFw : F = Fence.wide) (hro : F.round = none) (hF : ∀ k, F.fn k) (hn : 10 ≤ n) (l : List Ru) (s : ByteArray) (v : Value) (bs : List Nat) (w : World) (hv : PrIs w v l bs) (hfr : Thawed w bs) (hb : ∀ r ∈ l, exSize r.body ≤ 1099511627776) :
    CallsIn F n Tryz.prog 16 #[v, .string s] w (RetPost (.int .i64 (conR s l)) w) := by
  obtain ⟨u, rfl, hu⟩ := id hv
  obtain ⟨A, c, rfl, hc1, hc2, -⟩ := id hu
  have h1 : 1 ≤ n := by omega
  have HFW := Lib.hid hFw
  have HU := Lib.hid hu
  have HFR := Lib.hid hfr
  have HB := Lib.hid hb
  obtain ⟨m, hm⟩ : ∃ m, m = l.length := ⟨_, rfl⟩
  rw [← hm] at HU hc1 ⊢
  clear hv hu hFw hfr hb hm
  refine callsIn_of_wp_marks Tryz.func16 rfl (hF _) ?_ hro
  simp only [Tryz.ntmps16, List.size_toArray, List.length_cons, List.length_nil, Nat.reduceAdd, Nat.reduceSub, Array.replicate_succ, Array.replicate_zero, List.push_toArray, List.append_toArray, List.nil_append, List.cons_append]
  gi_wp2_with (gi_at_call 46; refine (constructors_in F (n - 1) hF hro _ _ _ _).mono ?_; rintro e w' ⟨rfl, rfl⟩)
  obtain ⟨W0, hW0⟩ : ∃ W0, W0 = (((w.alloc (.cells #[.slice A m c] 26)).alloc (.cells #[.string s] 9)).alloc (.cells #[.int .i64 0] 3)).alloc (.cells #[.slice A m c] 26) := ⟨_, rfl⟩
  rw [← hW0]
  have HX := Lib.hid (car_start w A m c s W0 hW0)
  clear hW0
  have hx1 := HX.out.1
  refine wpIn_rangeFunc_frame hro h1 (gf := 72) (lb := #[.pointer (some ⟨w.heap.size + 3, 0, none⟩)]) rfl (hF _) (enters_of Tryz.func72 (by kernel_rfl) rfl)
    (cons_stops F (n - 1) HFW.out hro hF (by omega) w l A m c bs HU.out HB.out (fun z hz => (HFR.out z hz).2) (w.heap.size + 3) W0 HX.out.2.1 HX.out.2.2.2.2 (by omega)) (Below.refl _ _) (by omega) (fun k hk => by cases hk) (fun _ => rfl)
    (CarI (w.heap.size + 2) s) (CarX (w.heap.size + 2) s) (cari_foot _ _) (carx_foot _ _) [w.heap.size + 2] (fun k hk => by simp at hk; subst hk; simp; omega) ⟨rfl, HX.out.2.2.2.1, rfl⟩
    (fun pre x a2 Fp X => a2 = { tmps := #[.agg #[.slice A m c], .string s, .pointer (some ⟨w.heap.size, 0, none⟩), .pointer (some ⟨w.heap.size + 1, 0, none⟩), .pointer (some ⟨w.heap.size + 2, 0, none⟩), .string x.1, .int .i64 (x.2 : Int), .agg #[.slice A m c], consFun (w.heap.size + 3), .string x.1, .int .i64 (x.2 : Int), undef, undef, undef, undef], defers := [] } ∧ CarI (w.heap.size + 2) s pre Fp X) (fun xs x a2 Fp X Y h hs hk => ⟨h.1, cari_foot _ _ _ _ _ _ h.2 hs hk⟩) ?assign ?body ?done ?stop
  case assign =>
    intro l2 pre x Fp X KX hI hFp hFr hK
    have HI := Lib.hid hI
    have HFP := Lib.hid hFp
    have HKX := Lib.hid hK
    clear hI hFp hFr hK
    dsimp only [Cn.enc]
    gi_wp2
    exact HKX.out _ Fp _ (Fr.refl _ _) (fun k hk => ⟨Or.inl hk, (HFP.out k hk).2⟩) ⟨rfl, HI.out⟩
  case body =>
    rintro l2 pre x _ Fp X ⟨rfl, rfl, hR, hno⟩ hFp hFr hlen
    have hbs := (box_on HX.out.2.2.1 (hFr.block (w.heap.size + 1) (by omega) (by simp))).cell
    have hrc := hR.cell
    have hrf := hR.frozen
    have hrl := hR.lt
    have HR := Lib.hid hR
    have HNO := Lib.hid hno
    clear hR hno hFr hFp hlen
    by_cases hx : x.1 = s
    · have hbe := beq_yes hx
      have HXS := Lib.hid hx
      clear hx
      gi_wp2
      refine ⟨[w.heap.size + 2], Fr.set (S := [w.heap.size + 2]) _ _ _ (by simp), fun k hk => ?_, rfl, rfl, x, ?_, HR.out.set _⟩
      · simp at hk; subst hk; exact ⟨Or.inl (by simp), by have := HR.out.lt; simp [World.setCell]; omega⟩
      · rw [List.find?_append, HNO.out]; simp [isC, HXS.out]
    · have hbe := beq_no hx
      have HXS := Lib.hid hx
      clear hx
      gi_wp2
      refine ⟨[w.heap.size + 2], Fr.refl _ _, fun k hk => ?_, rfl, HR.out, ?_⟩
      · simp at hk; subst hk; exact ⟨Or.inl (by simp), HR.out.lt⟩
      · rw [List.find?_append, HNO.out]; simp [isC, HXS.out]
  case done =>
    rintro D xs Fp X hD hDF hFl hS ⟨rfl, hR, hno⟩ hFr hK
    have HCR := Lib.hid (show conR s l = -1 by rw [conR_find, ← hS, hno]; rfl)
    have hrc := hR.cell
    have hrf := hR.frozen
    have hrl := hR.lt
    have HR := Lib.hid hR
    have HK := Lib.hid hK
    have HLW := Lib.hid (show Below w.heap.size w X from HX.out.2.1.trans (hFr.below (by simp) (by omega)))
    have HDX := Lib.hid (show D ≠ w.heap.size + 2 by omega)
    clear hR hno hFr hK hS
    gi_wp2
    rw [HCR.out]
    exact int4_end rfl rfl (HR.out.set _) ((Below.heap_setCell _ _ _ _ HDX.out).trans HK.out) HDX.out (by omega) (HLW.out.setCell (p := ⟨w.heap.size + 2, 0, none⟩) (by simp) _)
  case stop =>
    rintro D cc pre Fp X hD hDF hFl ⟨rest, hS⟩ ⟨rfl, rfl, y, hy, hR⟩ hFr hK
    have HCR := Lib.hid (show conR s l = (y.2 : Int) by rw [conR_find, ← hS, List.find?_append, hy]; rfl)
    have HR := Lib.hid hR
    have HK := Lib.hid hK
    have HLW := Lib.hid (show Below w.heap.size w X from HX.out.2.1.trans (hFr.below (by simp) (by omega)))
    have HDX := Lib.hid (show D ≠ w.heap.size + 2 by omega)
    clear hR hy hFr hK hS
    gi_wp2
    rw [HCR.out]
    exact int4_end rfl rfl HR.out HK.out HDX.out (by omega) HLW.out
theorem own_con (l : List Ru) (s : ByteArray) (v : Value) (bs : List Nat) (w : World) (hv : PrIs w v l bs) (hfr : Thawed w bs) (hb : ∀ r ∈ l, exSize r.body ≤ 1099511627776) :
    Calls Tryz.prog 16 #[v, .string s] w (RetPost (.int .i64 (conR s l)) w) :=
  callsIn_wide.1 (con_in Fence.wide 10 rfl rfl (fun _ => trivial) (Nat.le_refl _) l s v bs w hv hfr hb)
end Go.Proofs.YtmndlhbgacgnlaaGreat

namespace Go.Proofs.YtmndlhbgacgnlaaGreat
open Go Go.RowKit Go.Shelf
attribute [local go_sem] Oper.semAt_some

def ckey (x : Cn) : Value := .string x.1
def cval (x : Cn) : Value := .int .i64 (x.2 : Int)
/-- The map of the constructors under way. -/
def CmI (B mb : Nat) (pre : List Cn) (Fp : List Nat) (W : World) : Prop := Fp = [B, mb] ∧ B ≠ mb ∧ Boxed W B 61 (.map (some mb)) ∧ ∃ M, MapIs W mb M ∧ (∀ x ∈ M, StrK x.1) ∧ Firsts ckey cval pre M
theorem cmi_foot (B mb : Nat) (pre : List Cn) : Foot (CmI B mb pre) := by
  rintro Fp X Y ⟨rfl, hne, h1, M, h2, h3⟩ _ hk
  exact ⟨rfl, hne, box_on h1 (hk B (by simp)), M, h2.on (hk mb (by simp)), h3⟩
theorem run_makeCon (w : World) : (Instr.makeMap 61 none).run Tryz.prog w = .ok (.map (some w.heap.size)) (w.alloc (.map #[] 0)) := by
  simp [Instr.makeMap]
theorem zeroInt (w : World) : (zeroValue 3).run Tryz.prog w = .ok (.int .i64 0) w := by kernel_rfl
theorem dem_start (w : World) (A : Option Addr) (m c : Nat) (W0 : World) (h : W0 = ((((w.alloc (.cells #[.slice A m c] 26)).alloc (.cells #[.map none, .map none] 63)).alloc (.map #[] 0)).alloc (.cells #[.map (some (w.heap.size + 2))] 61)).alloc (.cells #[.slice A m c] 26)) :
    W0.heap.size = w.heap.size + 5 ∧ Below w.heap.size w W0 ∧ Boxed W0 w.heap.size 26 (.slice A m c) ∧ W0.heap[w.heap.size + 1]? = some (.cells #[.map none, .map none] 63 (0, 0)) ∧ MapIs W0 (w.heap.size + 2) [] ∧ Boxed W0 (w.heap.size + 3) 61 (.map (some (w.heap.size + 2))) ∧ W0.cell? ⟨w.heap.size + 4, 0, none⟩ = some (.slice A m c) := by
  obtain ⟨a1, h1⟩ : ∃ a1, a1 = w.alloc (.cells #[.slice A m c] 26) := ⟨_, rfl⟩
  obtain ⟨a2, h2⟩ : ∃ a2, a2 = a1.alloc (.cells #[.map none, .map none] 63) := ⟨_, rfl⟩
  obtain ⟨a3, h3⟩ : ∃ a3, a3 = a2.alloc (.map #[] 0) := ⟨_, rfl⟩
  obtain ⟨a4, h4⟩ : ∃ a4, a4 = a3.alloc (.cells #[.map (some (w.heap.size + 2))] 61) := ⟨_, rfl⟩
  rw [← h1, ← h2, ← h3, ← h4] at h
  have s1 : a1.heap.size = w.heap.size + 1 := by rw [h1]; simp
  have s2 : a2.heap.size = w.heap.size + 2 := by rw [h2]; simp [s1]
  have s3 : a3.heap.size = w.heap.size + 3 := by rw [h3]; simp [s2]
  have s4 : a4.heap.size = w.heap.size + 4 := by rw [h4]; simp [s3]
  have s5 : W0.heap.size = w.heap.size + 5 := by rw [h]; simp [s4]
  have b1 := Boxed.new w 26 (.slice A m c)
  rw [← h1] at b1
  have b2 := World.alloc_heap_new a1 (.cells #[.map none, .map none] 63)
  rw [← h2, s1] at b2
  have b3 := MapIs.made a2
  rw [← h3, s2] at b3
  have b4 := Boxed.new a3 61 (.map (some (w.heap.size + 2)))
  rw [← h4, s3] at b4
  have b5 := Boxed.new a4 26 (.slice A m c)
  rw [← h, s4] at b5
  have k2 : ∀ j, j < w.heap.size + 1 → a2.heap[j]? = a1.heap[j]? := fun j hj => by rw [h2]; exact Below.heap_alloc _ _ _ (by omega)
  have k3 : ∀ j, j < w.heap.size + 2 → a3.heap[j]? = a2.heap[j]? := fun j hj => by rw [h3]; exact Below.heap_alloc _ _ _ (by omega)
  have k4 : ∀ j, j < w.heap.size + 3 → a4.heap[j]? = a3.heap[j]? := fun j hj => by rw [h4]; exact Below.heap_alloc _ _ _ (by omega)
  have k5 : ∀ j, j < w.heap.size + 4 → W0.heap[j]? = a4.heap[j]? := fun j hj => by rw [h]; exact Below.heap_alloc _ _ _ (by omega)
  refine ⟨s5, ?_, box_on b1 ((k5 _ (by omega)).trans ((k4 _ (by omega)).trans ((k3 _ (by omega)).trans (k2 _ (by omega))))), (k5 _ (by omega)).trans ((k4 _ (by omega)).trans ((k3 _ (by omega)).trans b2)), b3.on ((k5 _ (by omega)).trans (k4 _ (by omega))), box_on b4 (k5 _ (by omega)), b5.cell⟩
  rw [h, h4, h3, h2, h1]
  exact (((((Below.refl _ w).alloc (Nat.le_refl _) _).alloc (by simp <;> omega) _).alloc (by simp <;> omega) _).alloc (by simp <;> omega) _).alloc (by simp <;> omega) _

theorem Firsts.same {α : Type} {key val : α → Value} {F : List α} {M : List (Value × Value)} {x : α} (h : Firsts key val F M) (ho : ∃ y ∈ M, y.1 = key x) : Firsts key val (F ++ [x]) M := by
  refine ⟨h.more ho, by have := h.len.1; simp; omega, ⟨fun e => ?_, fun hn => ?_⟩⟩
  · have := h.len.1
    simp at e
    omega
  · obtain ⟨p, hp, hk⟩ := (h.keys (key x)).1 ho
    rw [List.map_append, List.map_cons, List.map_nil, List.nodup_append] at hn
    exact absurd rfl (hn.2.2 _ (List.mem_map_of_mem hp) (key x) (by simp) |> fun hh => by rw [hk] at hh; exact hh)
theorem cm_same {B mb : Nat} {pre : List Cn} {x : Cn} {M : List (Value × Value)} {X : World} {z v : Value} (hne : B ≠ mb) (hB : Boxed X B 61 (.map (some mb))) (hmi : MapIs X mb M) (hK : ∀ x ∈ M, StrK x.1) (hF : Firsts ckey cval pre M) (hit : Hits M (.string x.1) z v true) :
    ∃ Fp2, Fr [B, mb] X X ∧ (∀ k ∈ Fp2, (k ∈ [B, mb] ∨ X.heap.size ≤ k) ∧ k < X.heap.size) ∧ CmI B mb (pre ++ [x]) Fp2 X := by
  refine ⟨[B, mb], Fr.refl _ _, fun k hk => ?_, rfl, hne, hB, M, hmi, hK, hF.same ?_⟩
  · refine ⟨Or.inl hk, ?_⟩
    simp at hk
    rcases hk with rfl | rfl
    · exact hB.lt
    · exact hmi.lt
  · rcases hit with ⟨h, -⟩ | ⟨-, -, h⟩
    · exact ⟨_, h, rfl⟩
    · cases h
theorem cm_step {B mb : Nat} {pre : List Cn} {x : Cn} {M L2 : List (Value × Value)} {X W5 : World} {z v : Value} (hne : B ≠ mb) (hB : Boxed X B 61 (.map (some mb))) (hmi : MapIs X mb M) (hK : ∀ x ∈ M, StrK x.1) (hF : Firsts ckey cval pre M) (hit : Hits M (.string x.1) z v false)
    (h2 : MapIs W5 mb L2) (hp : Put M (.string x.1) (.int .i64 (x.2 : Int)) L2) (hg : X.grownBy W5 (some mb)) :
    ∃ Fp2, Fr [B, mb] X W5 ∧ (∀ k ∈ Fp2, (k ∈ [B, mb] ∨ X.heap.size ≤ k) ∧ k < W5.heap.size) ∧ CmI B mb (pre ++ [x]) Fp2 W5 := by
  obtain ⟨es, clock, -, -, hn⟩ := id hmi
  refine ⟨[B, mb], Fr.grown hg (fun k e => by cases e; simp), fun k hk => ⟨Or.inl hk, ?_⟩, rfl, hne, box_on hB (hg.block B hB.lt (fun e => hne (Option.some.inj e))), L2, h2, hp.nodup_keys hK ⟨_, rfl⟩, hF.snoc hn hp ?_⟩
  · simp at hk
    rcases hk with rfl | rfl
    · exact Nat.lt_of_lt_of_le hB.lt hg.size
    · exact h2.lt
  · rcases hit with ⟨-, h⟩ | ⟨h, -, -⟩
    · cases h
    · exact h

/-- What demandsOf hands back. -/
def DemPost (l : List Ru) (w : World) (e : Ending) (w2 : World) : Prop :=
  ∃ (mb mb2 : Nat) (M M2 : List (Value × Value)) (wq : World) (xs : List (Rt wq)) (G : List Cn), e = .returned (.agg #[.map (some mb), .map (some mb2)]) ∧ (MapIs w2 mb M ∧ (∀ x ∈ M, StrK x.1) ∧ xs.map Rt.pair = numd 0 l ∧ Firsts rname Rt.val xs M) ∧ (MapIs w2 mb2 M2 ∧ (∀ x ∈ M2, StrK x.1) ∧ Firsts ckey cval G M2 ∧ ∀ q, G.find? q = (consAll l).find? q) ∧ Below w.heap.size w w2

theorem res_dem {fn : Func} (h : fn.results = #[.cell 2 63]) (tmps : Array Value) (W : World) (rb : Nat) (u v : Value) (ht : tmps.getD 2 undef = .pointer (some ⟨rb, 0, none⟩)) (hc : W.cell? ⟨rb, 0, none⟩ = some u) (hd : W.cell? ⟨rb, 1, none⟩ = some v) (hu : ∃ k, u = .map k) (hv : ∃ k, v = .map k) : (results fn tmps).run Tryz.prog W = .ok (.agg #[u, v]) W := by
  obtain ⟨k, rfl⟩ := hu
  obtain ⟨k2, rfl⟩ := hv
  rw [Array.getD_eq_getD_getElem?] at ht
  simp [results, h, ht, go_sem, hc, hd]
theorem dem_end {F : Fence} {n : Nat} {fn : Func} {tmps : Array Value} {mb D : Nat} {l : List Ru} {M M1 : List (Value × Value)} {xs : List Cn} {w X w6 : World} {ys : List (Rt X.drew)} (h : fn.results = #[.cell 2 63]) (ht : tmps.getD 2 undef = .pointer (some ⟨w.heap.size + 1, 0, none⟩)) (hlow : Below w.heap.size w X) (hK : X.heap[D]? = some (.deferred (some []))) (hD : w.heap.size + 5 ≤ D)
    (hrb : w.heap.size + 3 < X.heap.size) (hmi : MapIs X (w.heap.size + 2) M) (hKM : ∀ x ∈ M, StrK x.1) (hF : Firsts ckey cval xs M) (hS : ∀ q, xs.find? q = (consAll l).find? q)
    (hm6 : MapIs w6 mb M1) (hk6 : ∀ x ∈ M1, StrK x.1) (hy6 : ys.map Rt.pair = numd 0 l) (hf6 : Firsts rname Rt.val ys M1) (hl6 : X.drew.heap.size ≤ mb) (hb6 : Below X.drew.heap.size X.drew w6) (hz2 : w6.cell? ⟨w.heap.size + 1, 0, none⟩ = some (.map none)) (hz3 : w6.cell? ⟨w.heap.size + 1, 1, none⟩ = some (.map none)) :
    LeavesInM F n Tryz.prog fn tmps (DemPost l w) [{ target := .collected D, args := #[] }] .returning ((w6.setCell ⟨w.heap.size + 1, 0, none⟩ (.map (some mb))).setCell ⟨w.heap.size + 1, 1, none⟩ (.map (some (w.heap.size + 2)))) := by
  have hb6 : Below X.heap.size X w6 := (Below.refl _ X).drew.trans hb6
  have hl6 : X.heap.size ≤ mb := hl6
  have hDl := (Array.getElem?_eq_some_iff.1 hK).1
  obtain ⟨Y, hY⟩ : ∃ Y, Y = (w6.setCell ⟨w.heap.size + 1, 0, none⟩ (.map (some mb))).setCell ⟨w.heap.size + 1, 1, none⟩ (.map (some (w.heap.size + 2))) := ⟨_, rfl⟩
  rw [← hY]
  have hf : Fr [w.heap.size + 1] w6 Y := by rw [hY]; exact (Fr.set (S := [w.heap.size + 1]) _ _ _ (by simp)).trans (Fr.set (S := [w.heap.size + 1]) _ _ _ (by simp)) (by simp)
  have hs6 := hb6.size
  have hYD : Y.heap[D]? = some (.deferred (some [])) := (hf.block D (by omega) (by simp; omega)).trans ((hb6.block D hDl).trans hK)
  have c0 : Y.cell? ⟨w.heap.size + 1, 0, none⟩ = some (.map (some mb)) := by
    rw [hY, World.cell?_setCell_other _ _ _ _ (by simp)]
    exact World.cell?_setCell_same _ _ _ hz2
  have c1 : Y.cell? ⟨w.heap.size + 1, 1, none⟩ = some (.map (some (w.heap.size + 2))) := by
    rw [hY]
    exact World.cell?_setCell_same _ _ _ (by rw [World.cell?_setCell_other _ _ _ _ (by simp)]; exact hz3)
  refine ⟨by simp, .inl ⟨D, _, rfl, run_takeDeferred hYD, ?_⟩⟩
  have k : ∀ {o : Obj} (j : Nat), j ≠ D → (Y.putObj D o).heap[j]? = Y.heap[j]? := fun {o} j hj => World.putObj_heap_other hj
  refine ⟨.agg #[.map (some mb), .map (some (w.heap.size + 2))], res_dem h tmps _ (w.heap.size + 1) _ _ ht ((World.cell?_of_block (w := Y) (k (w.heap.size + 1) (by omega))).trans c0) ((World.cell?_of_block (w := Y) (k (w.heap.size + 1) (by omega))).trans c1) ⟨_, rfl⟩ ⟨_, rfl⟩, mb, w.heap.size + 2, M1, M, X.drew, ys, xs, rfl, ⟨(hm6.on (hf.block mb hm6.lt (by simp; omega))).on (World.putObj_heap_other (by omega)), hk6, hy6, hf6⟩, ⟨((hmi.on (hb6.block _ hmi.lt)).on (hf.block _ (by omega) (by simp))).on (World.putObj_heap_other (by omega)), hKM, hF, hS⟩, ?_⟩
  exact ((hlow.trans (hb6.mono hlow.size)).trans (hf.below (by simp) (by omega))).trans ((Fr.put (S := [D]) Y _ _ (by simp)).below (by simp; omega) (by have := hf.size; omega))
/-- A piece of code of which nothing but its ordinary end is asked. -/
theorem drop_rest {F : Fence} {n : Nat} {P : Program} {c : Code} {K : Act → World → Prop} {Q : Exit → Act → World → Prop} {a : Act} {w : World} (h : c.wpIn F n P (Exit.then K (fun _ _ _ => False)) a w) : c.wpIn F n P (Exit.then K Q) a w :=
  wpIn_mono h (fun e a W hq => by
    cases e with
    | normal => exact hq
    | exit id => exact hq.elim
    | goto t => exact hq.elim
    | ret => exact hq.elim
    | panic c => exact hq.elim
    | outgrown => exact hq.elim)
/-- What stands behind the call while the two maps are put together. -/
theorem dem_after {b : Nat} {A : Option Addr} {m c : Nat} {X Z : World} (h : Hid (X.cell? ⟨b, 0, none⟩ = some (.slice A m c) ∧ X.cell? ⟨b + 1 + 1 + 1, 0, none⟩ = some (.map (some (b + 1 + 1))) ∧ X.heap[b + 1]? = some (.cells #[.map none, .map none] 63 (0, 0)))) (hb : Below X.drew.heap.size X.drew Z) :
    Z.cell? ⟨b + 1 + 1 + 1, 0, none⟩ = some (.map (some (b + 1 + 1))) ∧ Z.cell? ⟨b + 1, 0, none⟩ = some (.map none) ∧ Z.cell? ⟨b + 1, 1, none⟩ = some (.map none) ∧ Z.frozen? ⟨b + 1, 0, none⟩ = false ∧ Z.frozen? ⟨b + 1, 1, none⟩ = false ∧ b + 1 < Z.heap.size := by
  obtain ⟨-, h2, h3⟩ := h.out
  have hl := (Array.getElem?_eq_some_iff.1 h3).1
  have k3 : Z.heap[b + 1]? = _ := (hb.block (b + 1) hl).trans h3
  refine ⟨(hb.cell (p := ⟨b + 1 + 1 + 1, 0, none⟩) (World.block_lt_of_cell? X _ h2)).trans h2, ?_, ?_, ?_, ?_, Nat.lt_of_lt_of_le hl hb.size⟩
  · simp [World.cell?, k3]
  · simp [World.cell?, k3]
  · simp [World.frozen?, k3]
  · simp [World.frozen?, k3]

set_option maxRecDepth 100000 in
set_option maxHeartbeats 2000000 in
theorem dem_in (F : Fence) (n : Nat) (hFw : F = Fence.wide) (hro : F.round = none) (hF : ∀ k, F.fn k) (hn : 10 ≤ n) (l : List Ru) (v : Value) (bs : List Nat) (w : World) (hv : PrIs w v l bs) (hfr : Thawed w bs) (hb : ∀ r ∈ l, exSize r.body ≤ 1099511627776) (hlb : l.length ≤ 1099511627776) :
    CallsIn F n Tryz.prog 32 #[v] w (DemPost l w) := by
  obtain ⟨u, rfl, hu⟩ := id hv
  obtain ⟨A, c, rfl, hc1, hc2, -⟩ := id hu
  have h1 : 1 ≤ n := by omega
  have HFW := Lib.hid hFw
  have HU := Lib.hid hu
  have HFR := Lib.hid hfr
  have HB := Lib.hid hb
  have HLB := Lib.hid hlb
  have HV := Lib.hid hv
  obtain ⟨m, hm⟩ : ∃ m, m = l.length := ⟨_, rfl⟩
  rw [← hm] at HU HV hc1 ⊢
  have hmk := run_makeCon
  clear hv hu hFw hfr hb hm hlb
  refine callsIn_of_wp_marks Tryz.func32 rfl (hF _) ?_ hro
  simp only [Tryz.ntmps32, List.size_toArray, List.length_cons, List.length_nil, Nat.reduceAdd, Nat.reduceSub, Array.replicate_succ, Array.replicate_zero, List.push_toArray, List.append_toArray, List.nil_append, List.cons_append]
  gi_wp2_with (gi_at_call 46; refine (constructors_in F (n - 1) hF hro _ _ _ _).mono ?_; rintro e w' ⟨rfl, rfl⟩)
  obtain ⟨W0, hW0⟩ : ∃ W0, W0 = ((((w.alloc (.cells #[.slice A m c] 26)).alloc (.cells #[.map none, .map none] 63)).alloc (.map #[] 0)).alloc (.cells #[.map (some (w.heap.size + 2))] 61)).alloc (.cells #[.slice A m c] 26) := ⟨_, rfl⟩
  rw [← hW0]
  have HX := Lib.hid (dem_start w A m c W0 hW0)
  clear hW0 hmk
  have hx1 := HX.out.1
  refine wpIn_rangeFunc_frame hro h1 (gf := 72) (lb := #[.pointer (some ⟨w.heap.size + 4, 0, none⟩)]) rfl (hF _) (enters_of Tryz.func72 (by kernel_rfl) rfl)
    (cons_stops F (n - 1) HFW.out hro hF (by omega) w l A m c bs HU.out HB.out (fun z hz => (HFR.out z hz).2) (w.heap.size + 4) W0 HX.out.2.1 HX.out.2.2.2.2.2.2 (by omega)) (Below.refl _ _) (by omega) (fun k hk => by cases hk) (fun _ => rfl)
    (CmI (w.heap.size + 3) (w.heap.size + 2)) (fun _ _ _ _ => False) (cmi_foot _ _) (fun _ _ _ _ _ h _ _ => h) [w.heap.size + 3, w.heap.size + 2] (fun k hk => by simp at hk; rcases hk with rfl | rfl <;> simp <;> omega) ⟨rfl, by omega, HX.out.2.2.2.2.2.1, [], HX.out.2.2.2.2.1, (fun x hx => by cases hx), firsts_nil⟩
    (fun pre x a2 Fp X => a2 = { tmps := #[.agg #[.slice A m c], .pointer (some ⟨w.heap.size, 0, none⟩), .pointer (some ⟨w.heap.size + 1, 0, none⟩), .pointer (some ⟨w.heap.size + 3, 0, none⟩), .string x.1, .int .i64 (x.2 : Int), undef, undef, .map (some (w.heap.size + 2)), .agg #[.slice A m c], consFun (w.heap.size + 4), .string x.1, .int .i64 (x.2 : Int), undef, undef, undef, undef, undef, undef, undef, undef, undef, undef, undef, undef, undef, undef, undef], defers := [] } ∧ CmI (w.heap.size + 3) (w.heap.size + 2) pre Fp X) (fun xs x a2 Fp X Y h hs hk => ⟨h.1, cmi_foot _ _ _ _ _ _ h.2 hs hk⟩) ?assign ?body ?done ?stop
  case assign =>
    intro l2 pre x Fp X KX hI hFp hFr hK
    have HI := Lib.hid hI
    have HFP := Lib.hid hFp
    have HKX := Lib.hid hK
    clear hI hFp hFr hK
    dsimp only [Cn.enc]
    gi_wp2
    exact HKX.out _ Fp _ (Fr.refl _ _) (fun k hk => ⟨Or.inl hk, (HFP.out k hk).2⟩) ⟨rfl, HI.out⟩
  case body =>
    rintro l2 pre x _ Fp X ⟨rfl, rfl, hne, hB, M, hmi, hKM, hFs⟩ hFp hFr hlen
    have hc := hB.cell
    obtain ⟨v, b, hrun, hit⟩ := hmi.look (strT X) Tryz.underlying61 (zeroInt X) (key := .string x.1) ⟨_, rfl⟩ hKM
    have hr2 := hrun true
    simp only [if_true] at hr2
    have HB1 := Lib.hid hB
    have HMI := Lib.hid hmi
    have HKM := Lib.hid hKM
    have HFS := Lib.hid hFs
    have HNE := Lib.hid hne
    rcases hFs.hits hit with ⟨p, hp1, hp2, hp3⟩ | ⟨hp1, hp2, hp3⟩
    · subst hp2 hp3
      dsimp only [cval] at hr2
      have HHIT := Lib.hid hit
      clear hB hmi hKM hFs hne hFp hFr hrun hit hp1
      gi_wp2
      exact cm_same HNE.out HB1.out HMI.out HKM.out HFS.out HHIT.out
    · subst hp2 hp3
      have HHIT := Lib.hid hit
      clear hB hmi hKM hFs hne hFp hFr hrun hit hp1
      gi_wp2_with (gi_at_mapUpdate; refine asc_put_in _ rfl _ _ _ 61 rfl 9 3 Tryz.underlying61 StrK (strT X) (w.heap.size + 2) M rfl HMI.out _ _ rfl rfl ⟨_, rfl⟩ HKM.out ?_; intro W5 L2 hmi5 hput5 hgr5; have HM5 := Lib.hid hmi5; have HP5 := Lib.hid hput5; have HG5 := Lib.hid hgr5; clear hmi5 hput5 hgr5)
      exact cm_step HNE.out HB1.out HMI.out HKM.out HFS.out HHIT.out HM5.out HP5.out HG5.out
  case done =>
    rintro D xs Fp X hD hDF hFl hS ⟨rfl, hne, hB, M, hmi, hKM, hFs⟩ hFr hK
    have hFw := HFW.out
    subst hFw
    have HLW := Lib.hid (show Below w.heap.size w X from HX.out.2.1.trans (hFr.below (by simp <;> omega) (by omega)))
    have hc : X.cell? ⟨w.heap.size + 1 + 1 + 1, 0, none⟩ = some (.map (some (w.heap.size + 1 + 1))) := hB.cell
    have hpc := (box_on HX.out.2.2.1 (hFr.block w.heap.size (by omega) (by simp <;> omega))).cell
    have hrb := (hFr.block (w.heap.size + 1) (by omega) (by simp <;> omega)).trans HX.out.2.2.2.1
    have HC0 := Lib.hid (show X.cell? ⟨w.heap.size, 0, none⟩ = some (.slice A m c) ∧ X.cell? ⟨w.heap.size + 1 + 1 + 1, 0, none⟩ = some (.map (some (w.heap.size + 1 + 1))) ∧ X.heap[w.heap.size + 1]? = some (.cells #[.map none, .map none] 63 (0, 0)) from ⟨hpc, hc, hrb⟩)
    have HDX := Lib.hid hD
    have HCALL := Lib.hid (own_first l _ bs X.drew (HV.out.below HLW.out.drew) HLB.out)
    have HB1 := Lib.hid hB
    have HMI := Lib.hid hmi
    have HKM := Lib.hid hKM
    have HFS := Lib.hid hFs
    have HNE := Lib.hid hne
    have HS := Lib.hid hS
    have HK := Lib.hid hK
    clear hB hmi hKM hFs hne hFr hS hK hFl hrb hD hDF
    gi_wp2
    refine drop_rest (wpIn_wide.2 ?_)
    go_region_law (first | (go_simp; go_at_call 35; refine HCALL.out.mono ?_; rintro r w6 ⟨mb, M1, ys, rfl, hm6, hk6, hy6, hf6, hl6, hb6⟩; obtain ⟨hz1, hz2, hz3, hz4, hz5, hz6⟩ := dem_after HC0 hb6))
    all_goals
      gi_wp2
      exact dem_end rfl rfl HLW.out HK.out (by have := HDX.out; omega) (by have := HB1.out.lt; omega) HMI.out HKM.out HFS.out HS.out hm6 hk6 hy6 hf6 hl6 hb6 hz2 hz3
  case stop =>
    rintro D c pre Fp X _ _ _ _ h _ _
    exact h.elim
theorem own_dem (l : List Ru) (v : Value) (bs : List Nat) (w : World) (hv : PrIs w v l bs) (hfr : Thawed w bs) (hb : ∀ r ∈ l, exSize r.body ≤ 1099511627776) (hlb : l.length ≤ 1099511627776) : Calls Tryz.prog 32 #[v] w (DemPost l w) :=
  callsIn_wide.1 (dem_in Fence.wide 10 rfl rfl (fun _ => trivial) (Nat.le_refl _) l v bs w hv hfr hb hlb)
end Go.Proofs.YtmndlhbgacgnlaaGreat

namespace Go.Proofs.YtmndlhbgacgnlaaGreat
end Go.Proofs.YtmndlhbgacgnlaaGreat

namespace Go.Proofs.YtmndlhbgacgnlaaGreat
open Go Go.RowKit

def fit1 (rs : List Ru) (all n : Ex) : Bool := if n.kind = 3 then decide ((n.args.length : Int) = arityR rs n.name) else if n.kind = 2 then decide ((n.args.length : Int) = (if conR n.name rs < 0 then conE n.name all else conR n.name rs)) else true
theorem fit_nodes (rs : List Ru) (all : Ex) (n : Nat) : (∀ e : Ex, exSize e ≤ n → fitE rs all e = (exNodes e).all (fit1 rs all)) ∧ (∀ l : List Ex, exSizes l ≤ n → fitL rs all l = (exNodesL l).all (fit1 rs all)) := by
  induction n with
  | zero =>
    refine ⟨fun e h => by have := exSize_pos e; omega, fun l h => ?_⟩
    cases l with
    | nil => simp [exNodesL, fitL]
    | cons e r => rw [exSizes] at h; have := exSize_pos e; omega
  | succ n ih =>
    have hE : ∀ e : Ex, exSize e ≤ n + 1 → fitE rs all e = (exNodes e).all (fit1 rs all) := by
      intro e h
      cases e with
      | mk k s l =>
        rw [exSize] at h
        rw [exNodes, fitE, ih.2 l (by omega), List.all_cons, Bool.and_comm]
        rfl
    refine ⟨hE, ?_⟩
    intro l
    induction l with
    | nil => intro _; simp [exNodesL, fitL]
    | cons e r ihl =>
      intro h
      rw [exSizes] at h
      rw [exNodesL, fitL, List.all_append, hE e (by omega), ihl (by omega)]

def chkO (len : Nat) : Option Cn → Bool
  | none => true
  | some y => decide (len = y.2)
/-- What is checked at a node behind those seen. -/
def chk (rs : List Ru) (seen : List Ex) (n : Ex) : Bool := if n.kind = 3 then decide ((n.args.length : Int) = arityR rs n.name) else if n.kind = 2 then (if 0 ≤ conR n.name rs then decide ((n.args.length : Int) = conR n.name rs) else chkO n.args.length ((seen.filterMap conOf).find? (isC n.name))) else true
def okL (rs : List Ru) : List Ex → List Ex → Bool
  | _, [] => true
  | seen, n :: t => chk rs seen n && okL rs (seen ++ [n]) t
theorem okL_app (rs : List Ru) : ∀ (a b seen : List Ex), okL rs seen (a ++ b) = (okL rs seen a && okL rs (seen ++ a) b) := by
  intro a
  induction a with
  | nil => intro b seen; simp [okL]
  | cons n t ih => intro b seen; rw [List.cons_append, okL, okL, ih, Bool.and_assoc, List.append_assoc]; rfl
theorem okL_snoc (rs : List Ru) (a : List Ex) (n : Ex) : okL rs [] (a ++ [n]) = (okL rs [] a && chk rs a n) := by
  rw [okL_app]; simp [okL]
theorem okL_all (rs : List Ru) (e : Ex) : ∀ (t seen : List Ex), seen ++ t = exNodes e → okL rs seen t = t.all (fit1 rs e) := by
  intro t
  induction t with
  | nil => intro seen _; rfl
  | cons n t ih =>
    intro seen h
    rw [okL, List.all_cons, ih (seen ++ [n]) (by rw [← h]; simp)]
    congr 1
    unfold chk fit1
    by_cases h3 : n.kind = 3
    · rw [if_pos h3, if_pos h3]
    · rw [if_neg h3, if_neg h3]
      by_cases h2 : n.kind = 2
      · rw [if_pos h2, if_pos h2]
        by_cases h0 : 0 ≤ conR n.name rs
        · rw [if_pos h0, if_neg (by omega)]
        · rw [if_neg h0, if_pos (by omega), (conE_find n.name _).1 e (Nat.le_refl _), bodyOf, ← h, List.filterMap_append, List.find?_append]
          cases hs : (seen.filterMap conOf).find? (isC n.name) with
          | some y =>
            simp [arOf, chkO]
            omega
          | none =>
            have : (List.filterMap conOf (n :: t)).find? (isC n.name) = some (n.name, n.args.length) := by simp [conOf, h2, isC]
            rw [this]
            simp [arOf, chkO]
      · rw [if_neg h2, if_neg h2]
theorem fit_ok (rs : List Ru) (e : Ex) : fitE rs e e = okL rs [] (exNodes e) := by
  rw [(fit_nodes rs e _).1 e (Nat.le_refl _), okL_all rs e (exNodes e) [] rfl]
/-- The constructors seen that do not occur in the program. -/
def ownOf (rs : List Ru) (seen : List Ex) : List Cn := (seen.filterMap conOf).filter (fun y => decide (conR y.1 rs < 0))
theorem own_find' (rs : List Ru) (seen : List Ex) (s : ByteArray) (h : conR s rs < 0) : (ownOf rs seen).find? (isC s) = (seen.filterMap conOf).find? (isC s) := by
  unfold ownOf
  rw [List.find?_filter]
  congr 1
  funext y
  by_cases hy : y.1 = s
  · simp [isC, hy, h]
  · simp [isC, hy]
end Go.Proofs.YtmndlhbgacgnlaaGreat

namespace Go.Proofs.YtmndlhbgacgnlaaGreat
open Go Go.RowKit Go.Shelf Go.Sort
attribute [local go_sem] Oper.semAt_some

theorem asK_no (k : Int) (hk : ¬ k = 3) (v : Value) (w : World) : (Instr.typeAssert (.iface (formTy k) v) 103 109 true).run Tryz.prog w = .ok (.tuple #[.agg #[.string ⟨#[]⟩, .slice none 0 0], .bool false]) w := by
  unfold formTy
  by_cases h1 : k = 1
  · rw [if_pos h1]; exact asVK v w
  · by_cases h2 : k = 2
    · rw [if_neg h1, if_pos h2]; exact asCK v w
    · by_cases h4 : k = 4
      · rw [if_neg h1, if_neg h2, if_neg hk, if_pos h4]; exact asSK v w
      · rw [if_neg h1, if_neg h2, if_neg hk, if_neg h4]; exact asOK v w
theorem MapIs.look_eq {P : Program} {w : World} {b : Nat} {L : List (Value × Value)} {k e t : TypeId} {K : Value → Prop} (h : MapIs w b L) (hK : KeyT P k w K) (ht : P.underlying t = some (.map k e)) {z : Value} (hz : (zeroValue e).run P w = .ok z w) {key : Value} (hkey : K key) (hL : ∀ x ∈ L, K x.1) {v : Value} {bb : Bool} (hit : Hits L key z v bb) :
    (Instr.lookup t (.map (some b)) key true).run P w = .ok (.tuple #[v, .bool bb]) w := by
  obtain ⟨es, clock, -, -, hn⟩ := id h
  obtain ⟨v2, b2, hr, hit2⟩ := h.look hK ht hz hkey hL
  obtain ⟨rfl, rfl⟩ := hit2.uniq hn hit
  have := hr true
  simpa using this
/-- A first occurrence, as a search tells it. -/
theorem first_find : ∀ (F : List Cn) (s : ByteArray) (p : Cn), FirstAt ckey F (.string s) p → F.find? (isC s) = some p := by
  intro F
  induction F with
  | nil => intro s p h; have := h.mem.1; cases this
  | cons x t ih =>
    intro s p h
    rw [firstAt_cons] at h
    rcases h with ⟨h1, rfl⟩ | ⟨h1, h2⟩
    · simp [ckey] at h1
      simp [isC, h1]
    · have hx : ¬ x.1 = s := fun e => h1 (by simp [ckey, e])
      rw [List.find?_cons_of_neg (by simp [isC, hx])]
      exact ih s p h2
theorem none_find (F : List Cn) (s : ByteArray) (h : ∀ p ∈ F, ckey p ≠ .string s) : F.find? (isC s) = none := by
  rw [List.find?_eq_none]
  intro x hx
  have := h x hx
  simp [ckey] at this
  simp [isC, this]

section
variable {wo : World}
/-- The program's own map of the constructors seen that do not occur in the program, under way. -/
def AmI (l : List Ru) (rb B mp : Nat) (pre : List (It wo)) (Fp : List Nat) (W : World) : Prop :=
  Fp = [rb, B, mp] ∧ (rb ≠ B ∧ rb ≠ mp ∧ B ≠ mp) ∧ Boxed W rb 4 (.bool false) ∧ Boxed W B 61 (.map (some mp)) ∧ okL l [] (pre.map It.ex) = true ∧ ∃ M, MapIs W mp M ∧ (∀ x ∈ M, StrK x.1) ∧ Firsts ckey cval (ownOf l (pre.map It.ex)) M
def AmX (l : List Ru) (rb : Nat) (c : Code) (pre : List (It wo)) (Fp : List Nat) (W : World) : Prop := c = .ret ∧ Fp = [rb] ∧ Boxed W rb 4 (.bool false) ∧ okL l [] (pre.map It.ex) = false
theorem ami_foot (l : List Ru) (rb B mp : Nat) (pre : List (It wo)) : Foot (AmI l rb B mp pre) := by
  rintro Fp X Y ⟨rfl, hne, h1, h2, h3, M, h4, h5⟩ _ hk
  exact ⟨rfl, hne, box_on h1 (hk rb (by simp)), box_on h2 (hk B (by simp)), h3, M, h4.on (hk mp (by simp)), h5⟩
theorem amx_foot (l : List Ru) (rb : Nat) (c : Code) (pre : List (It wo)) : Foot (AmX l rb c pre) := by
  rintro Fp X Y ⟨h0, rfl, h1, h2⟩ _ hk
  exact ⟨h0, rfl, box_on h1 (hk rb (by simp)), h2⟩
theorem am_keep {l : List Ru} {rb B mp nb : Nat} {pre : List (It wo)} {x : It wo} {X Y : World} (h : AmI l rb B mp pre [rb, B, mp] X) (hb : Below X.heap.size X Y) (hc : chk l (pre.map It.ex) x.ex = true) (ho : ownOf l (pre.map It.ex ++ [x.ex]) = ownOf l (pre.map It.ex)) :
    ∃ Fp2, Fr (nb :: [rb, B, mp]) X Y ∧ (∀ k ∈ Fp2, (k ∈ nb :: [rb, B, mp] ∨ X.heap.size ≤ k) ∧ k < Y.heap.size) ∧ AmI l rb B mp (pre ++ [x]) Fp2 Y := by
  obtain ⟨-, hne, h1, h2, h3, M, h4, h5, h6⟩ := h
  refine ⟨[rb, B, mp], Fr.of_below hb, fun k hk => ⟨Or.inl (List.mem_cons_of_mem _ hk), ?_⟩, rfl, hne, box_on h1 (hb.block _ h1.lt), box_on h2 (hb.block _ h2.lt), ?_, M, h4.on (hb.block _ h4.lt), h5, ?_⟩
  · have hs := hb.size
    have l1 := h1.lt
    have l2 := h2.lt
    have l4 := h4.lt
    simp at hk
    rcases hk with rfl | rfl | rfl <;> omega
  · rw [List.map_append, List.map_cons, List.map_nil, okL_snoc, h3, hc]; rfl
  · rw [List.map_append, List.map_cons, List.map_nil, ho]; exact h6
theorem am_same {l : List Ru} {rb B mp nb : Nat} {pre : List (It wo)} {x : It wo} {X Y : World} {c : Cn} {z v : Value} {M : List (Value × Value)} (h1 : Boxed X rb 4 (.bool false)) (h2 : Boxed X B 61 (.map (some mp))) (hne : rb ≠ B ∧ rb ≠ mp ∧ B ≠ mp) (h3 : okL l [] (pre.map It.ex) = true) (h4 : MapIs X mp M) (h5 : ∀ x ∈ M, StrK x.1) (h6 : Firsts ckey cval (ownOf l (pre.map It.ex)) M) (hb : Below X.heap.size X Y) (hc : chk l (pre.map It.ex) x.ex = true) (ho : ownOf l (pre.map It.ex ++ [x.ex]) = ownOf l (pre.map It.ex) ++ [c]) (hit : Hits M (ckey c) z v true) :
    ∃ Fp2, Fr (nb :: [rb, B, mp]) X Y ∧ (∀ k ∈ Fp2, (k ∈ nb :: [rb, B, mp] ∨ X.heap.size ≤ k) ∧ k < Y.heap.size) ∧ AmI l rb B mp (pre ++ [x]) Fp2 Y := by
  refine ⟨[rb, B, mp], Fr.of_below hb, fun k hk => ⟨Or.inl (List.mem_cons_of_mem _ hk), ?_⟩, rfl, hne, box_on h1 (hb.block _ h1.lt), box_on h2 (hb.block _ h2.lt), ?_, M, h4.on (hb.block _ h4.lt), h5, ?_⟩
  · have hs := hb.size
    have l1 := h1.lt
    have l2 := h2.lt
    have l4 := h4.lt
    simp at hk
    rcases hk with rfl | rfl | rfl <;> omega
  · rw [List.map_append, List.map_cons, List.map_nil, okL_snoc, h3, hc]; rfl
  · rw [List.map_append, List.map_cons, List.map_nil, ho]
    refine h6.same ?_
    rcases hit with ⟨h, -⟩ | ⟨-, -, h⟩
    · exact ⟨_, h, rfl⟩
    · cases h
theorem am_put {l : List Ru} {rb B mp nb : Nat} {pre : List (It wo)} {x : It wo} {X Y W5 : World} {c : Cn} {z v : Value} {M L2 : List (Value × Value)} (h1 : Boxed X rb 4 (.bool false)) (h2 : Boxed X B 61 (.map (some mp))) (hne : rb ≠ B ∧ rb ≠ mp ∧ B ≠ mp) (h3 : okL l [] (pre.map It.ex) = true) (h4 : MapIs X mp M) (h5 : ∀ x ∈ M, StrK x.1) (h6 : Firsts ckey cval (ownOf l (pre.map It.ex)) M) (hb : Below X.heap.size X Y) (hc : chk l (pre.map It.ex) x.ex = true) (ho : ownOf l (pre.map It.ex ++ [x.ex]) = ownOf l (pre.map It.ex) ++ [c]) (hit : Hits M (ckey c) z v false)
    (hm5 : MapIs W5 mp L2) (hp5 : Put M (ckey c) (cval c) L2) (hg5 : Y.grownBy W5 (some mp)) :
    ∃ Fp2, Fr (nb :: [rb, B, mp]) X W5 ∧ (∀ k ∈ Fp2, (k ∈ nb :: [rb, B, mp] ∨ X.heap.size ≤ k) ∧ k < W5.heap.size) ∧ AmI l rb B mp (pre ++ [x]) Fp2 W5 := by
  have hs := hb.size
  have l1 := h1.lt
  have l2 := h2.lt
  obtain ⟨es, clock, -, -, hn⟩ := id h4
  have hf : Fr (nb :: [rb, B, mp]) X W5 := (Fr.of_below hb).trans (Fr.grown (S := nb :: [rb, B, mp]) hg5 (fun k e => by cases e; simp)) (fun k hk => Or.inl hk)
  refine ⟨[rb, B, mp], hf, fun k hk => ⟨Or.inl (List.mem_cons_of_mem _ hk), ?_⟩, rfl, hne, box_on h1 ((hg5.block rb (by omega) (fun e => hne.2.1 (Option.some.inj e))).trans (hb.block _ l1)), box_on h2 ((hg5.block B (by omega) (fun e => hne.2.2 (Option.some.inj e))).trans (hb.block _ l2)), ?_, L2, hm5, hp5.nodup_keys h5 ⟨_, rfl⟩, ?_⟩
  · have hs5 := hf.size
    have l4 := h4.lt
    simp at hk
    rcases hk with rfl | rfl | rfl <;> omega
  · rw [List.map_append, List.map_cons, List.map_nil, okL_snoc, h3, hc]; rfl
  · rw [List.map_append, List.map_cons, List.map_nil, ho]
    refine h6.snoc hn hp5 ?_
    rcases hit with ⟨-, h⟩ | ⟨h, -, -⟩
    · cases h
    · exact h
theorem am_stop2 {l : List Ru} {rb B mp nb : Nat} {pre : List (It wo)} {x : It wo} {X Y : World} {o : Obj} (h1 : Boxed X rb 4 (.bool false)) (hb : Below X.heap.size X Y) (hc : chk l (pre.map It.ex) x.ex = false) :
    ∃ Fp2, Fr (nb :: [rb, B, mp]) X ((Y.setCell ⟨rb, 0, none⟩ (.bool false)).alloc o) ∧ (∀ k ∈ Fp2, (k ∈ nb :: [rb, B, mp] ∨ X.heap.size ≤ k) ∧ k < ((Y.setCell ⟨rb, 0, none⟩ (.bool false)).alloc o).heap.size) ∧ AmX l rb .ret (pre ++ [x]) Fp2 ((Y.setCell ⟨rb, 0, none⟩ (.bool false)).alloc o) := by
  have h2 : Boxed Y rb 4 (.bool false) := box_on h1 (hb.block _ h1.lt)
  refine ⟨[rb], ((Fr.of_below hb).trans (Fr.set (S := nb :: [rb, B, mp]) _ _ _ (by simp)) (fun k hk => Or.inl hk)).trans (Fr.alloc (S := nb :: [rb, B, mp]) _ _) (fun k hk => Or.inl hk), fun k hk => ?_, rfl, rfl, Boxed.alloc (h2.set _) o, ?_⟩
  · simp at hk; subst hk
    exact ⟨Or.inl (by simp), by have := h2.lt; simp [World.setCell]; omega⟩
  · rw [List.map_append, List.map_cons, List.map_nil, okL_snoc, hc, Bool.and_false]
theorem am_stop {l : List Ru} {rb B mp nb : Nat} {pre : List (It wo)} {x : It wo} {X Y : World} (h1 : Boxed X rb 4 (.bool false)) (hb : Below X.heap.size X Y) (hc : chk l (pre.map It.ex) x.ex = false) :
    ∃ Fp2, Fr (nb :: [rb, B, mp]) X (Y.setCell ⟨rb, 0, none⟩ (.bool false)) ∧ (∀ k ∈ Fp2, (k ∈ nb :: [rb, B, mp] ∨ X.heap.size ≤ k) ∧ k < (Y.setCell ⟨rb, 0, none⟩ (.bool false)).heap.size) ∧ AmX l rb .ret (pre ++ [x]) Fp2 (Y.setCell ⟨rb, 0, none⟩ (.bool false)) := by
  have h2 : Boxed Y rb 4 (.bool false) := box_on h1 (hb.block _ h1.lt)
  refine ⟨[rb], (Fr.of_below hb).trans (Fr.set (S := nb :: [rb, B, mp]) _ _ _ (by simp)) (fun k hk => Or.inl hk), fun k hk => ?_, rfl, rfl, h2.set _, ?_⟩
  · simp at hk; subst hk
    exact ⟨Or.inl (by simp), by have := h2.lt; simp [World.setCell]; omega⟩
  · rw [List.map_append, List.map_cons, List.map_nil, okL_snoc, hc, Bool.and_false]
end
theorem res_bool4 {fn : Func} (h : fn.results = #[.cell 4 4]) (tmps : Array Value) (W : World) (rb : Nat) (b : Bool) (ht : tmps.getD 4 undef = .pointer (some ⟨rb, 0, none⟩)) (hc : W.cell? ⟨rb, 0, none⟩ = some (.bool b)) : (results fn tmps).run Tryz.prog W = .ok (.bool b) W := by
  rw [Array.getD_eq_getD_getElem?] at ht
  simp [results, h, ht, go_sem, hc]
theorem bool4_end {F : Fence} {n : Nat} {fn : Func} {tmps : Array Value} {b : Bool} {D rb : Nat} {w X : World} (h : fn.results = #[.cell 4 4]) (ht : tmps.getD 4 undef = .pointer (some ⟨rb, 0, none⟩)) (hR : Boxed X rb 4 (.bool b)) (hK : X.heap[D]? = some (.deferred (some []))) (hne : D ≠ rb) (hDw : w.heap.size ≤ D) (hlow : Below w.heap.size w X) :
    LeavesInM F n Tryz.prog fn tmps (RetPost (.bool b) w) [{ target := .collected D, args := #[] }] .returning X := by
  refine ⟨by simp, .inl ⟨D, _, rfl, run_takeDeferred hK, ?_⟩⟩
  refine ⟨.bool b, res_bool4 h tmps _ rb b ht ?_, rfl, hlow.trans ((Fr.put (S := [D]) X _ _ (by simp)).below (by simpa using hDw) hlow.size)⟩
  exact (box_on hR (World.putObj_heap_other (Ne.symm hne))).cell
theorem met_start (w : World) (d1 d2 : Value) (k : Int) (s : ByteArray) (u : Value) (W1 : World) (h : W1 = ((((w.alloc (.cells #[d1, d2] 63)).alloc (.cells #[.int .i64 k, .string s, u] 32)).alloc (.cells #[.bool false] 4)).alloc (.map #[] 0)).alloc (.cells #[.map (some (w.heap.size + 3))] 61)) :
    W1.heap.size = w.heap.size + 5 ∧ Below w.heap.size w W1 ∧ W1.heap[w.heap.size]? = some (.cells #[d1, d2] 63 (0, 0)) ∧ Boxed W1 (w.heap.size + 2) 4 (.bool false) ∧ MapIs W1 (w.heap.size + 3) [] ∧ Boxed W1 (w.heap.size + 4) 61 (.map (some (w.heap.size + 3))) := by
  obtain ⟨a1, h1⟩ : ∃ a1, a1 = w.alloc (.cells #[d1, d2] 63) := ⟨_, rfl⟩
  obtain ⟨a2, h2⟩ : ∃ a2, a2 = a1.alloc (.cells #[.int .i64 k, .string s, u] 32) := ⟨_, rfl⟩
  obtain ⟨a3, h3⟩ : ∃ a3, a3 = a2.alloc (.cells #[.bool false] 4) := ⟨_, rfl⟩
  obtain ⟨a4, h4⟩ : ∃ a4, a4 = a3.alloc (.map #[] 0) := ⟨_, rfl⟩
  rw [← h1, ← h2, ← h3, ← h4] at h
  have s1 : a1.heap.size = w.heap.size + 1 := by rw [h1]; simp
  have s2 : a2.heap.size = w.heap.size + 2 := by rw [h2]; simp [s1]
  have s3 : a3.heap.size = w.heap.size + 3 := by rw [h3]; simp [s2]
  have s4 : a4.heap.size = w.heap.size + 4 := by rw [h4]; simp [s3]
  have s5 : W1.heap.size = w.heap.size + 5 := by rw [h]; simp [s4]
  have b1 := World.alloc_heap_new w (.cells #[d1, d2] 63)
  rw [← h1] at b1
  have b3 := Boxed.new a2 4 (.bool false)
  rw [← h3, s2] at b3
  have b4 := MapIs.made a3
  rw [← h4, s3] at b4
  have b5 := Boxed.new a4 61 (.map (some (w.heap.size + 3)))
  rw [← h, s4] at b5
  have k2 : ∀ j, j < w.heap.size + 1 → a2.heap[j]? = a1.heap[j]? := fun j hj => by rw [h2]; exact Below.heap_alloc _ _ _ (by omega)
  have k3 : ∀ j, j < w.heap.size + 2 → a3.heap[j]? = a2.heap[j]? := fun j hj => by rw [h3]; exact Below.heap_alloc _ _ _ (by omega)
  have k4 : ∀ j, j < w.heap.size + 3 → a4.heap[j]? = a3.heap[j]? := fun j hj => by rw [h4]; exact Below.heap_alloc _ _ _ (by omega)
  have k5 : ∀ j, j < w.heap.size + 4 → W1.heap[j]? = a4.heap[j]? := fun j hj => by rw [h]; exact Below.heap_alloc _ _ _ (by omega)
  refine ⟨s5, ?_, (k5 _ (by omega)).trans ((k4 _ (by omega)).trans ((k3 _ (by omega)).trans ((k2 _ (by omega)).trans b1))), box_on b3 ((k5 _ (by omega)).trans (k4 _ (by omega))), b4.on (k5 _ (by omega)), b5⟩
  rw [h, h4, h3, h2, h1]
  exact (((((Below.refl _ w).alloc (Nat.le_refl _) _).alloc (by simp <;> omega) _).alloc (by simp <;> omega) _).alloc (by simp <;> omega) _).alloc (by simp <;> omega) _

set_option maxRecDepth 100000 in
set_option maxHeartbeats 4000000 in
theorem met_in (F : Fence) (n : Nat) (hFw : F = Fence.wide) (hro : F.round = none) (hF : ∀ k, F.fn k) (hn : 9 ≤ n) (l : List Ru) (e : Ex) (v : Value) (bs : List Nat) (mb mb2 : Nat) (M1 M2 : List (Value × Value)) (wq : World) (xs : List (Rt wq)) (G : List Cn) (w : World) (hv : ExIs w v e bs) (hb : exSize e ≤ 1099511627776) (hp : ∀ r ∈ l, r.params.length ≤ 1099511627776)
    (hm1 : MapIs w mb M1) (hk1 : ∀ x ∈ M1, StrK x.1) (hx1 : xs.map Rt.pair = numd 0 l) (hf1 : Firsts rname Rt.val xs M1) (hm2 : MapIs w mb2 M2) (hk2 : ∀ x ∈ M2, StrK x.1) (hf2 : Firsts ckey cval G M2) (hG : ∀ q, G.find? q = (consAll l).find? q) :
    CallsIn F n Tryz.prog 39 #[.agg #[.map (some mb), .map (some mb2)], v] w (RetPost (.bool (fitE l e e)) w) := by
  obtain ⟨u, rfl, hs, hu⟩ := id hv
  obtain ⟨A, c, rfl, hc1, hc2, -⟩ := id hu
  have HV := Lib.hid hv
  have HN := Lib.hid (fit_ok l e)
  have h1 : 1 ≤ n := by omega
  have HFW := Lib.hid hFw
  have HM1 := Lib.hid hm1
  have HK1 := Lib.hid hk1
  have HX1 := Lib.hid hx1
  have HF1 := Lib.hid hf1
  have HM2 := Lib.hid hm2
  have HK2 := Lib.hid hk2
  have HF2 := Lib.hid hf2
  have HG := Lib.hid hG
  have HP := Lib.hid hp
  have hmk := run_makeCon
  obtain ⟨m, hm⟩ : ∃ m, m = e.args.length := ⟨_, rfl⟩
  rw [← hm] at HV hc1 ⊢
  have HM := Lib.hid hm
  clear hv hu hFw hm hm1 hk1 hx1 hf1 hm2 hk2 hf2 hG hp
  refine callsIn_of_wp_marks Tryz.func39 rfl (hF _) ?_ hro
  simp only [Tryz.ntmps39, List.size_toArray, List.length_cons, List.length_nil, Nat.reduceAdd, Nat.reduceSub, Array.replicate_succ, Array.replicate_zero, List.push_toArray, List.append_toArray, List.nil_append, List.cons_append]
  gi_wp2_with (gi_at_call 67; refine (nodesOf_in F (n - 1) hF hro (by omega) _ _ _ _ _ _).mono ?_; rintro e w' ⟨rfl, rfl⟩)
  obtain ⟨W1, hW1⟩ : ∃ W1, W1 = ((((w.alloc (.cells #[.map (some mb), .map (some mb2)] 63)).alloc (.cells #[.int .i64 e.kind, .string e.name, .slice A m c] 32)).alloc (.cells #[.bool false] 4)).alloc (.map #[] 0)).alloc (.cells #[.map (some (w.heap.size + 3))] 61) := ⟨_, rfl⟩
  rw [← hW1]
  obtain ⟨W0, hW0⟩ : ∃ W0, W0 = nodesW W1 e.kind e.name (.slice A m c) := ⟨_, rfl⟩
  rw [← hW0]
  have HS := Lib.hid (met_start w _ _ _ _ _ W1 hW1)
  have HX := Lib.hid (show W0.heap.size = w.heap.size + 8 ∧ Below w.heap.size w W0 ∧ W0.heap[w.heap.size]? = some (.cells #[.map (some mb), .map (some mb2)] 63 (0, 0)) ∧ Boxed W0 (w.heap.size + 2) 4 (.bool false) ∧ MapIs W0 (w.heap.size + 3) [] ∧ Boxed W0 (w.heap.size + 4) 61 (.map (some (w.heap.size + 3))) by
    obtain ⟨s1, s2, s3, s4, s5, s6⟩ := HS.out
    have k : ∀ j, j < w.heap.size + 5 → W0.heap[j]? = W1.heap[j]? := fun j hj => by rw [hW0]; exact nodesW_old _ _ _ (by omega)
    exact ⟨by rw [hW0, nodesW_size, s1], by rw [hW0]; exact nodesW_below s2 s2.size _ _ _, (k _ (by omega)).trans s3, box_on s4 (k _ (by omega)), s5.on (k _ (by omega)), box_on s6 (k _ (by omega))⟩)
  have HW0 := Lib.hid hW0
  clear hW0 hW1 hmk
  have hx1 := HX.out.1
  refine wpIn_rangeFunc_frame hro h1 (gf := 125) (lb := nodesLb (w.heap.size + 5)) rfl (hF _) (enters_of Tryz.func125 (by kernel_rfl) rfl)
    (nodes_stops F (n - 1) HFW.out hro hF (by omega) w e (.slice A m c) bs HV.out hb (w.heap.size + 5) W1 W0 HS.out.1.symm HW0.out HS.out.2.1) (Below.refl _ _) (by omega) (by simp <;> omega) (fun _ => rfl)
    (AmI l (w.heap.size + 2) (w.heap.size + 4) (w.heap.size + 3)) (AmX l (w.heap.size + 2)) (ami_foot _ _ _ _) (amx_foot _ _) [w.heap.size + 2, w.heap.size + 4, w.heap.size + 3] (fun k hk => by simp at hk; rcases hk with rfl | rfl | rfl <;> simp <;> omega) ⟨rfl, ⟨by omega, by omega, by omega⟩, HX.out.2.2.2.1, HX.out.2.2.2.2.2, rfl, [], HX.out.2.2.2.2.1, (fun x hx => by cases hx), firsts_nil⟩
    (Noded (AmI l (w.heap.size + 2) (w.heap.size + 4) (w.heap.size + 3)) (fun nb x => #[.agg #[.map (some mb), .map (some mb2)], .agg #[.int .i64 e.kind, .string e.name, .slice A m c], .pointer (some ⟨w.heap.size, 0, none⟩), .pointer (some ⟨w.heap.size + 1, 0, none⟩), .pointer (some ⟨w.heap.size + 2, 0, none⟩), .pointer (some ⟨w.heap.size + 4, 0, none⟩), .pointer (some ⟨nb, 0, none⟩), undef, undef, undef, undef, undef, undef, .map (some (w.heap.size + 3)), .agg #[.int .i64 e.kind, .string e.name, .slice A m c], nodesFun (w.heap.size + 5), x.val, undef, undef, undef, undef, undef, undef, undef, undef, undef, undef, undef, undef, undef, undef, undef, undef, undef, undef, undef, undef, undef, undef, undef, undef, undef, undef, undef, undef, undef, undef, undef, undef, undef, undef, undef, undef, undef, undef, undef, undef, undef, undef, undef, undef, undef, undef, undef, undef, undef, undef, undef, undef, undef, undef, undef, undef, undef, undef, undef, undef, undef, undef, undef])) (noded_foot (ami_foot _ _ _ _) _) ?assign ?body ?done ?stop
  case assign =>
    intro l2 pre x Fp X KX hI hFp hFr hK
    obtain ⟨A2, c2, hu2, -, -, -⟩ := x.slice
    have hv : x.val = .agg #[.int .i64 x.ex.kind, .string x.ex.name, .slice A2 x.ex.args.length c2] := by rw [← hu2]; rfl
    have HI := Lib.hid hI
    have HU2 := Lib.hid hu2
    have HV2 := Lib.hid hv
    have HFP := Lib.hid hFp
    have HKX := Lib.hid hK
    dsimp only
    rw [hv]
    clear hu2 hv hI hFp hFr hK
    gi_wp2
    obtain ⟨q1, q2, q3⟩ := noded_new (ami_foot l (w.heap.size + 2) (w.heap.size + 4) (w.heap.size + 3)) (tm := (fun nb x => #[.agg #[.map (some mb), .map (some mb2)], .agg #[.int .i64 e.kind, .string e.name, .slice A m c], .pointer (some ⟨w.heap.size, 0, none⟩), .pointer (some ⟨w.heap.size + 1, 0, none⟩), .pointer (some ⟨w.heap.size + 2, 0, none⟩), .pointer (some ⟨w.heap.size + 4, 0, none⟩), .pointer (some ⟨nb, 0, none⟩), undef, undef, undef, undef, undef, undef, .map (some (w.heap.size + 3)), .agg #[.int .i64 e.kind, .string e.name, .slice A m c], nodesFun (w.heap.size + 5), x.val, undef, undef, undef, undef, undef, undef, undef, undef, undef, undef, undef, undef, undef, undef, undef, undef, undef, undef, undef, undef, undef, undef, undef, undef, undef, undef, undef, undef, undef, undef, undef, undef, undef, undef, undef, undef, undef, undef, undef, undef, undef, undef, undef, undef, undef, undef, undef, undef, undef, undef, undef, undef, undef, undef, undef, undef, undef, undef, undef, undef, undef, undef, undef])) HI.out (fun k hk => (HFP.out k hk).2) HU2.out rfl
    refine HKX.out _ _ _ q1 q2 ?_
    exact (by simpa only [HV2.out] using q3)
  case body =>
    rintro l2 pre x _ Fp X ⟨nb, _, rfl, hnx, hnb, hAM, rfl⟩ hFp hFr hlen
    obtain ⟨rfl, hne, hR, hO, hok, M, hmo, hko, hfo⟩ := id hAM
    have hFw := HFW.out
    subst hFw
    have hn3 : 1 ≤ n - 1 - 1 := by omega
    obtain ⟨A4, c4, hu2, -, hac1, hac2⟩ := x.slice
    obtain ⟨q4, hq4⟩ : ∃ q4, q4 = x.ex.args.length := ⟨_, rfl⟩
    rw [← hq4] at hu2 hac1
    rw [hu2] at hnx
    have hq4m : (q4 : Int) ≤ 9223372036854775807 := by omega
    have hn0 : X.cell? ⟨nb, 0, none⟩ = some (.int .i64 x.ex.kind) := by simp [World.cell?, hnx]
    have hn1 : X.cell? ⟨nb, 1, none⟩ = some (.string x.ex.name) := by simp [World.cell?, hnx]
    have hn2 : X.cell? ⟨nb, 2, none⟩ = some (.slice A4 q4 c4) := by simp [World.cell?, hnx]
    have HLW := Lib.hid (show Below w.heap.size w X from HX.out.2.1.trans (hFr.below (by simp <;> omega) (by omega)))
    have hdb : X.heap[w.heap.size]? = some (.cells #[.map (some mb), .map (some mb2)] 63 (0, 0)) := (hFr.block w.heap.size (by omega) (by simp <;> omega)).trans HX.out.2.2.1
    have HBX := Lib.hid (fun (w2 : World) (hb2 : Below X.heap.size X w2) => show w2.cell? ⟨w.heap.size, 0, none⟩ = some (.map (some mb)) ∧ w2.cell? ⟨w.heap.size, 1, none⟩ = some (.map (some mb2)) ∧ w.heap.size < w2.heap.size ∧ w2.cell? ⟨w.heap.size + 2, 0, none⟩ = some (.bool false) ∧ w2.frozen? ⟨w.heap.size + 2, 0, none⟩ = false ∧ w.heap.size + 2 < w2.heap.size ∧ w2.cell? ⟨w.heap.size + 4, 0, none⟩ = some (.map (some (w.heap.size + 3))) ∧ w.heap.size + 4 < w2.heap.size from by
      have k1 : w2.heap[w.heap.size]? = _ := (hb2.block w.heap.size (Array.getElem?_eq_some_iff.1 hdb).1).trans hdb
      have k2 := box_on hR (hb2.block _ hR.lt)
      have k3 := box_on hO (hb2.block _ hO.lt)
      exact ⟨by simp [World.cell?, k1], by simp [World.cell?, k1], (Array.getElem?_eq_some_iff.1 k1).1, k2.cell, k2.frozen, k2.lt, k3.cell, k3.lt⟩)
    have HL1 := Lib.hid (fun (Y : World) (hY : Below X.heap.size X Y) => HM1.out.on ((HLW.out.trans (hY.mono HLW.out.size)).block _ HM1.out.lt))
    have HL2 := Lib.hid (fun (Y : World) (hY : Below X.heap.size X Y) => HM2.out.on ((HLW.out.trans (hY.mono HLW.out.size)).block _ HM2.out.lt))
    have HLO := Lib.hid (fun (Y : World) (hY : Below X.heap.size X Y) => hmo.on (hY.block _ hmo.lt))
    have HAM := Lib.hid hAM
    have HNE := Lib.hid hne
    have HR := Lib.hid hR
    have HO := Lib.hid hO
    have HOK := Lib.hid hok
    have HMO := Lib.hid hmo
    have HKO := Lib.hid hko
    have HFO := Lib.hid hfo
    have HQ4 := Lib.hid hq4
    clear hAM hne hR hO hok hmo hko hfo hdb hFr hFp hlen hnx hu2 hq4 hnb
    by_cases hk3 : x.ex.kind = 3
    · have aK := asKK
      have HT := Lib.hid (show formTy x.ex.kind = 109 by rw [hk3]; rfl)
      have HCH := Lib.hid (show chk l (pre.map It.ex) x.ex = decide ((x.ex.args.length : Int) = arityR l x.ex.name) by unfold chk; rw [if_pos hk3])
      have HOW := Lib.hid (show ownOf l (pre.map It.ex ++ [x.ex]) = ownOf l (pre.map It.ex) by unfold ownOf; rw [List.filterMap_append]; simp [conOf, hk3])
      clear hk3
      obtain ⟨es, clock, -, -, hnd⟩ := id HM1.out
      obtain ⟨vv, bb, -, hit⟩ := HM1.out.look (strT w) Tryz.underlying60 (zeroRule w) (key := .string x.ex.name) ⟨_, rfl⟩ HK1.out
      obtain ⟨hi1, hi2⟩ := idx_first (rname_named x.ex.name) xs 0 l HX1.out
      have HLK := Lib.hid (fun (Y : World) (hY : Below X.heap.size X Y) => (HL1.out Y hY).look_eq (strT Y) Tryz.underlying60 (zeroRule Y) (key := .string x.ex.name) ⟨_, rfl⟩ HK1.out hit)
      rcases HF1.out.hits hit with ⟨p, hp1, rfl, rfl⟩ | ⟨hp1, rfl, rfl⟩
      · obtain ⟨A1, d1, A2, d2, A3, d3, hv1, hv2, hv3, -⟩ := p.slices
        have hv : p.val = .agg #[.string p.ru.name, .string p.ru.con, .slice A1 p.ru.vars.length d1, .slice A2 p.ru.params.length d2, .int .i64 p.ru.body.kind, .string p.ru.body.name, .slice A3 p.ru.body.args.length d3] := by rw [← hv1, ← hv2, ← hv3]; rfl
        have HAR := Lib.hid (show arityR l x.ex.name = arityS p.ru.con p.ru.params.length from arity_find (hi1 p hp1).2)
        have hpl := HP.out _ (List.mem_of_find?_eq_some (hi1 p hp1).2)
        rw [hv] at HLK
        have HCA := Lib.hid (fun (Y : World) => flat_arity p.ru.name p.ru.con p.ru.body.name A1 A2 A3 p.ru.vars.length d1 p.ru.params.length d2 p.ru.body.args.length d3 p.ru.body.kind Y hpl)
        clear hit hi1 hi2 hp1 hv hv1 hv2 hv3 hnd hpl
        obtain ⟨za, hza⟩ : ∃ za, za = arityS p.ru.con p.ru.params.length := ⟨_, rfl⟩
        rw [← hza] at HAR HCA
        have HZA := Lib.hid hza
        clear hza
        gi_wp2_with (gi_at_call 69; refine (at_wide rfl (own_form _ _ _ _ _ _) l2).mono ?_; rintro r w2 ⟨rfl, hb2⟩; rw [HT.out]; obtain ⟨hc1, hc2, hc3, hc4, hc5, hc6, hc7, hc8⟩ := HBX.out w2 hb2; have hlk := HLK.out (w2.alloc (.cells #[.string x.ex.name, .slice A4 q4 c4] 109)) (hb2.trans (((Below.refl _ w2).alloc (Nat.le_refl _) _).mono hb2.size)); have HB2 := Lib.hid hb2; clear hb2)
        obtain ⟨Wz, hWz⟩ : ∃ Wz, Wz = (w2.alloc (.cells #[.string x.ex.name, .slice A4 q4 c4] 109)).alloc (.cells #[.string p.ru.name, .string p.ru.con, .slice A1 p.ru.vars.length d1, .slice A2 p.ru.params.length d2, .int .i64 p.ru.body.kind, .string p.ru.body.name, .slice A3 p.ru.body.args.length d3] 34) := ⟨_, rfl⟩
        rw [← hWz]
        have hz : Below X.heap.size X Wz := by rw [hWz]; exact HB2.out.trans ((((Below.refl _ w2).alloc (Nat.le_refl _) _).alloc (by simp) _).mono HB2.out.size)
        have hbx : Wz.heap[w2.heap.size + 1]? = some (.cells #[.string p.ru.name, .string p.ru.con, .slice A1 p.ru.vars.length d1, .slice A2 p.ru.params.length d2, .int .i64 p.ru.body.kind, .string p.ru.body.name, .slice A3 p.ru.body.args.length d3] 34 (0, 0)) := by
          have h9 := World.alloc_heap_new (w2.alloc (.cells #[.string x.ex.name, .slice A4 q4 c4] 109)) (.cells #[.string p.ru.name, .string p.ru.con, .slice A1 p.ru.vars.length d1, .slice A2 p.ru.params.length d2, .int .i64 p.ru.body.kind, .string p.ru.body.name, .slice A3 p.ru.body.args.length d3] 34)
          rw [World.size_alloc, ← hWz] at h9
          exact h9
        have hfx : Wz.heap[w2.heap.size]? = some (.cells #[.string x.ex.name, .slice A4 q4 c4] 109 (0, 0)) := by
          rw [hWz]; exact (Below.heap_alloc _ _ _ (by simp)).trans (World.alloc_heap_new w2 _)
        have r0 : ∀ d os, (grow (redrawn Wz d) os).cell? ⟨w2.heap.size + 1, 0, none⟩ = some (.string p.ru.name) := fun d os => cell_regrown (by simp [World.cell?, hbx]) d os
        have r1 : ∀ d os, (grow (redrawn Wz d) os).cell? ⟨w2.heap.size + 1, 1, none⟩ = some (.string p.ru.con) := fun d os => cell_regrown (by simp [World.cell?, hbx]) d os
        have r2 : ∀ d os, (grow (redrawn Wz d) os).cell? ⟨w2.heap.size + 1, 2, none⟩ = some (.slice A1 p.ru.vars.length d1) := fun d os => cell_regrown (by simp [World.cell?, hbx]) d os
        have r3 : ∀ d os, (grow (redrawn Wz d) os).cell? ⟨w2.heap.size + 1, 3, none⟩ = some (.slice A2 p.ru.params.length d2) := fun d os => cell_regrown (by simp [World.cell?, hbx]) d os
        have r4 : ∀ d os, (grow (redrawn Wz d) os).cell? ⟨w2.heap.size + 1, 4, none⟩ = some (.int .i64 p.ru.body.kind) := fun d os => cell_regrown (by simp [World.cell?, hbx]) d os
        have r5 : ∀ d os, (grow (redrawn Wz d) os).cell? ⟨w2.heap.size + 1, 5, none⟩ = some (.string p.ru.body.name) := fun d os => cell_regrown (by simp [World.cell?, hbx]) d os
        have r6 : ∀ d os, (grow (redrawn Wz d) os).cell? ⟨w2.heap.size + 1, 6, none⟩ = some (.slice A3 p.ru.body.args.length d3) := fun d os => cell_regrown (by simp [World.cell?, hbx]) d os
        have r7 : ∀ d os, (grow (redrawn Wz d) os).cell? ⟨w2.heap.size, 1, none⟩ = some (.slice A4 q4 c4) := fun d os => cell_regrown (by simp [World.cell?, hfx]) d os
        have cA := fun d os => Calls.regrown_of ((HCA.out (grow (redrawn Wz d) os)).mono (fun e w' h => h))
        clear hbx hfx
        by_cases hqa : za = (q4 : Int)
        · have hnq : (za != (q4 : Int)) = false := by simp [hqa]
          clear hWz hlk
          refine region_round_below (by kernel_rfl) (by kernel_rfl) (by rfl) ?_
          repeat (quiet_step (exact cA _ _))
          refine wpQuiet_nil ?_
          intro _ hw'
          obtain ⟨⟨dq, osq⟩, hw''⟩ := hw'
          subst hw''
          have hq : Below X.heap.size X (grow (redrawn Wz dq) osq) := hz.trans ((below_regrown Wz dq osq).mono hz.size)
          obtain ⟨Wq, hWq⟩ : ∃ Wq, Wq = grow (redrawn Wz dq) osq := ⟨_, rfl⟩
          rw [← hWq] at hq ⊢
          clear hWq
          obtain ⟨-, -, -, he4, he5, he6, -, -⟩ := HBX.out Wq hq
          gi_wp2
          exact am_keep HAM.out hq (by rw [HCH.out, HAR.out, hqa, ← HQ4.out]; simp) HOW.out
        · have hnq : (za != (q4 : Int)) = true := by simp [hqa]
          clear hWz hlk
          refine region_round_below (by kernel_rfl) (by kernel_rfl) (by rfl) ?_
          repeat (quiet_step (exact cA _ _))
          refine wpQuiet_nil ?_
          intro _ hw'
          obtain ⟨⟨dq, osq⟩, hw''⟩ := hw'
          subst hw''
          have hq : Below X.heap.size X (grow (redrawn Wz dq) osq) := hz.trans ((below_regrown Wz dq osq).mono hz.size)
          obtain ⟨Wq, hWq⟩ : ∃ Wq, Wq = grow (redrawn Wz dq) osq := ⟨_, rfl⟩
          rw [← hWq] at hq ⊢
          clear hWq
          obtain ⟨-, -, -, he4, he5, he6, -, -⟩ := HBX.out Wq hq
          gi_wp2
          exact am_stop HR.out hq (by rw [HCH.out, HAR.out, ← HQ4.out]; exact decide_eq_false (fun h => hqa h.symm))
      · have HAR := Lib.hid (show arityR l x.ex.name = -1 by unfold arityR; rw [(hi2 hp1).2])
        clear hit hi1 hi2 hp1 hnd
        gi_wp2_with (gi_at_call 69; refine (at_wide rfl (own_form _ _ _ _ _ _) l2).mono ?_; rintro r w2 ⟨rfl, hb2⟩; rw [HT.out]; obtain ⟨hc1, hc2, hc3, hc4, hc5, hc6, hc7, hc8⟩ := HBX.out w2 hb2; have hlk := HLK.out (w2.alloc (.cells #[.string x.ex.name, .slice A4 q4 c4] 109)) (hb2.trans (((Below.refl _ w2).alloc (Nat.le_refl _) _).mono hb2.size)); have HB2 := Lib.hid hb2; clear hb2)
        obtain ⟨Wz, hWz⟩ : ∃ Wz, Wz = (w2.alloc (.cells #[.string x.ex.name, .slice A4 q4 c4] 109)).alloc (.cells #[.string ⟨#[]⟩, .string ⟨#[]⟩, .slice none 0 0, .slice none 0 0, .int .i64 0, .string ⟨#[]⟩, .slice none 0 0] 34) := ⟨_, rfl⟩
        rw [← hWz]
        have hz : Below X.heap.size X Wz := by rw [hWz]; exact HB2.out.trans ((((Below.refl _ w2).alloc (Nat.le_refl _) _).alloc (by simp) _).mono HB2.out.size)
        clear hWz hlk
        refine region_round_below (by kernel_rfl) (by kernel_rfl) (by rfl) ?_
        repeat (quiet_step (fail))
        refine wpQuiet_nil ?_
        intro _ hw'
        obtain ⟨⟨dq, osq⟩, hw''⟩ := hw'
        subst hw''
        have hq : Below X.heap.size X (grow (redrawn Wz dq) osq) := hz.trans ((below_regrown Wz dq osq).mono hz.size)
        obtain ⟨Wq, hWq⟩ : ∃ Wq, Wq = grow (redrawn Wz dq) osq := ⟨_, rfl⟩
        rw [← hWq] at hq ⊢
        clear hWq
        obtain ⟨-, -, -, he4, he5, he6, -, -⟩ := HBX.out Wq hq
        gi_wp2
        exact am_stop HR.out hq (by rw [HCH.out, HAR.out]; exact decide_eq_false (by omega))
    · by_cases hk2 : x.ex.kind = 2
      · have aK := asCK
        have aC := asCC
        have HT := Lib.hid (show formTy x.ex.kind = 110 by rw [hk2]; rfl)
        have HCH := Lib.hid (show chk l (pre.map It.ex) x.ex = (if 0 ≤ conR x.ex.name l then decide ((x.ex.args.length : Int) = conR x.ex.name l) else chkO x.ex.args.length (((pre.map It.ex).filterMap conOf).find? (isC x.ex.name))) by unfold chk; rw [if_neg hk3, if_pos hk2])
        have HOF := Lib.hid (show ownOf l (pre.map It.ex ++ [x.ex]) = ownOf l (pre.map It.ex) ++ (if conR x.ex.name l < 0 then [(x.ex.name, x.ex.args.length)] else []) by
          unfold ownOf
          rw [List.filterMap_append, List.filter_append]
          congr 1
          by_cases hn : conR x.ex.name l < 0 <;> simp [conOf, hk2, hn])
        clear hk2 hk3
        obtain ⟨vv, bb, -, hit⟩ := HM2.out.look (strT w) Tryz.underlying61 (zeroInt w) (key := .string x.ex.name) ⟨_, rfl⟩ HK2.out
        have HLK := Lib.hid (fun (Y : World) (hY : Below X.heap.size X Y) => (HL2.out Y hY).look_eq (strT Y) Tryz.underlying61 (zeroInt Y) (key := .string x.ex.name) ⟨_, rfl⟩ HK2.out hit)
        rcases HF2.out.hits hit with ⟨p, hp1, rfl, rfl⟩ | ⟨hp1, rfl, rfl⟩
        · have HCR := Lib.hid (show conR x.ex.name l = (p.2 : Int) by rw [conR_find, ← HG.out, first_find _ _ _ hp1]; rfl)
          have HOW := Lib.hid (show ownOf l (pre.map It.ex ++ [x.ex]) = ownOf l (pre.map It.ex) by rw [HOF.out, HCR.out, if_neg (by omega), List.append_nil])
          have HC2 := Lib.hid (show chk l (pre.map It.ex) x.ex = decide ((x.ex.args.length : Int) = (p.2 : Int)) by rw [HCH.out, HCR.out, if_pos (by omega)])
          clear hit hp1
          simp only [cval] at HLK
          by_cases hqa : (p.2 : Int) = (q4 : Int)
          · have hnq : ((p.2 : Int) != (q4 : Int)) = false := by simp [hqa]
            gi_wp2_with (gi_at_call 69; refine (at_wide rfl (own_form _ _ _ _ _ _) l2).mono ?_; rintro r w2 ⟨rfl, hb2⟩; rw [HT.out]; obtain ⟨hc1, hc2, hc3, hc4, hc5, hc6, hc7, hc8⟩ := HBX.out w2 hb2; have hlk := HLK.out (w2.alloc (.cells #[.string x.ex.name, .slice A4 q4 c4] 110)) (hb2.trans (((Below.refl _ w2).alloc (Nat.le_refl _) _).mono hb2.size)); have HB2 := Lib.hid hb2; clear hb2)
            exact am_keep HAM.out (HB2.out.trans (((Below.refl _ w2).alloc (Nat.le_refl _) _).mono HB2.out.size)) (by rw [HC2.out, hqa, ← HQ4.out]; simp) HOW.out
          · have hnq : ((p.2 : Int) != (q4 : Int)) = true := by simp [hqa]
            gi_wp2_with (gi_at_call 69; refine (at_wide rfl (own_form _ _ _ _ _ _) l2).mono ?_; rintro r w2 ⟨rfl, hb2⟩; rw [HT.out]; obtain ⟨hc1, hc2, hc3, hc4, hc5, hc6, hc7, hc8⟩ := HBX.out w2 hb2; have hlk := HLK.out (w2.alloc (.cells #[.string x.ex.name, .slice A4 q4 c4] 110)) (hb2.trans (((Below.refl _ w2).alloc (Nat.le_refl _) _).mono hb2.size)); have HB2 := Lib.hid hb2; clear hb2)
            exact am_stop2 HR.out HB2.out (by rw [HC2.out, ← HQ4.out]; exact decide_eq_false (fun h => hqa h.symm))
        · have HCR := Lib.hid (show conR x.ex.name l = -1 by rw [conR_find, ← HG.out, none_find _ _ hp1]; rfl)
          have HOW := Lib.hid (show ownOf l (pre.map It.ex ++ [x.ex]) = ownOf l (pre.map It.ex) ++ [(x.ex.name, x.ex.args.length)] by rw [HOF.out, HCR.out, if_pos (by omega)])
          have HFS := Lib.hid (own_find' l (pre.map It.ex) x.ex.name (by rw [HCR.out]; omega))
          clear hit hp1
          obtain ⟨vv, bb, -, hit⟩ := HMO.out.look (strT X) Tryz.underlying61 (zeroInt X) (key := .string x.ex.name) ⟨_, rfl⟩ HKO.out
          have HLW2 := Lib.hid (fun (Y : World) (hY : Below X.heap.size X Y) => (HLO.out Y hY).look_eq (strT Y) Tryz.underlying61 (zeroInt Y) (key := .string x.ex.name) ⟨_, rfl⟩ HKO.out hit)
          rcases HFO.out.hits hit with ⟨p, hp1, rfl, rfl⟩ | ⟨hp1, rfl, rfl⟩
          · have HC2 := Lib.hid (show chk l (pre.map It.ex) x.ex = decide (x.ex.args.length = p.2) by rw [HCH.out, HCR.out, if_neg (by omega), ← HFS.out, first_find _ _ _ hp1]; rfl)
            have HHIT := Lib.hid hit
            clear hit hp1
            simp only [cval] at HLW2
            by_cases hqa : (p.2 : Int) = (q4 : Int)
            · have hnq : ((p.2 : Int) != (q4 : Int)) = false := by simp [hqa]
              gi_wp2_with (gi_at_call 69; refine (at_wide rfl (own_form _ _ _ _ _ _) l2).mono ?_; rintro r w2 ⟨rfl, hb2⟩; rw [HT.out]; obtain ⟨hc1, hc2, hc3, hc4, hc5, hc6, hc7, hc8⟩ := HBX.out w2 hb2; have hlk := HLK.out (w2.alloc (.cells #[.string x.ex.name, .slice A4 q4 c4] 110)) (hb2.trans (((Below.refl _ w2).alloc (Nat.le_refl _) _).mono hb2.size)); have hlo := HLW2.out (w2.alloc (.cells #[.string x.ex.name, .slice A4 q4 c4] 110)) (hb2.trans (((Below.refl _ w2).alloc (Nat.le_refl _) _).mono hb2.size)); have HB2 := Lib.hid hb2; clear hb2)
              exact am_same (c := (x.ex.name, x.ex.args.length)) HR.out HO.out HNE.out HOK.out HMO.out HKO.out HFO.out (HB2.out.trans (((Below.refl _ w2).alloc (Nat.le_refl _) _).mono HB2.out.size)) (by rw [HC2.out, ← HQ4.out]; exact decide_eq_true (by omega)) HOW.out HHIT.out
            · have hnq : ((p.2 : Int) != (q4 : Int)) = true := by simp [hqa]
              gi_wp2_with (gi_at_call 69; refine (at_wide rfl (own_form _ _ _ _ _ _) l2).mono ?_; rintro r w2 ⟨rfl, hb2⟩; rw [HT.out]; obtain ⟨hc1, hc2, hc3, hc4, hc5, hc6, hc7, hc8⟩ := HBX.out w2 hb2; have hlk := HLK.out (w2.alloc (.cells #[.string x.ex.name, .slice A4 q4 c4] 110)) (hb2.trans (((Below.refl _ w2).alloc (Nat.le_refl _) _).mono hb2.size)); have hlo := HLW2.out (w2.alloc (.cells #[.string x.ex.name, .slice A4 q4 c4] 110)) (hb2.trans (((Below.refl _ w2).alloc (Nat.le_refl _) _).mono hb2.size)); have HB2 := Lib.hid hb2; clear hb2)
              exact am_stop2 HR.out HB2.out (by rw [HC2.out, ← HQ4.out]; exact decide_eq_false (by omega))
          · have HC2 := Lib.hid (show chk l (pre.map It.ex) x.ex = true by rw [HCH.out, HCR.out, if_neg (by omega), ← HFS.out, none_find _ _ hp1]; rfl)
            have HHIT := Lib.hid hit
            clear hit hp1
            gi_wp2_with (first
              | (gi_at_call 69; refine (at_wide rfl (own_form _ _ _ _ _ _) l2).mono ?_; rintro r w2 ⟨rfl, hb2⟩; rw [HT.out]; obtain ⟨hc1, hc2, hc3, hc4, hc5, hc6, hc7, hc8⟩ := HBX.out w2 hb2; have hlk := HLK.out (w2.alloc (.cells #[.string x.ex.name, .slice A4 q4 c4] 110)) (hb2.trans (((Below.refl _ w2).alloc (Nat.le_refl _) _).mono hb2.size)); have hlo := HLW2.out (w2.alloc (.cells #[.string x.ex.name, .slice A4 q4 c4] 110)) (hb2.trans (((Below.refl _ w2).alloc (Nat.le_refl _) _).mono hb2.size)); have HB2 := Lib.hid hb2; clear hb2)
              | (gi_at_mapUpdate; refine asc_put_in _ rfl _ _ _ 61 rfl 9 3 Tryz.underlying61 StrK (strT _) (w.heap.size + 3) M rfl (HLO.out _ (HB2.out.trans (((Below.refl _ w2).alloc (Nat.le_refl _) _).mono HB2.out.size))) _ _ rfl rfl ⟨_, rfl⟩ HKO.out ?_; intro W5 L2 hmi5 hput5 hgr5; have HM5 := Lib.hid hmi5; have HP5 := Lib.hid hput5; have HG5 := Lib.hid hgr5; clear hmi5 hput5 hgr5))
            exact am_put (c := (x.ex.name, x.ex.args.length)) HR.out HO.out HNE.out HOK.out HMO.out HKO.out HFO.out (HB2.out.trans (((Below.refl _ w2).alloc (Nat.le_refl _) _).mono HB2.out.size)) HC2.out HOW.out HHIT.out HM5.out (by have := HP5.out; rw [HQ4.out] at this; exact this) HG5.out
      · have aK := asK_no x.ex.kind hk3
        have aC := asC_no x.ex.kind hk2
        have HCH := Lib.hid (show chk l (pre.map It.ex) x.ex = true by unfold chk; rw [if_neg hk3, if_neg hk2])
        have HOW := Lib.hid (show ownOf l (pre.map It.ex ++ [x.ex]) = ownOf l (pre.map It.ex) by unfold ownOf; rw [List.filterMap_append]; simp [conOf, hk2])
        clear hk2 hk3
        gi_wp2_with (gi_at_call 69; refine (at_wide rfl (own_form _ _ _ _ _ _) l2).mono ?_; rintro r w2 ⟨rfl, hb2⟩; have HB2 := Lib.hid hb2; clear hb2)
        exact am_keep HAM.out HB2.out HCH.out HOW.out
  case done =>
    rintro D ks Fp X hD hDF hFl hS ⟨rfl, hne, hR, hO, hok, M, hmo, hko, hfo⟩ hFr hK
    have HDT := Lib.hid (show fitE l e e = true by rw [HN.out, ← hS]; exact hok)
    have hrc : X.cell? ⟨w.heap.size + 1 + 1, 0, none⟩ = _ := hR.cell
    have hrf : X.frozen? ⟨w.heap.size + 1 + 1, 0, none⟩ = false := hR.frozen
    have hrl : w.heap.size + 1 + 1 < X.heap.size := hR.lt
    have HR := Lib.hid hR
    have HK := Lib.hid hK
    have HLW := Lib.hid (show Below w.heap.size w X from HX.out.2.1.trans (hFr.below (by simp <;> omega) (by omega)))
    have HDX := Lib.hid (show D ≠ w.heap.size + 2 by omega)
    clear hR hO hok hmo hko hfo hFr hK hS hne
    gi_wp2
    rw [HDT.out]
    exact bool4_end rfl rfl (HR.out.set _) ((Below.heap_setCell _ _ _ _ HDX.out).trans HK.out) HDX.out (by omega) (HLW.out.setCell (p := ⟨w.heap.size + 2, 0, none⟩) (by simp) _)
  case stop =>
    rintro D cc pre Fp X hD hDF hFl hSp ⟨rfl, rfl, hR, hbad⟩ hFr hK
    have HDT := Lib.hid (show fitE l e e = false by
      obtain ⟨t, ht⟩ := hSp
      rw [HN.out, ← ht, okL_app, hbad, Bool.false_and])
    have HR := Lib.hid hR
    have HK := Lib.hid hK
    have HLW := Lib.hid (show Below w.heap.size w X from HX.out.2.1.trans (hFr.below (by simp <;> omega) (by omega)))
    have HDX := Lib.hid (show D ≠ w.heap.size + 2 by omega)
    clear hR hbad hFr hK hSp
    gi_wp2
    rw [HDT.out]
    exact bool4_end rfl rfl HR.out HK.out HDX.out (by omega) HLW.out
end Go.Proofs.YtmndlhbgacgnlaaGreat

namespace Go.Proofs.YtmndlhbgacgnlaaGreat
open Go Go.RowKit Go.Shelf
attribute [local go_sem] Oper.semAt_some

theorem own_met (l : List Ru) (e : Ex) (v : Value) (bs : List Nat) (mb mb2 : Nat) (M1 M2 : List (Value × Value)) (wq : World) (xs : List (Rt wq)) (G : List Cn) (w : World) (hv : ExIs w v e bs) (hb : exSize e ≤ 1099511627776) (hp : ∀ r ∈ l, r.params.length ≤ 1099511627776)
    (h1 : MapIs w mb M1 ∧ (∀ x ∈ M1, StrK x.1) ∧ xs.map Rt.pair = numd 0 l ∧ Firsts rname Rt.val xs M1) (h2 : MapIs w mb2 M2 ∧ (∀ x ∈ M2, StrK x.1) ∧ Firsts ckey cval G M2 ∧ ∀ q, G.find? q = (consAll l).find? q) :
    Calls Tryz.prog 39 #[.agg #[.map (some mb), .map (some mb2)], v] w (RetPost (.bool (fitE l e e)) w) :=
  callsIn_wide.1 (met_in Fence.wide 9 rfl rfl (fun _ => trivial) (Nat.le_refl _) l e v bs mb mb2 M1 M2 wq xs G w hv hb hp h1.1 h1.2.1 h1.2.2.1 h1.2.2.2 h2.1 h2.2.1 h2.2.2.1 h2.2.2.2)
theorem for_cells {w W : World} {A A2 : Option Addr} {m c m2 c2 : Nat} {k : Int} {s : ByteArray} (hb : Below ((w.alloc (.cells #[.slice A m c] 26)).alloc (.cells #[.int .i64 k, .string s, .slice A2 m2 c2] 32)).heap.size ((w.alloc (.cells #[.slice A m c] 26)).alloc (.cells #[.int .i64 k, .string s, .slice A2 m2 c2] 32)) W) :
    W.cell? ⟨w.heap.size, 0, none⟩ = some (.slice A m c) ∧ W.cell? ⟨w.heap.size + 1, 0, none⟩ = some (.int .i64 k) ∧ W.cell? ⟨w.heap.size + 1, 1, none⟩ = some (.string s) ∧ W.cell? ⟨w.heap.size + 1, 2, none⟩ = some (.slice A2 m2 c2) := by
  have h1 : W.heap[w.heap.size]? = some (.cells #[.slice A m c] 26 (0, 0)) := (hb.block _ (by simp; omega)).trans ((Below.heap_alloc _ _ _ (by simp)).trans (World.alloc_heap_new w _))
  have h2 : W.heap[w.heap.size + 1]? = some (.cells #[.int .i64 k, .string s, .slice A2 m2 c2] 32 (0, 0)) := by
    have h9 := World.alloc_heap_new (w.alloc (.cells #[.slice A m c] 26)) (.cells #[.int .i64 k, .string s, .slice A2 m2 c2] 32)
    rw [World.size_alloc] at h9
    exact (hb.block _ (by simp)).trans h9
  exact ⟨by simp [World.cell?, h1], by simp [World.cell?, h2], by simp [World.cell?, h2], by simp [World.cell?, h2]⟩

set_option maxRecDepth 100000 in
set_option maxHeartbeats 2000000 in
theorem own_for (l : List Ru) (e : Ex) (v v2 : Value) (bs b2 : List Nat) (w : World) (hv : PrIs w v l bs) (hv2 : ExIs w v2 e b2) (hfr : Thawed w (bs ++ b2)) (hb : ∀ r ∈ l, exSize r.body ≤ 1099511627776) (hlb : l.length ≤ 1099511627776) (hp : ∀ r ∈ l, r.params.length ≤ 1099511627776) (he : exSize e ≤ 1099511627776) :
    Calls Tryz.prog 12 #[v, v2] w (RetPost (.bool (exFor l e)) w) := by
  have HV := Lib.hid (fun (W : World) (hW : Below w.heap.size w W) => own_valid e v2 b2 W (hv2.below hW) he)
  have HD := Lib.hid (fun (W : World) (hW : Below w.heap.size w W) => own_dem l v bs W (hv.below hW) ((show Thawed w bs from fun x hx => hfr x (by simp [hx])).below hW) hb hlb)
  have HM := Lib.hid (fun (mb mb2 : Nat) (M1 M2 : List (Value × Value)) (wq : World) (xs : List (Rt wq)) (G : List Cn) (W : World) (hW : Below w.heap.size w W) => own_met l e v2 b2 mb mb2 M1 M2 wq xs G W (hv2.below hW) he hp)
  have HE := Lib.hid (show exFor l e = (exValid e && fitE l e e) from rfl)
  obtain ⟨u, rfl, hu⟩ := id hv
  obtain ⟨A, c, rfl, hc1, hc2, -⟩ := id hu
  obtain ⟨u2, rfl, hs2, hu2⟩ := id hv2
  obtain ⟨A2, c2, rfl, -⟩ := id hu2
  generalize hR : exFor l e = R at *
  generalize hva : exValid e = va at *
  generalize fitE l e e = f at *
  obtain ⟨m, hm⟩ : ∃ m, m = l.length := ⟨_, rfl⟩
  obtain ⟨m2, hm2⟩ : ∃ m2, m2 = e.args.length := ⟨_, rfl⟩
  rw [← hm] at HD ⊢
  rw [← hm2] at HV HM ⊢
  have HBX := Lib.hid (fun (W : World) (hb : Below ((w.alloc (.cells #[.slice A m c] 26)).alloc (.cells #[.int .i64 e.kind, .string e.name, .slice A2 m2 c2] 32)).heap.size ((w.alloc (.cells #[.slice A m c] 26)).alloc (.cells #[.int .i64 e.kind, .string e.name, .slice A2 m2 c2] 32)) W) => for_cells hb)
  have HB0 := Lib.hid (((Below.refl _ w).alloc (Nat.le_refl _) (.cells #[.slice A m c] 26)).alloc (by simp) (.cells #[.int .i64 e.kind, .string e.name, .slice A2 m2 c2] 32))
  clear hv hv2 hu hu2 hs2 hfr hb hlb hp he hm hm2 hR hva hc1
  go_enter Tryz.func12, Tryz.ntmps12
  go_wp2_with fail
  obtain ⟨W0, hW0⟩ : ∃ W0, W0 = (w.alloc (.cells #[.slice A m c] 26)).alloc (.cells #[.int .i64 e.kind, .string e.name, .slice A2 m2 c2] 32) := ⟨_, rfl⟩
  rw [← hW0] at HBX HB0 ⊢
  obtain ⟨x0, x1, x2, x3⟩ := HBX.out W0 (Below.refl _ _)
  have HDR := Lib.hid (Below.drew (Below.refl W0.heap.size W0))
  clear hW0
  cases va
  · go_region_law
      (first
      | (go_simp; go_at_call 38; refine (HV.out W0.drew (HB0.out.trans (HDR.out.mono HB0.out.size))).mono ?_; rintro r w1 ⟨rfl, hb1⟩; have HB1 := Lib.hid (HDR.out.trans hb1); clear hb1; obtain ⟨y0, y1, y2, y3⟩ := HBX.out w1 HB1.out))
    all_goals
      go_wp2_with fail
      go_ret
      exact ⟨by rw [HE.out]; rfl, HB0.out.trans (HB1.out.mono HB0.out.size)⟩
  · go_region_law
      (first
      | (go_simp; go_at_call 38; refine (HV.out W0.drew (HB0.out.trans (HDR.out.mono HB0.out.size))).mono ?_; rintro r w1 ⟨rfl, hb1⟩; have HB1 := Lib.hid (HDR.out.trans hb1); clear hb1; obtain ⟨y0, y1, y2, y3⟩ := HBX.out w1 HB1.out)
      | (go_simp; go_at_call 32; refine (HD.out w1 (HB0.out.trans (HB1.out.mono HB0.out.size))).mono ?_; rintro r w2 ⟨mb, mb2, M1, M2, wq, xs, G, rfl, hq1, hq2, hb2⟩; have HQ1 := Lib.hid hq1; have HQ2 := Lib.hid hq2; have HB2 := Lib.hid (HB1.out.trans (hb2.mono HB1.out.size)); clear hb2 hq1 hq2; obtain ⟨z0, z1, z2, z3⟩ := HBX.out w2 HB2.out)
      | (go_simp; go_at_call 39; refine (HM.out mb mb2 M1 M2 wq xs G w2 (HB0.out.trans (HB2.out.mono HB0.out.size)) HQ1.out HQ2.out).mono ?_; rintro r w3 ⟨rfl, hb3⟩; have HB3 := Lib.hid (HB2.out.trans (hb3.mono HB2.out.size)); clear hb3))
    all_goals
      go_wp2_with fail
      go_ret
      exact ⟨by rw [HE.out]; rfl, HB0.out.trans (HB3.out.mono HB0.out.size)⟩
end Go.Proofs.YtmndlhbgacgnlaaGreat
