/- A part of the proof of the seat's statement: Nest. Condition: as each says. -/
import Derived.Test.YtiaknfnhmoinpaaGreatOwnAlone
import Derived.Test.YtiaknfnhmoinpaaGreatFrame
set_option maxHeartbeats 8000000
namespace Go.Proofs.YtiaknfnhmoinpaaGreat
open Go Go.RowKit
set_option maxRecDepth 100000 in
theorem own_nofree (r : Ru) (v : Value) (b : List Nat) (w : World) (hv : RuIs w v r b) (hz : ruTot r ≤ 1048576) : Calls Tryz.prog 51 #[v] w (RetPost (.bool (within (exVars [] r.body) (r.vars ++ r.params))) w) := by
 obtain ⟨A1, A2, A3, c1, c2, q3, c3, b3, rfl, hop⟩ := ru_opened hv
 obtain ⟨W0, hW0⟩ : ∃ W0, W0 = w.alloc (.cells #[.string r.name, .string r.con, .slice A1 r.vars.length c1, .slice A2 r.params.length c2, .int .i64 r.body.kind, .string r.body.name, .slice A3 q3 c3] 34) := ⟨_, rfl⟩
 rw [← hW0] at hop
 have HP := zH hop
 have HW0 := zH hW0
 have HZ := zH hz
 have HRU := fun (W : World) (hW : Below W0.heap.size W0 W) => (hv.below hop.low).below hW
 have HARG := zH (fun (W : World) (hW : Below W0.heap.size W0 W) => show Calls Tryz.prog 70 #[.agg #[.string r.name, .string r.con, .slice A1 r.vars.length c1, .slice A2 r.params.length c2, .int .i64 r.body.kind, .string r.body.name, .slice A3 q3 c3]] W (StrsPost (r.vars ++ r.params) W) from own_args r _ _ W (HRU W hW) HZ.out)
 have HVARS := zH (fun (W : World) (hW : Below W0.heap.size W0 W) => own_vars r.body _ b3 W (HP.out.bd W hW) (by have := HZ.out; have := (tot_size _).1 r.body (nR _); unfold ruTot at *; omega))
 have HLA := zH (show (r.vars ++ r.params).length ≤ 140737488355328 by have := HZ.out; unfold ruTot ssTot at this; simp; omega)
 have HLV := zH (show (exVars [] r.body).length ≤ 1099511627776 by have h1 := (vars_len _).1 r.body [] (nR _); have := HZ.out; have := (tot_size _).1 r.body (nR _); unfold ruTot at *; simp at h1; omega)
 obtain ⟨x0, x1, x2, x3, x4, x5, x6⟩ := HP.out.box W0 (wB _ _)
 clear hop hv hW0 hz HRU
 go_enter Tryz.func51, Tryz.ntmps51
 go_wp2_with fail
 rw [← HW0.out]
 go_at_call 70
 refine (HARG.out W0 (wB _ _)).mono ?_
 rintro e w3 ⟨v3, rfl, ho3, hb3⟩
 obtain ⟨A8, c8, rfl, hc8, hst⟩ := owned_row ho3
 have HB3 := zH hb3
 obtain ⟨y0, y1, y2, y3, y4, y5, y6⟩ := HP.out.box w3 hb3
 have HIX := zH (fun (s : ByteArray) (W : World) (hW : Below w3.heap.size w3 W) => own_index A8 (r.vars ++ r.params) c8 s W (hst.below hW) HLA.out)
 generalize (r.vars ++ r.params) = zs at *
 generalize zs.length = mz at *
 clear ho3 hb3 hst hc8
 go_wp2_with fail
 go_at_call 71
 refine (HVARS.out w3 HB3.out).mono ?_
 rintro e w4 ⟨v4, rfl, ho4, hb4⟩
 obtain ⟨A9, c9, rfl, hc9, hst⟩ := owned_row ho4
 have HB4 := zH (hb4 : Below w3.heap.size w3 w4)
 have HG := zH (fun (k : Nat) (h : k < (exVars [] r.body).length) => hst.at_ k h)
 generalize (exVars [] r.body) = xs at *
 obtain ⟨m, hm⟩ : ∃ m, m = xs.length := ⟨_, rfl⟩
 rw [← hm] at HLV ⊢
 have HM := zH hm
 have hmi : (m : Int) ≤ 1099511627776 := by have := HLV.out; omega
 clear ho4 hb4 hst hc9 hm
 go_wp2_with fail
 go_loopw [12] (fun i wr => ∃ (k : Nat), k ≤ m ∧ i = .int .i64 (k : Int) ∧ Hid (within xs zs = within (xs.drop k) zs) ∧ Hid (Below w4.heap.size w4 wr)) (fun i _ => m - (intOf i).toNat)
 case atStart => exact ⟨0, Nat.zero_le _, rfl, zH rfl, zH (wB _ _)⟩
 case round =>
  obtain ⟨k, hk, rfl, HK, HBR⟩ := hrel
  have HLO := zH (HP.out.low.trans ((HB3.out.trans ((HB4.out.trans (HBR.out.mono HB4.out.size)).mono HB3.out.size)).mono HP.out.low.size))
  by_cases hlt : k < m
  · obtain ⟨a, e1, hca0, hla⟩ := HG.out k (by rw [← HM.out]; exact hlt)
    have HGN := zH (within_here (xs := xs) (all := zs) (k := k) (List.getElem?_eq_getElem (by rw [← HM.out]; exact hlt)))
    subst e1
    generalize xs[k]'(by rw [← HM.out]; exact hlt) = x at *
    have hca : wr.cell? (a.add k) = some (.string x) := (HBR.out.cell (p := a.add k) (by rw [block_add]; exact hla)).trans hca0
    clear hca0
    have HCX := zH (HIX.out x wr (HB4.out.trans (HBR.out.mono HB4.out.size)))
    have hk0 : (0 : Int) ≤ (k : Int) := by omega
    have hkn : (k : Int) < (m : Int) := by omega
    by_cases hx : 0 ≤ idx zs x
    · have HE := zH (show within xs zs = within (xs.drop (k + 1)) zs by rw [HK.out, HGN.out, decide_eq_true hx, Bool.true_and])
      generalize idx zs x = z at *
      have hx3 : ¬ z < 0 := by omega
      go_wp2_with (go_at_call 72; refine HCX.out.mono ?_; rintro e w5 ⟨rfl, hb5⟩; have HB5 := zH (HBR.out.trans (hb5.mono HBR.out.size)); clear hb5)
      go_roundw
      case rel => exact ⟨k + 1, by omega, by go_num, HE, HB5⟩
      case measure => simp [intOf]; omega
    have HE := zH (show within xs zs = false by rw [HK.out, HGN.out, decide_eq_false hx, Bool.false_and])
    generalize idx zs x = z at *
    have hx2 : z < 0 := by omega
    go_wp2_with (go_at_call 72; refine HCX.out.mono ?_; rintro e w5 ⟨rfl, hb5⟩; have HB5 := zH hb5; clear hb5)
    go_ret
    exact ⟨by rw [HE.out]; rfl, HLO.out.trans (HB5.out.mono HLO.out.size)⟩
  have HE := zH (show within xs zs = true by rw [HK.out, List.drop_eq_nil_of_le (by rw [← HM.out]; omega)]; rfl)
  go_wp2
  go_ret
  exact ⟨by rw [HE.out]; rfl, HLO.out⟩
set_option maxRecDepth 100000 in
theorem own_parts (r : Ru) (v : Value) (b : List Nat) (w : World) (hv : RuIs w v r b) (hz : ruTot r ≤ 1048576) : Calls Tryz.prog 50 #[v] w (RetPost (.bool (rightParts r)) w) := by
 obtain ⟨A1, A2, A3, c1, c2, q3, c3, b3, rfl, hop⟩ := ru_opened hv
 obtain ⟨W0, hW0⟩ : ∃ W0, W0 = w.alloc (.cells #[.string r.name, .string r.con, .slice A1 r.vars.length c1, .slice A2 r.params.length c2, .int .i64 r.body.kind, .string r.body.name, .slice A3 q3 c3] 34) := ⟨_, rfl⟩
 rw [← hW0] at hop
 have HP := zH hop
 have HW0 := zH hW0
 have HZ := zH hz
 have HRU := fun (W : World) (hW : Below W0.heap.size W0 W) => (hv.below hop.low).below hW
 have HARG := zH (fun (W : World) (hW : Below W0.heap.size W0 W) => show Calls Tryz.prog 69 #[.agg #[.string r.name, .string r.con, .slice A1 r.vars.length c1, .slice A2 r.params.length c2, .int .i64 r.body.kind, .string r.body.name, .slice A3 q3 c3]] W (RetPost (.bool (rightArgs r)) W) from own_rightargs r _ _ W (HRU W hW) HZ.out)
 have HVAL := zH (fun (W : World) (hW : Below W0.heap.size W0 W) => own_valid r.body _ b3 W (HP.out.bd W hW) (by have := HZ.out; have := (tot_size _).1 r.body (nR _); unfold ruTot at *; omega))
 have HNAM := zH (own_isname r.name W0)
 have HE := zH (show rightParts r = (isNm r.name && (rightArgs r && exValid r.body)) from rfl)
 obtain ⟨x0, x1, x2, x3, x4, x5, x6⟩ := HP.out.box W0 (wB _ _)
 clear hop hv hW0 hz HRU
 generalize rightParts r = R at *
 generalize hra : rightArgs r = ra at *
 generalize hve : exValid r.body = ve at *
 clear hra hve
 cases hn : isNm r.name
 · have HN := zH (show nameL 97 122 r.name.data.toList = false from hn)
   rw [hn, Bool.false_and] at HE
   clear hn
   go_enter Tryz.func50, Tryz.ntmps50
   go_wp2_with fail
   rw [← HW0.out]
   go_at_call 68
   refine HNAM.out.mono ?_
   rintro e w1 ⟨rfl, hb1⟩
   rw [HN.out]
   have HB1 := zH hb1
   clear hb1
   obtain ⟨y0, y1, y2, y3, y4, y5, y6⟩ := HP.out.box w1 HB1.out
   go_wp2_with fail
   go_ret
   exact ⟨by rw [HE.out]; rfl, HP.out.low.trans (HB1.out.mono HP.out.low.size)⟩
 have HN := zH (show nameL 97 122 r.name.data.toList = true from hn)
 rw [hn, Bool.true_and] at HE
 clear hn
 cases ra
 · rw [Bool.false_and] at HE
   go_enter Tryz.func50, Tryz.ntmps50
   go_wp2_with fail
   rw [← HW0.out]
   go_at_call 68
   refine HNAM.out.mono ?_
   rintro e w1 ⟨rfl, hb1⟩
   rw [HN.out]
   have HB1 := zH hb1
   clear hb1
   obtain ⟨y0, y1, y2, y3, y4, y5, y6⟩ := HP.out.box w1 HB1.out
   go_wp2_with (first | (go_at_call 69; refine (HARG.out w1 HB1.out).mono ?_; rintro e w2 ⟨rfl, hb2⟩; have HB2 := zH (HB1.out.trans (hb2.mono HB1.out.size)); clear hb2; obtain ⟨z0, z1, z2, z3, z4, z5, z6⟩ := HP.out.box w2 HB2.out))
   go_ret
   exact ⟨by rw [HE.out]; rfl, HP.out.low.trans (HB2.out.mono HP.out.low.size)⟩
 rw [Bool.true_and] at HE
 go_enter Tryz.func50, Tryz.ntmps50
 go_wp2_with fail
 rw [← HW0.out]
 go_at_call 68
 refine HNAM.out.mono ?_
 rintro e w1 ⟨rfl, hb1⟩
 rw [HN.out]
 have HB1 := zH hb1
 clear hb1
 obtain ⟨y0, y1, y2, y3, y4, y5, y6⟩ := HP.out.box w1 HB1.out
 go_wp2_with (first | (go_at_call 69; refine (HARG.out w1 HB1.out).mono ?_; rintro e w2 ⟨rfl, hb2⟩; have HB2 := zH (HB1.out.trans (hb2.mono HB1.out.size)); clear hb2; obtain ⟨z0, z1, z2, z3, z4, z5, z6⟩ := HP.out.box w2 HB2.out) | (go_at_call 32; refine (HVAL.out w2 HB2.out).mono ?_; rintro e w3 ⟨rfl, hb3⟩; have HB3 := zH (HB2.out.trans (hb3.mono HB2.out.size)); clear hb3))
 go_ret
 exact ⟨by rw [HE.out]; rfl, HP.out.low.trans (HB3.out.mono HP.out.low.size)⟩
set_option maxRecDepth 100000 in
theorem own_alone (r : Ru) (v : Value) (b : List Nat) (w : World) (hv : RuIs w v r b) (hz : ruTot r ≤ 1048576) : Calls Tryz.prog 24 #[v] w (RetPost (.bool (aloneOk r)) w) := by
 obtain ⟨A1, A2, A3, c1, c2, q3, c3, b3, rfl, hop⟩ := ru_opened hv
 obtain ⟨W0, hW0⟩ : ∃ W0, W0 = w.alloc (.cells #[.string r.name, .string r.con, .slice A1 r.vars.length c1, .slice A2 r.params.length c2, .int .i64 r.body.kind, .string r.body.name, .slice A3 q3 c3] 34) := ⟨_, rfl⟩
 rw [← hW0] at hop
 have HP := zH hop
 have HW0 := zH hW0
 have HZ := zH hz
 have HRU := fun (W : World) (hW : Below W0.heap.size W0 W) => (hv.below hop.low).below hW
 have HARG := zH (fun (W : World) (hW : Below W0.heap.size W0 W) => show Calls Tryz.prog 50 #[.agg #[.string r.name, .string r.con, .slice A1 r.vars.length c1, .slice A2 r.params.length c2, .int .i64 r.body.kind, .string r.body.name, .slice A3 q3 c3]] W (RetPost (.bool (rightParts r)) W) from own_parts r _ _ W (HRU W hW) HZ.out)
 have HFRE := zH (fun (W : World) (hW : Below W0.heap.size W0 W) => show Calls Tryz.prog 51 #[.agg #[.string r.name, .string r.con, .slice A1 r.vars.length c1, .slice A2 r.params.length c2, .int .i64 r.body.kind, .string r.body.name, .slice A3 q3 c3]] W (RetPost (.bool (within (exVars [] r.body) (r.vars ++ r.params))) W) from own_nofree r _ _ W (HRU W hW) HZ.out)
 have HE := zH (show aloneOk r = (rightParts r && within (exVars [] r.body) (r.vars ++ r.params)) from rfl)
 obtain ⟨x0, x1, x2, x3, x4, x5, x6⟩ := HP.out.box W0 (wB _ _)
 clear hop hv hW0 hz HRU
 generalize aloneOk r = R at *
 generalize hra : rightParts r = ra at *
 generalize hve : within (exVars [] r.body) (r.vars ++ r.params) = ve at *
 clear hra hve
 cases ra
 · rw [Bool.false_and] at HE
   go_enter Tryz.func24, Tryz.ntmps24
   go_wp2_with fail
   rw [← HW0.out]
   go_at_call 50
   refine (HARG.out W0 (wB _ _)).mono ?_
   rintro e w1 ⟨rfl, hb1⟩
   have HB1 := zH hb1
   clear hb1
   obtain ⟨y0, y1, y2, y3, y4, y5, y6⟩ := HP.out.box w1 HB1.out
   go_wp2_with fail
   go_ret
   exact ⟨by rw [HE.out]; rfl, HP.out.low.trans (HB1.out.mono HP.out.low.size)⟩
 rw [Bool.true_and] at HE
 go_enter Tryz.func24, Tryz.ntmps24
 go_wp2_with fail
 rw [← HW0.out]
 go_at_call 50
 refine (HARG.out W0 (wB _ _)).mono ?_
 rintro e w1 ⟨rfl, hb1⟩
 have HB1 := zH hb1
 clear hb1
 obtain ⟨y0, y1, y2, y3, y4, y5, y6⟩ := HP.out.box w1 HB1.out
 go_wp2_with (first | (go_at_call 51; refine (HFRE.out w1 HB1.out).mono ?_; rintro e w2 ⟨rfl, hb2⟩; have HB2 := zH (HB1.out.trans (hb2.mono HB1.out.size)); clear hb2))
 go_ret
 exact ⟨by rw [HE.out]; rfl, HP.out.low.trans (HB2.out.mono HP.out.low.size)⟩
variable {F : Fence} {n : Nat} {P : Program}
def nestPost {α : Type} (I : List α → List Nat → World → Prop) (Ix : Code → List α → List Nat → World → Prop) (n₀ : Nat) (xs : List α) (M : List Nat) (W : World) : Exit → Act → World → Prop
 | .normal, _, W2 => I xs M W2 ∧ Kept n₀ M W W2
 | .ret, _, W2 => Ix .ret xs M W2 ∧ Kept n₀ M W W2
 | .exit id, _, W2 => Ix (.exit id) xs M W2 ∧ Kept n₀ M W W2
 | .goto t, _, W2 => Ix (.goto t) xs M W2 ∧ Kept n₀ M W W2
 | .panic _, _, _ => False
 | .outgrown, _, _ => False
theorem wpIn_rangeFunc_nest {α : Type} {g : Operand} {ps : Array Tmp} {assign body : Code} {Q : Exit → Act → World → Prop} {a : Act} {w : World}
 (hro : F.round = none) (h1 : 1 ≤ n) {gf : Nat} {lb : Array Value} (hg : a.eval g = .func (.func gf) #[] lb) (hFg : F.fn gf) (eg : ∀ args w, (callFunc gf args).run P w = .ok (.enter gf args) w)
 {encs : α → Array Value} {n₀ : Nat} {S Sp : List α → Prop} {N : Nat} {M0 : List Nat} {w0 : World} (hseq : SeqF F (n - 1) P gf lb encs n₀ S Sp N M0 w0)
 (hb0 : Below w0.heap.size w0 w) (hn0 : n₀ ≤ w.heap.size) (hps : ∀ x, (encs x).size = ps.size)
 (I : List α → List Nat → World → Prop) (Ix : Code → List α → List Nat → World → Prop) (hI : Minds I) (hIx : ∀ c, Minds (Ix c))
 (M1 : List Nat) (h0 : I [] M1 w) (hM01 : ∀ k ∈ M0, k ∈ M1) (hM1 : ∀ k ∈ M1, n₀ ≤ k ∧ k < w.heap.size)
 (Ax : Nat → List α → α → Act → World → Prop) (hAx : ∀ b xs x a2 A l o, Ax b xs x a2 A → l < b → Ax b xs x a2 (A.putObj l o))
 (hassign : ∀ (l : Nat) (pre : List α) (x : α) (W : World) (K : Act → World → Prop), (∀ a2 W2, Fr [] W W2 → Ax W.heap.size pre x a2 W2 → K a2 W2) →
  assign.wpIn (F.inRound l) (n - 1 - 1) P (Exit.then K (fun _ _ _ => False)) { tmps := (ps.zip (encs x)).foldl (fun t (p, v) => t.setIfInBounds p v) a.tmps, defers := [] } W)
 (hbody : ∀ (l b : Nat) (pre : List α) (x : α) (a2 : Act) (M : List Nat) (W : World), I pre M W → Ax b pre x a2 W → (∀ k ∈ M, n₀ ≤ k ∧ k < b) → b ≤ W.heap.size → Below n₀ w W → pre.length < N →
  body.wpIn (F.inRound l) (n - 1 - 1) P (nestPost I Ix n₀ (pre ++ [x]) M W) a2 W)
 (hdone : ∀ (D : Nat) (xs : List α) (M : List Nat) (W : World), w.heap.size ≤ D → D ∈ M → (∀ k ∈ M, n₀ ≤ k ∧ k < W.heap.size) → S xs → I xs M W → Below n₀ w W → W.heap[D]? = some (.deferred (some [])) → Q .normal { a with defers := { target := .collected D, args := #[] } :: a.defers } W)
 (hstop : ∀ (D : Nat) (c : Code) (pre : List α) (M : List Nat) (W : World), w.heap.size ≤ D → D ∈ M → (∀ k ∈ M, n₀ ≤ k ∧ k < W.heap.size) → Sp pre → Ix c pre M W → Below n₀ w W → W.heap[D]? = some (.deferred (some [])) → c.wpIn F n P Q { a with defers := { target := .collected D, args := #[] } :: a.defers } W) :
 (Code.rangeFunc g ps assign body).wpIn F n P Q a w := by
 refine wpIn_rangeFunc fun fn hfn => ?_
 rw [hro]
 obtain ⟨lr, hlr⟩ : ∃ lr : LoopState → Option Code → Loop, ∀ st pe, lr st pe = { state := st, pending := pe, fn, tmps := a.tmps, params := ps, assign, body, defers := w.heap.size } := ⟨_, fun _ _ => rfl⟩
 obtain ⟨X, hX⟩ : ∃ X, X = (w.alloc (.deferred (some []))).alloc (.loop (lr .ready none)) := ⟨_, rfl⟩
 have hsX : X.heap.size = w.heap.size + 2 := by rw [hX]; simp
 have hXl : X.heap[w.heap.size + 1]? = some (.loop (lr .ready none)) := by
  have := World.alloc_heap_new (w.alloc (.deferred (some []))) (.loop (lr .ready none))
  rw [World.size_alloc, ← hX] at this
  exact this
 have hXd : X.heap[w.heap.size]? = some (.deferred (some [])) := by
  rw [hX]; exact (Below.heap_alloc _ _ _ (by simp)).trans (World.alloc_heap_new w _)
 have hwX : Below w.heap.size w X := by
  rw [hX]; exact ((wB _ w).alloc (nR _) _).alloc (by simp) _
 let Jn : (List α → List Nat → World → Prop) → (World → Prop) → List α → List Nat → World → Prop := fun G L pre M W =>
  ∃ M', G pre M' W ∧ (∀ k ∈ M, k ∈ M') ∧ w.heap.size ∈ M' ∧ w.heap.size + 1 ∈ M' ∧ w.heap.size ∉ M ∧ w.heap.size + 1 ∉ M ∧ (∀ k ∈ M', n₀ ≤ k ∧ (k ∈ M ∨ k < W.heap.size)) ∧ w.heap.size + 1 < W.heap.size ∧ L W ∧ W.heap[w.heap.size]? = some (.deferred (some [])) ∧ Below n₀ w W
 have hminds : ∀ (G : List α → List Nat → World → Prop) (L : World → Prop), Minds G → (∀ A B : World, L A → B.heap[w.heap.size + 1]? = A.heap[w.heap.size + 1]? → L B) → Minds (Jn G L) := by
  intro G L hG hL pre M M2 A B ⟨M', g1, g2, g3, g4, g5, g6, g7, g8, g9, g10, g11⟩ hf hm
  have hfM : Fr M' A B := hf.mono (fun k hk => Or.inl (g2 k hk))
  have hn : ∀ k, k < A.heap.size → k ∉ M → k ∉ M2 := fun k hk hn hk2 => (hm k hk2).elim hn (fun h => by omega)
  refine ⟨M2 ++ M'.filter (fun k => decide (k < A.heap.size)), hG _ _ _ _ _ g1 hfM (fun k hk => ?_), fun k hk => by simp [hk], by simp [g3]; omega, by simp [g4]; omega, hn _ (by omega) g5, hn _ (by omega) g6, fun k hk => ?_, nL g8 hf.size, hL A B g9 (hf.block _ g8 g6), (hf.block _ (by omega) g5).trans g10, ?_⟩
  · simp only [List.mem_append, List.mem_filter] at hk
    rcases hk with hk | hk
    · exact (hm k hk).imp (g2 k) id
    exact Or.inl hk.1
  · simp only [List.mem_append, List.mem_filter, decide_eq_true_eq] at hk
    have hAw := g11.size
    rcases hk with hk | hk
    · refine ⟨?_, Or.inl hk⟩
      rcases hm k hk with h | h
      · exact (g7 k (g2 k h)).1
      omega
    exact ⟨(g7 k hk.1).1, Or.inr (nL hk.2 hf.size)⟩
  exact g11.trans (hfM.below (fun k hk => (g7 k hk).1) (nT hn0 g11.size))
 let L1 : World → Prop := fun W => W.heap[w.heap.size + 1]? = some (.loop (lr .ready none))
 refine ⟨w.heap.size + 1, [{ target := .collected w.heap.size, args := #[] }], X, { target := .fn (.func gf) lb, args := #[.func (.yield (w.heap.size + 1)) #[] #[]] }, X, gf,
  #[.func (.yield (w.heap.size + 1)) #[] #[]] ++ lb, X, ?_, ?_, ?_, ?_, fun _ => h1, ?_⟩
 · rw [hX, hlr]; exact run_enterLoop_outer _ _ _ _ _
 · simp only [resolve, hg]
   simp [go_sem]
 · intro f2 hf2; simp [Target.leads] at hf2; subst hf2; exact hFg
 · simp [invoke, go_sem, eg]
 refine (hseq (w.heap.size + 1) (Jn I L1)
  (fun pre M W => ∃ c, Jn (Ix c) (fun W => W.heap[w.heap.size + 1]? = some (.loop (lr .done (some c)))) pre M W)
  X (hb0.trans (hwX.mono hb0.size))
  (hminds _ _ hI (fun A B h e => e.trans h))
  (fun pre M M2 A B ⟨c, h⟩ hf hm => ⟨c, hminds _ _ (hIx c) (fun A B h e => e.trans h) pre M M2 A B h hf hm⟩)
  ?_ ?_).mono ?_
 · -- one round
   rintro pre x M W ⟨M', g1, g2, g3, g4, g5, g6, g7, g8, hl, g10, g11⟩ hMs hlen
   have hM' : ∀ k ∈ M', n₀ ≤ k ∧ k < W.heap.size := fun k hk => ⟨(g7 k hk).1, (g7 k hk).2.elim (hMs k) id⟩
   have hy := run_yield (P := P) (args := encs x) hl (by rw [hlr]; exact hps x)
   rw [hlr] at hy
   refine ⟨fn, _, assign, body, hy, roundIn_of_wpIn hfn (hassign _ pre x W _ ?_)⟩
   intro a2 W2 hfr2 hax
   have hs2 := hfr2.size
   have hl2 := (hfr2.block _ g8 (by simp)).trans hl
   have hd2 := (hfr2.block _ (by omega) (by simp)).trans g10
   refine ⟨_, run_beginRound hl2 (by rw [hlr]), ?_⟩
   obtain ⟨W3, hW3⟩ : ∃ W3, W3 = W2.putObj (w.heap.size + 1) (.loop { lr .ready none with state := .busy }) := ⟨_, rfl⟩
   rw [← hW3]
   have hs3 : W3.heap.size = W2.heap.size := by rw [hW3]; simp
   have ho3 : ∀ k, k ≠ w.heap.size + 1 → W3.heap[k]? = W2.heap[k]? := fun k hk => by rw [hW3]; exact World.putObj_heap_other hk
   have hl3 : W3.heap[w.heap.size + 1]? = some (.loop { lr .ready none with state := .busy }) := by rw [hW3]; exact World.putObj_heap_same (by omega)
   have hf13 : Fr M' W W3 := (hfr2.mono (fun k hk => by cases hk)).trans (T := [w.heap.size + 1]) (by rw [hW3]; exact Fr.put W2 _ _ (by simp)) (fun k hk => by simp at hk; subst hk; exact Or.inl g4)
   have hI3 := hI _ _ _ _ _ g1 hf13 (fun k hk => Or.inl hk)
   have hB3 : Below n₀ w W3 := g11.trans (hf13.below (fun k hk => (hM' k hk).1) (nT hn0 g11.size))
   refine wpIn_mono (hbody _ W.heap.size pre x a2 M' W3 hI3 (by rw [hW3]; exact hAx _ _ _ _ _ _ _ hax g8) hM' (by omega) hB3 hlen) ?_
   have fin : ∀ (jump : Option Code) (W4 : World), Kept n₀ M' W3 W4 →
    (Instr.endRound (w.heap.size + 1) jump).run P W4 = .ok (.bool jump.isNone) (W4.putObj (w.heap.size + 1) (.loop (lr (if jump.isNone then .ready else .done) jump))) ∧
    ∀ G : List α → List Nat → World → Prop, Minds G → G (pre ++ [x]) M' W4 →
     Jn G (fun W => W.heap[w.heap.size + 1]? = some (.loop (lr (if jump.isNone then .ready else .done) jump))) (pre ++ [x]) M (W4.putObj (w.heap.size + 1) (.loop (lr (if jump.isNone then .ready else .done) jump))) ∧
     Kept n₀ M W (W4.putObj (w.heap.size + 1) (.loop (lr (if jump.isNone then .ready else .done) jump))) := by
    intro jump W4 hk4
    have hl4 := (hk4.2 _ g4).trans hl3
    have hd4 := (hk4.2 _ g3).trans ((ho3 _ (by omega)).trans hd2)
    have hr := run_endRound (P := P) jump hl4
    rw [hlr] at hr ⊢
    have hlt4 : w.heap.size + 1 < W4.heap.size := (Array.getElem?_eq_some_iff.1 hl4).1
    obtain ⟨W5, hW5⟩ : ∃ W5, W5 = W4.putObj (w.heap.size + 1) (.loop (lr (if jump.isNone then .ready else .done) jump)) := ⟨_, rfl⟩
    rw [hlr] at hW5
    have ho5 : ∀ k, k ≠ w.heap.size + 1 → W5.heap[k]? = W4.heap[k]? := fun k hk => by rw [hW5]; exact World.putObj_heap_other hk
    have hs5 : W5.heap.size = W4.heap.size := by rw [hW5]; simp
    have hs4 := hk4.1.size
    have hf45 : Fr [w.heap.size + 1] W4 W5 := by rw [hW5]; exact Fr.put W4 _ _ (by simp)
    have hB5 : Below n₀ W4 W5 := hf45.below (by simp; omega) (by omega)
    refine ⟨hr, ?_⟩
    rw [← hW5]
    intro G hG hg4
    refine ⟨⟨M', hG _ _ _ _ _ hg4 (hf45.mono (fun k hk => by simp at hk; subst hk; exact Or.inl g4)) (fun k hk => Or.inl hk), g2, g3, g4, g5, g6, fun k hk => ⟨(hM' k hk).1, Or.inr (by have := (hM' k hk).2; omega)⟩, by omega, by rw [hW5]; exact World.putObj_heap_same hlt4, (ho5 _ (by omega)).trans hd4, (hB3.trans hk4.1).trans hB5⟩, ?_, fun k hk => ?_⟩
    · exact ((hf13.below (fun k hk => (hM' k hk).1) (by omega)).trans hk4.1).trans hB5
    have hkl : k ≠ w.heap.size + 1 := fun e => g6 (e ▸ hk)
    exact (ho5 k hkl).trans ((hk4.2 k (g2 k hk)).trans ((ho3 k hkl).trans (hfr2.block k (hMs k hk) (by simp))))
   rintro e a4 W4 hp
   cases e with
   | normal =>
    obtain ⟨q1, q2⟩ := hp
    obtain ⟨r1, r2⟩ := fin none W4 q2
    obtain ⟨r3, r4⟩ := r2 I hI q1
    exact ⟨_, _, r1, .inl ⟨rfl, r3, r4⟩⟩
   | ret =>
    obtain ⟨q1, q2⟩ := hp
    obtain ⟨r1, r2⟩ := fin (some .ret) W4 q2
    obtain ⟨r3, r4⟩ := r2 (Ix .ret) (hIx _) q1
    exact ⟨_, _, r1, .inr ⟨rfl, ⟨.ret, r3⟩, r4⟩⟩
   | exit id =>
    obtain ⟨q1, q2⟩ := hp
    obtain ⟨r1, r2⟩ := fin (some (.exit id)) W4 q2
    obtain ⟨r3, r4⟩ := r2 (Ix (.exit id)) (hIx _) q1
    exact ⟨_, _, r1, .inr ⟨rfl, ⟨.exit id, r3⟩, r4⟩⟩
   | goto t =>
    obtain ⟨q1, q2⟩ := hp
    obtain ⟨r1, r2⟩ := fin (some (.goto t)) W4 q2
    obtain ⟨r3, r4⟩ := r2 (Ix (.goto t)) (hIx _) q1
    exact ⟨_, _, r1, .inr ⟨rfl, ⟨.goto t, r3⟩, r4⟩⟩
   | panic ch => exact hp.elim
   | outgrown => exact hp.elim
 · refine ⟨(w.heap.size + 1) :: w.heap.size :: M1, hI _ _ _ _ _ h0 (Fr.of_below hwX) (fun k hk => ?_), fun k hk => by simp [hM01 k hk], by simp, by simp, fun h => by have := (hM1 _ (hM01 _ h)).2; omega, fun h => by have := (hM1 _ (hM01 _ h)).2; omega, fun k hk => ?_, by omega, hXl, hXd, hwX.mono hn0⟩
   · simp at hk
     rcases hk with rfl | rfl | hk
     · exact Or.inr (by omega)
     · exact Or.inr (nR _)
     exact Or.inl hk
   simp at hk
   rcases hk with rfl | rfl | hk
   · exact ⟨by omega, Or.inr (by omega)⟩
   · exact ⟨hn0, Or.inr (by omega)⟩
   exact ⟨(hM1 k hk).1, Or.inr (by have := (hM1 k hk).2; omega)⟩
 -- behind the iterator
 have leave : ∀ (G : List α → List Nat → World → Prop) (st : LoopState) (pe : Option Code) (xs : List α) (M : List Nat) (W : World), Minds G → Jn G (fun W => W.heap[w.heap.size + 1]? = some (.loop (lr st pe))) xs M W → st ≠ .busy →
  ∃ M2 W2, (Instr.endLoop (w.heap.size + 1)).run P W = .ok pe W2 ∧ G xs M2 W2 ∧ w.heap.size ∈ M2 ∧ (∀ k ∈ M2, n₀ ≤ k ∧ k < W2.heap.size) ∧ Below n₀ w W2 ∧ W2.heap[w.heap.size]? = some (.deferred (some [])) := by
  rintro G st pe xs M W hG ⟨M', g1, g2, g3, g4, g5, g6, g7, g8, hl, g10, g11⟩ hst
  have hr := run_endLoop (P := P) hl (by rw [hlr]; exact hst)
  rw [hlr] at hr
  refine ⟨M'.filter (fun k => decide (k < W.heap.size)), _, hr, hG _ _ _ _ _ g1 (Fr.put W _ _ g4) (fun k hk => Or.inl ((List.mem_filter.1 hk).1)), by simp [g3]; omega, fun k hk => ?_, g11.trans ((Fr.put (S := [w.heap.size + 1]) W _ _ (by simp)).below (by simp; omega) (nT hn0 g11.size)), (World.putObj_heap_other (by omega)).trans g10⟩
  simp only [List.mem_filter, decide_eq_true_eq] at hk
  exact ⟨(g7 k hk.1).1, by simp; exact hk.2⟩
 rintro e W2 ⟨⟨v, rfl⟩, (⟨xs, M, hS, hj⟩ | ⟨pre, M, hSp, c, hj⟩)⟩
 · obtain ⟨M2, W4, r1, r2, r3, r4, r5, r6⟩ := leave I .ready none xs M W2 hI hj (by simp)
   exact ⟨none, W4, r1, hdone _ xs M2 W4 (nR _) r3 r4 hS r2 r5 r6⟩
 obtain ⟨M2, W4, r1, r2, r3, r4, r5, r6⟩ := leave (Ix c) .done (some c) pre M W2 (hIx c) hj (by simp)
 exact ⟨some c, W4, r1, hstop _ c pre M2 W4 (nR _) r3 r4 hSp r2 r5 r6⟩
end Go.Proofs.YtiaknfnhmoinpaaGreat
