/- The contract of the program's own appendPairs. Condition: fewer than 2^41 pairs. -/
import Derived.Test.YtmndlhbgacgnlaaOwnJoined
import Derived.Test.YtmndlhbgacgnlaaPush2
import Derived.Test.YtmndlhbgacgnlaaBackIx
namespace Go.Proofs.Ytmndlhbgacgnlaa
open Go Go.RowKit Go.Shelf
attribute [local go_sem] Oper.semAt_some

def ixCells (g1 o1 g2 o2 i : Nat) : List Value := [.pointer (some ⟨g1, o1 + i * 3, none⟩), .pointer (some ⟨g2, o2 + i * 3, none⟩)]
theorem pairs_flat {wo : World} {G : List Nat} {m g1 o1 g2 o2 : Nat} (zs : List (Pr wo G)) (hl : zs.length = m) (hz : ∀ i z, zs[i]? = some z → pcells z = ixCells g1 o1 g2 o2 i) : pflat zs.reverse = ((List.range m).reverse).flatMap (ixCells g1 o1 g2 o2) := by
  have h : zs.map pcells = (List.range m).map (ixCells g1 o1 g2 o2) := by
    apply List.ext_getElem?
    intro i
    rw [List.getElem?_map, List.getElem?_map]
    by_cases hi : i < zs.length
    · rw [List.getElem?_eq_getElem hi, List.getElem?_range (by omega)]
      simp [hz i _ (List.getElem?_eq_getElem hi)]
    · rw [List.getElem?_eq_none (by omega), List.getElem?_eq_none (by simp; omega)]
      rfl
  unfold pflat
  rw [List.flatMap_def, List.flatMap_def, List.map_reverse, List.map_reverse, h]
theorem kids_flat {wo : World} {G : List Nat} (P Q : Pl wo G) {m : Nat} (hm : m = P.exs.length) (hm2 : m = Q.exs.length) : pflat (P.kids.zip Q.kids).reverse = ((List.range m).reverse).flatMap (ixCells P.1.1 P.1.2.1 Q.1.1 Q.1.2.1) := by
  refine pairs_flat _ (by rw [List.length_zip, P.kids_len, Q.kids_len]; omega) (fun i z hz => ?_)
  obtain ⟨x, y⟩ := z
  rw [List.getElem?_zip_eq_some] at hz
  simp only [pcells, ixCells, P.kids_adr hz.1, Q.kids_adr hz.2]
theorem Pl.sl {wo : World} {G : List Nat} (P : Pl wo G) {m c : Nat} (hm : m = P.exs.length) (hc : m ≤ c) (hc2 : c ≤ 9223372036854775807) : ∃ bs, SlIs wo (.slice (some ⟨P.1.1, P.1.2.1, none⟩) m c) P.exs bs := by
  obtain ⟨⟨g, o, l, bs⟩, h1, h2, h3, h4⟩ := P
  subst hm
  refine ⟨g :: bs, _, c, rfl, hc, hc2, Or.inr ⟨g, o, bs, rfl, ?_, rfl, h1⟩⟩
  cases l with
  | nil => exact absurd rfl h4
  | cons e r =>
    simp only at h1
    rw [ExsAt] at h1
    obtain ⟨b1, b2, -, h5, -⟩ := h1
    obtain ⟨u, h6, -⟩ := h5.is
    exact World.block_lt_of_cell? wo _ h6
/-- What the loop holds. -/
def PairI (base B k : Nat) (xs0 : List Value) (g1 o1 g2 o2 : Nat) {wo : World} {m : Nat} (xs : List (Ix wo m)) (Fp : List Nat) (W : World) : Prop :=
  ∃ (AO : Option Addr) (co : Nat), Fp = B :: (Value.ownBlock (.slice AO (k + xs.length) co)).toList ∧ Boxed W B 156 (.slice AO (k + xs.length) co) ∧ W.ownsRow base 155 2 (.slice AO (k + xs.length) co) (k + xs.length) (xs0 ++ (xs.map ixOf).flatMap (ixCells g1 o1 g2 o2))
theorem pair_foot (base B k : Nat) (xs0 : List Value) (g1 o1 g2 o2 : Nat) {wo : World} {m : Nat} (xs : List (Ix wo m)) : Foot (PairI base B k xs0 g1 o1 g2 o2 xs) := by
  rintro Fp A C ⟨AO, co, rfl, h1, h2⟩ _ hk
  exact ⟨AO, co, rfl, box_on h1 (hk _ (by simp)), row_on h2 (fun j hj => hk _ (by simp [hj]))⟩
/-- Behind a push. -/
theorem pair_push {base B k : Nat} {xs0 : List Value} {g1 o1 g2 o2 : Nat} {wo : World} {m : Nat} {pre : List (Ix wo m)} {x : Ix wo m} {AO : Option Addr} {co : Nat} {W W2 : World} (hBl : B < W.heap.size) (h : Push2 base B (k + pre.length) (.slice AO (k + pre.length) co) (xs0 ++ (pre.map ixOf).flatMap (ixCells g1 o1 g2 o2)) (ixCells g1 o1 g2 o2 (ixOf x)) W W2) :
    ∃ Fp2, Fr (B :: (Value.ownBlock (.slice AO (k + pre.length) co)).toList) W W2 ∧ (∀ j ∈ Fp2, (j ∈ B :: (Value.ownBlock (.slice AO (k + pre.length) co)).toList ∨ W.heap.size ≤ j) ∧ j < W2.heap.size) ∧ PairI base B k xs0 g1 o1 g2 o2 (pre ++ [x]) Fp2 W2 := by
  obtain ⟨g, cap, h1, h2, h3, h4, h5⟩ := h
  refine ⟨_, h3, ?_, some ⟨g, 0, none⟩, cap, rfl, (by rw [List.length_append]; exact h1), by rw [List.length_append, List.map_append, List.flatMap_append, ← List.append_assoc, List.length_singleton, ← Nat.add_assoc]; simpa using h2⟩
  intro j hj
  rcases List.mem_cons.1 hj with rfl | hj
  · exact ⟨Or.inl (by simp), Nat.lt_of_lt_of_le hBl h3.size⟩
  · obtain rfl : j = g := by simpa [Value.ownBlock] using hj
    exact ⟨h4.imp (fun e => by simp [e]) id, h5⟩

set_option maxRecDepth 100000 in
set_option maxHeartbeats 2000000 in
theorem pairs_in (F : Fence) (n : Nat) (hFw : F = Fence.wide) (hro : F.round = none) (hF : ∀ k, F.fn k) (hn : 5 ≤ n) {wo : World} {G : List Nat} (P Q : Pl wo G) (m : Nat) (hm : m = P.exs.length) (hm2 : m = Q.exs.length) (ca cb : Nat) (hca : m ≤ ca) (hca2 : ca ≤ 9223372036854775807) (xs0 : List Value) (base k co : Nat) (AO : Option Addr) (w : World) (hlow : Below wo.heap.size wo w) (hbase : wo.heap.size ≤ base) (hbw : base ≤ w.heap.size) (hrow : w.ownsRow base 155 2 (.slice AO k co) k xs0) (hkb : k + m ≤ 2199023255552) :
    CallsIn F n Try.prog 112 #[.slice AO k co, .slice (some ⟨P.1.1, P.1.2.1, none⟩) m ca, .slice (some ⟨Q.1.1, Q.1.2.1, none⟩) m cb] w fun e w2 =>
      ∃ (AO2 : Option Addr) (co2 : Nat), e = .returned (.slice AO2 (k + m) co2) ∧ w2.ownsRow base 155 2 (.slice AO2 (k + m) co2) (k + m) (xs0 ++ pflat (P.kids.zip Q.kids).reverse) ∧ Fr (Value.ownBlock (.slice AO k co)).toList w w2 := by
  obtain ⟨bsP, hslP⟩ := P.sl hm hca hca2
  have HFL := Lib.hid (kids_flat P Q hm hm2)
  obtain ⟨g1, hg1⟩ : ∃ z, z = P.1.1 := ⟨_, rfl⟩
  obtain ⟨o1, ho1⟩ : ∃ z, z = P.1.2.1 := ⟨_, rfl⟩
  obtain ⟨g2, hg2⟩ : ∃ z, z = Q.1.1 := ⟨_, rfl⟩
  obtain ⟨o2, ho2⟩ : ∃ z, z = Q.1.2.1 := ⟨_, rfl⟩
  rw [← hg1, ← ho1] at hslP HFL ⊢
  rw [← hg2, ← ho2] at HFL ⊢
  have HSL := Lib.hid hslP
  have h1 : 1 ≤ n := by omega
  have HFW := Lib.hid hFw
  have HLOW := Lib.hid hlow
  have HROW := Lib.hid hrow
  have HBS := Lib.hid (And.intro hbase hbw)
  have HKB := Lib.hid hkb
  have HWS := Lib.hid hlow.size
  have hmi : (m : Int) ≤ 2199023255552 := by omega
  clear hslP hFw hlow hrow hbase hbw hkb hm hm2 hg1 ho1 hg2 ho2
  refine callsIn_of_wp_marks Try.func112 rfl (hF _) ?_ hro
  simp only [Try.ntmps112, List.size_toArray, List.length_cons, List.length_nil, Nat.reduceAdd, Nat.reduceSub, Array.replicate_succ, Array.replicate_zero, List.push_toArray, List.append_toArray, List.nil_append, List.cons_append]
  gi_wp2_with (gi_at_call 144; refine (backward_in F (n - 1) (hF _) hro _ _ _ _).mono ?_; rintro r w4 ⟨rfl, rfl⟩)
  obtain ⟨Bb, hBb⟩ : ∃ z, z = w.heap.size + 1 + 1 + 1 := ⟨_, rfl⟩
  obtain ⟨W0, hW0⟩ : ∃ W, W = (((w.alloc (.cells #[.slice AO k co] 156)).alloc (.cells #[.slice (some ⟨g1, o1, none⟩) m ca] 24)).alloc (.cells #[.slice (some ⟨g2, o2, none⟩) m cb] 24)).alloc (.cells #[.slice (some ⟨g1, o1, none⟩) m ca] 24) := ⟨_, rfl⟩
  rw [← hW0, ← hBb]
  have HX := Lib.hid (show Below w.heap.size w W0 ∧ W0.heap.size = w.heap.size + 4 ∧ Boxed W0 w.heap.size 156 (.slice AO k co) ∧ Boxed W0 (w.heap.size + 1) 24 (.slice (some ⟨g1, o1, none⟩) m ca) ∧ Boxed W0 (w.heap.size + 1 + 1) 24 (.slice (some ⟨g2, o2, none⟩) m cb) ∧ Boxed W0 Bb 24 (.slice (some ⟨g1, o1, none⟩) m ca) from by
    rw [hW0, hBb]
    obtain ⟨a1, e1⟩ : ∃ a, a = w.alloc (.cells #[.slice AO k co] 156) := ⟨_, rfl⟩
    obtain ⟨a2, e2⟩ : ∃ a, a = a1.alloc (.cells #[.slice (some ⟨g1, o1, none⟩) m ca] 24) := ⟨_, rfl⟩
    obtain ⟨a3, e3⟩ : ∃ a, a = a2.alloc (.cells #[.slice (some ⟨g2, o2, none⟩) m cb] 24) := ⟨_, rfl⟩
    obtain ⟨a4, e4⟩ : ∃ a, a = a3.alloc (.cells #[.slice (some ⟨g1, o1, none⟩) m ca] 24) := ⟨_, rfl⟩
    have s1 : a1.heap.size = w.heap.size + 1 := by rw [e1]; simp
    have s2 : a2.heap.size = w.heap.size + 1 + 1 := by rw [e2]; simp [s1]
    have s3 : a3.heap.size = w.heap.size + 1 + 1 + 1 := by rw [e3]; simp [s2]
    have s4 : a4.heap.size = w.heap.size + 4 := by rw [e4]; simp [s3]
    have n1 := Boxed.new w 156 (.slice AO k co)
    have n2 := Boxed.new a1 24 (.slice (some ⟨g1, o1, none⟩) m ca)
    have n3 := Boxed.new a2 24 (.slice (some ⟨g2, o2, none⟩) m cb)
    have n4 := Boxed.new a3 24 (.slice (some ⟨g1, o1, none⟩) m ca)
    rw [← e1, ← e2, ← e3, ← e4]
    rw [← e1] at n1
    rw [← e2, s1] at n2
    rw [← e3, s2] at n3
    rw [← e4, s3] at n4
    have k2 : ∀ j, j < a1.heap.size → a2.heap[j]? = a1.heap[j]? := fun j h => by rw [e2]; exact Below.heap_alloc _ _ _ h
    have k3 : ∀ j, j < a2.heap.size → a3.heap[j]? = a2.heap[j]? := fun j h => by rw [e3]; exact Below.heap_alloc _ _ _ h
    have k4 : ∀ j, j < a3.heap.size → a4.heap[j]? = a3.heap[j]? := fun j h => by rw [e4]; exact Below.heap_alloc _ _ _ h
    refine ⟨?_, s4, box_on n1 ((k4 _ (by omega)).trans ((k3 _ (by omega)).trans (k2 _ (by omega)))), box_on n2 ((k4 _ (by omega)).trans (k3 _ (by omega))), box_on n3 (k4 _ (by omega)), n4⟩
    rw [e4, e3, e2, e1]
    exact ((((Below.refl _ w).alloc (Nat.le_refl _) _).alloc (by simp) _).alloc (by simp; omega) _).alloc (by simp; omega) _)
  have HBB := Lib.hid hBb
  clear hW0 hBb
  have hws := HWS.out
  have hbs := HBS.out
  have hsz := HX.out.2.1
  have hbb := HBB.out
  have hown : ∀ j, Value.ownBlock (.slice AO k co) = some j → base ≤ j ∧ j < w.heap.size := fun j h => HROW.out.lt j h
  have HOWN := Lib.hid hown
  have HFR0 := Lib.hid (show ∀ X, Fr ((w.heap.size :: (Value.ownBlock (.slice AO k co)).toList) ++ [Bb]) W0 X → Boxed X (w.heap.size + 1) 24 (.slice (some ⟨g1, o1, none⟩) m ca) ∧ Boxed X (w.heap.size + 1 + 1) 24 (.slice (some ⟨g2, o2, none⟩) m cb) from fun X hf => by
    have hn : ∀ z, w.heap.size < z → z < Bb → z ∉ (w.heap.size :: (Value.ownBlock (.slice AO k co)).toList) ++ [Bb] := fun z h1 h2 h3 => by
      simp at h3
      rcases h3 with h3 | h3 | h3
      · omega
      · have := (hown z h3).2; omega
      · omega
    exact ⟨box_on HX.out.2.2.2.1 (hf.block _ (by omega) (hn _ (by omega) (by omega))), box_on HX.out.2.2.2.2.1 (hf.block _ (by omega) (hn _ (by omega) (by omega)))⟩)
  refine wpIn_rangeFunc_frame hro h1 (gf := 165) (lb := #[.pointer (some ⟨Bb, 0, none⟩)]) rfl (hF _) (enters_of Try.func165 (by kernel_rfl) rfl)
    (encs := fun y : Ix wo m => #[.int .i64 (y.1.1.1 : Int), y.1.val]) (n₀ := wo.heap.size) (S := fun xs => xs.map ixOf = (List.range m).reverse) (Sp := fun _ => True) (N := m) (M0 := [Bb]) (w0 := W0)
    (fun l2 J2 Jx2 X hX _ _ hY2 h02 => back_ix F (n - 1) (hF _) hro (by omega) l2 Bb wo (some ⟨g1, o1, none⟩) m ca P.exs bsP HSL.out J2 Jx2 hY2 X ((hX.cell (p := ⟨Bb, 0, none⟩) HX.out.2.2.2.2.2.lt).trans HX.out.2.2.2.2.2.cell) ((HLOW.out.trans (HX.out.1.mono hws)).trans (hX.mono (by omega))) h02)
    (Below.refl _ _) (by omega) (by simp; omega) (fun _ => rfl)
    (PairI base w.heap.size k xs0 g1 o1 g2 o2) (fun _ _ _ _ => False) (pair_foot _ _ _ _ _ _ _ _) (fun _ _ _ _ _ h _ _ => h)
    (w.heap.size :: (Value.ownBlock (.slice AO k co)).toList) ?fp ?start (fun pre x a2 Fp W => PairI base w.heap.size k xs0 g1 o1 g2 o2 pre Fp W ∧ a2 = { tmps := #[.slice AO k co, .slice (some ⟨g1, o1, none⟩) m ca, .slice (some ⟨g2, o2, none⟩) m cb, .pointer (some ⟨w.heap.size, 0, none⟩), .pointer (some ⟨w.heap.size + 1, 0, none⟩), .pointer (some ⟨w.heap.size + 1 + 1, 0, none⟩), .slice none 0 0, .int .i64 (x.1.1.1 : Int), .slice (some ⟨g1, o1, none⟩) m ca, .func (.func 165) #[] #[.pointer (some ⟨Bb, 0, none⟩)], .int .i64 (x.1.1.1 : Int), x.1.val, undef, undef, undef, undef, undef, undef, undef, undef, undef, undef, undef], defers := [] }) (fun xs x a2 Fp A C h h2 h3 => ⟨pair_foot _ _ _ _ _ _ _ _ xs Fp A C h.1 h2 h3, h.2⟩) ?assign ?body ?done ?stop
  case fp =>
    intro j hj
    rcases List.mem_cons.1 hj with rfl | hj
    · exact ⟨by omega, by omega, by simp; omega⟩
    · have := hown j (by simpa using hj)
      exact ⟨by omega, by omega, by simp; omega⟩
  case start =>
    exact ⟨AO, co, rfl, HX.out.2.2.1, by simpa using row_on HROW.out (fun j hj => HX.out.1.block _ (hown j hj).2)⟩
  case assign =>
    intro l2 pre x Fp X KX hI hFp hFr hK
    have HKX := Lib.hid hK
    have HI := Lib.hid hI
    have HFP := Lib.hid hFp
    clear hI hFp hFr hK hbb hsz hown
    gi_wp2
    exact HKX.out _ Fp _ (Fr.refl _ _) (fun j hj => ⟨Or.inl hj, (HFP.out j hj).2⟩) ⟨HI.out, rfl⟩
  case body =>
    rintro l2 pre x _ Fp X ⟨⟨AO2, co2, rfl, hb, hr⟩, rfl⟩ hFp hFr hlen
    obtain ⟨hba, hbb2⟩ := HFR0.out X hFr
    have hXs : base ≤ X.heap.size := by have := hFr.size; omega
    have hfw := HFW.out
    have hix : x.1.1.1 < m := x.2
    have hkk : k + pre.length ≤ 2199023255552 := by have := HKB.out; omega
    subst hfw
    have HPS := Lib.hid (fun (Y : World) (hY : Push2 base w.heap.size (k + pre.length) (.slice AO2 (k + pre.length) co2) (xs0 ++ (pre.map ixOf).flatMap (ixCells g1 o1 g2 o2)) (ixCells g1 o1 g2 o2 (ixOf x)) X Y) => pair_push hb.lt hY)
    have HB := Lib.hid hb
    have HR := Lib.hid hr
    have HBA := Lib.hid hba
    have HBB2 := Lib.hid hbb2
    have HXS := Lib.hid hXs
    have HIX := Lib.hid hix
    have HKK := Lib.hid hkk
    clear hb hr hba hbb2 hXs hix hkk hFp hFr hlen hown hbb hsz
    gi_wp2
    refine region_round (R := Push2 base w.heap.size (k + pre.length) (.slice AO2 (k + pre.length) co2) (xs0 ++ (pre.map ixOf).flatMap (ixCells g1 o1 g2 o2)) (ixCells g1 o1 g2 o2 (ixOf x)) X) (by kernel_rfl) (all_not (by rfl))
      (push2_any "l03_expr.go:238" [] base w.heap.size (w.heap.size + 1) (w.heap.size + 1 + 1) (k + pre.length) co2 m ca cb x.1.1.1 g1 o1 g2 o2 AO2 (xs0 ++ (pre.map ixOf).flatMap (ixCells g1 o1 g2 o2)) X _ _ _ _ _ _ _ _ _ _ _ _ _ _ _ _ _ _ _
        HB.out HBA.out HBB2.out ⟨by omega, by omega⟩ HR.out HXS.out HKK.out HIX.out (fun Y hY => hY)) (fun _ Y hY => ?_)
    exact HPS.out Y hY
  case done =>
    rintro D ks Fp X hD hDF hFl hS ⟨AO2, co2, rfl, hb, hr⟩ hFr hK
    have hlen : ks.length = m := by have := congrArg List.length hS; simpa using this
    rw [hS, ← HFL.out] at hr
    rw [hlen] at hb hr
    have hDl : D < X.heap.size := (Array.getElem?_eq_some_iff.1 hK).1
    have HF := Lib.hid (show ∀ o, Fr (Value.ownBlock (.slice AO k co)).toList w (X.putObj D o) from fun o => by
      refine ((Fr.of_below HX.out.1).trans hFr (fun z hz => ?_)).trans (Fr.put (S := [D]) X _ _ (by simp)) (fun z hz => ?_)
      · simp at hz
        rcases hz with rfl | hz | rfl
        · exact Or.inr (Nat.le_refl _)
        · exact Or.inl (by simp [hz])
        · right; omega
      · simp at hz
        subst hz
        right; omega)
    have HRP := Lib.hid (show ∀ o, (X.putObj D o).ownsRow base 155 2 (.slice AO2 (k + m) co2) (k + m) (xs0 ++ pflat (P.kids.zip Q.kids).reverse) from fun o => row_on hr (fun j hj => ?_))
    rotate_left
    · have hne : j ≠ D := fun e => hDF (by rw [hlen]; simp [← e, hj])
      exact (Fr.put (S := [D]) X D o (by simp)).block j (hr.lt j hj).2 (by simpa using hne)
    have hc := hb.cell
    have hbl := hb.lt
    have HK := Lib.hid hK
    clear hb hr hFr hK hlen hS hDl hFl hDF hbb hsz hown
    gi_wp2
    refine ⟨by simp, .inl ⟨_, _, rfl, run_takeDeferred HK.out, ?_⟩⟩
    first
    | exact ⟨_, results_tmp rfl _ _ _, AO2, co2, rfl, HRP.out _, HF.out _⟩
    | exact ⟨_, results_tmp rfl _ _ _, AO2, ⟨co2, rfl, HRP.out _⟩, HF.out _⟩
    | exact ⟨_, results_tmp rfl _ _ _, ⟨AO2, co2, rfl, HRP.out _⟩, HF.out _⟩
  case stop =>
    rintro D c2 pre2 Fp X _ _ _ _ h _ _
    exact h.elim
theorem own_pairs {wo : World} {G : List Nat} (P Q : Pl wo G) (m : Nat) (hm : m = P.exs.length) (hm2 : m = Q.exs.length) (ca cb : Nat) (hca : m ≤ ca) (hca2 : ca ≤ 9223372036854775807) (xs0 : List Value) (base k co : Nat) (AO : Option Addr) (w : World) (hlow : Below wo.heap.size wo w) (hbase : wo.heap.size ≤ base) (hbw : base ≤ w.heap.size) (hrow : w.ownsRow base 155 2 (.slice AO k co) k xs0) (hkb : k + m ≤ 2199023255552) :
    Calls Try.prog 112 #[.slice AO k co, .slice (some ⟨P.1.1, P.1.2.1, none⟩) m ca, .slice (some ⟨Q.1.1, Q.1.2.1, none⟩) m cb] w fun e w2 =>
      ∃ (AO2 : Option Addr) (co2 : Nat), e = .returned (.slice AO2 (k + m) co2) ∧ w2.ownsRow base 155 2 (.slice AO2 (k + m) co2) (k + m) (xs0 ++ pflat (P.kids.zip Q.kids).reverse) ∧ Fr (Value.ownBlock (.slice AO k co)).toList w w2 :=
  callsIn_wide.1 (pairs_in Fence.wide 5 rfl rfl (fun _ => trivial) (Nat.le_refl _) P Q m hm hm2 ca cb hca hca2 xs0 base k co AO w hlow hbase hbw hrow hkb)
end Go.Proofs.Ytmndlhbgacgnlaa
