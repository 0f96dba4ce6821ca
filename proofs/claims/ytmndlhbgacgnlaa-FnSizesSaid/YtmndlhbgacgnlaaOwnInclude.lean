/- The contract of the program's own include. Conditions: fewer than 2^40 nodes; no string shares the memory of the expressions. -/
import Derived.Test.YtmndlhbgacgnlaaOwnInc
import Derived.Deep.RegionLaw
namespace Go.Proofs.Ytmndlhbgacgnlaa
open Go Go.RowKit

theorem inc_box_at {w0 W : World} {e : Ex} {u : Value} {bs : List Nat} {B : Nat} (h : ExIs w0 (.agg #[.int .i64 e.kind, .string e.name, u]) e bs) (hb : Below w0.heap.size w0 W) (hx : W.heap[B]? = some (.cells #[.int .i64 e.kind, .string e.name, u] 26 (0, 0))) : ExAt W B 0 e bs :=
  ExAt.mk (u := u) (by simp [World.cell?, hx]) (by simp [World.cell?, hx]) (by simp [World.cell?, hx]) (h.below hb)
/-- Where the loop begins. -/
theorem inc_start {wo : World} {G : List Nat} (a b : Ex) (A A2 : Option Addr) (m m2 c c2 : Nat) (bs bs2 : List Nat) (kq N : Nat) (mo : Option Nat) (w w1 W : World) (hv : ExIs wo (.agg #[.int .i64 a.kind, .string a.name, .slice A m c]) a bs) (hv2 : ExIs wo (.agg #[.int .i64 b.kind, .string b.name, .slice A2 m2 c2]) b bs2) (hG : ∀ z ∈ bs ++ bs2, z ∈ G) (hGl : ∀ z ∈ G, z < wo.heap.size) (hst : EqSt (wo := wo) (G := G) [] kq N mo w) (hlow : Below wo.heap.size wo w) (hkq : wo.heap.size ≤ kq)
    (h1 : w1 = (w.alloc (.cells #[.int .i64 a.kind, .string a.name, .slice A m c] 26)).alloc (.cells #[.int .i64 b.kind, .string b.name, .slice A2 m2 c2] 26))
    (hW : W = w1.alloc (.cells #[.pointer (some ⟨w.heap.size, 0, none⟩), .pointer (some ⟨w.heap.size + 1, 0, none⟩)] 155)) :
    ∃ (G1 : List Nat) (p : Pr w1 G1), (∀ z ∈ G, z ∈ G1) ∧ Below wo.heap.size wo w1 ∧ w1.heap.size = w.heap.size + 1 + 1 ∧ weigh [p] = exSize a ∧ IncW wo w w1 G1 kq ∧ Inc w w1 G1 a b kq N mo 1 (some ⟨w.heap.size + 1 + 1, 0, none⟩) 1 N mo ([] : List (Pl wo G × Pl wo G)) [p] W := by
  have hs1 : w1.heap.size = w.heap.size + 1 + 1 := by rw [h1]; simp
  have hb : Below w.heap.size w w1 := by rw [h1]; exact ((Below.refl _ w).alloc (Nat.le_refl _) _).alloc (by simp) _
  have hb1 : Below wo.heap.size wo w1 := hlow.trans (hb.mono hlow.size)
  have hbW : Below w1.heap.size w1 W := by rw [hW]; exact (Below.refl _ w1).alloc (Nat.le_refl _) _
  have x0 : w1.heap[w.heap.size]? = some (.cells #[.int .i64 a.kind, .string a.name, .slice A m c] 26 (0, 0)) := by
    rw [h1]; exact (Below.heap_alloc _ _ _ (by simp)).trans (World.alloc_heap_new w _)
  have x1 : w1.heap[w.heap.size + 1]? = some (.cells #[.int .i64 b.kind, .string b.name, .slice A2 m2 c2] 26 (0, 0)) := by
    rw [h1]
    have := World.alloc_heap_new (w.alloc (.cells #[.int .i64 a.kind, .string a.name, .slice A m c] 26)) (.cells #[.int .i64 b.kind, .string b.name, .slice A2 m2 c2] 26)
    rw [World.size_alloc] at this
    exact this
  have arg : ∀ (e : Ex) (A : Option Addr) (m c : Nat) (bs : List Nat), ExIs wo (.agg #[.int .i64 e.kind, .string e.name, .slice A m c]) e bs → (∀ z ∈ bs, z ∈ G) → m = e.args.length ∧ m ≤ c ∧ c ≤ 9223372036854775807 ∧ (e.args = [] ∨ ∃ p : Pl wo G, A = some ⟨p.1.1, p.1.2.1, none⟩ ∧ p.exs = e.args) := by
    intro e A m c bs h hg
    obtain ⟨u', e1, -, A', c', e2, h1, h2, h3⟩ := h
    simp only [Value.agg.injEq, Array.mk.injEq, List.cons.injEq, and_true, true_and] at e1
    subst e1
    cases e2
    refine ⟨rfl, h1, h2, ?_⟩
    rcases h3 with ⟨h3, -⟩ | ⟨g, o, bs', rfl, -, rfl, h4⟩
    · exact Or.inl h3
    · by_cases h0 : e.args = []
      · exact Or.inl h0
      · exact Or.inr ⟨⟨(g, o, e.args, bs'), h4, hg g (by simp), fun z hz => hg z (by simp [hz]), h0⟩, rfl, rfl⟩
  obtain ⟨m1, m3, m4, m5⟩ := arg a A m c bs hv (fun z hz => hG z (by simp [hz]))
  obtain ⟨n1, n3, n4, n5⟩ := arg b A2 m2 c2 bs2 hv2 (fun z hz => hG z (by simp [hz]))
  have hrow : W.ownsRow w1.heap.size 155 2 (.slice (some ⟨w.heap.size + 1 + 1, 0, none⟩) 1 1) 1 [.pointer (some ⟨w.heap.size, 0, none⟩), .pointer (some ⟨w.heap.size + 1, 0, none⟩)] := by
    have := World.ownsRow_lit w1 (base := w1.heap.size) (e := 155) (size := 2) #[.pointer (some ⟨w.heap.size, 0, none⟩), .pointer (some ⟨w.heap.size + 1, 0, none⟩)] 1 (Nat.le_refl _) (by unfold maxLen; omega) rfl
    rw [hW, ← hs1]
    exact this
  refine ⟨w.heap.size :: (w.heap.size + 1) :: G, ⟨⟨(w.heap.size, 0, a, bs), inc_box_at hv hb1 x0, by simp, fun z hz => by simp [hG z (by simp [hz])]⟩, ⟨(w.heap.size + 1, 0, b, bs2), inc_box_at hv2 hb1 x1, by simp, fun z hz => by simp [hG z (by simp [hz])]⟩⟩, fun z hz => by simp [hz], hb1, hs1, by simp [weigh, At.ex], ⟨fun z hz => ?_, ⟨_, _, _, x0⟩, ⟨_, _, _, x1⟩, hs1, hkq, hst.q.lt, hlow.size⟩, ⟨fun z hz hl => hbW.block z hl, hb1.trans (hbW.mono hb1.size), Fr.of_below (hb.trans (hbW.mono hb.size)), hbW.size⟩, hst.on (fun j hj => ((hbW.block j (by have := hst.lt j hj; omega)).trans (hb.block j (hst.lt j hj)))), fun j hj => Or.inl hj, Sound.nil, Or.inr ⟨_, List.mem_singleton.2 rfl, rfl, rfl⟩, ?_, ?_, hrow, rfl, by simp [weigh, At.ex], by simp [weigh, At.ex]⟩
  · simp at hz
    rcases hz with rfl | rfl | hz
    · exact Or.inr (Or.inl rfl)
    · exact Or.inr (Or.inr rfl)
    · exact Or.inl (hGl z hz)
  · intro he q hq
    rw [List.mem_singleton] at hq
    subst hq
    exact he
  · intro q hq
    rw [List.mem_singleton] at hq
    subst hq
    refine ⟨⟨A, c, ?_, ?_, m4, m5⟩, ⟨A2, c2, ?_, ?_, n4, n5⟩⟩
    · show w1.cell? ⟨w.heap.size, 0 + 2, none⟩ = some (.slice A a.args.length c)
      rw [← m1]; simp [World.cell?, x0]
    · show a.args.length ≤ c
      omega
    · show w1.cell? ⟨w.heap.size + 1, 0 + 2, none⟩ = some (.slice A2 b.args.length c2)
      rw [← n1]; simp [World.cell?, x1]
    · show b.args.length ≤ c2
      omega
/-- The record may be left as it is by whatever leaves old memory alone. -/
theorem IncB.below {w w1 : World} {G1 : List Nat} {kq : Nat} {mo : Option Nat} {wo W W2 : World} (h : IncB w w1 G1 kq mo wo W) (hb : Below W.heap.size W W2) : IncB w w1 G1 kq mo wo W2 :=
  ⟨fun z hz hl => (hb.block z (Nat.lt_of_lt_of_le hl h.big)).trans (h.keep z hz hl), h.low.trans (hb.mono h.low.size), h.fr.trans (Fr.of_below (S := kq :: mo.toList) hb) (fun _ h => Or.inl h), Nat.le_trans h.big hb.size⟩
theorem EqSt.below {wo : World} {G : List Nat} {E : List (Pl wo G × Pl wo G)} {kq N : Nat} {mo : Option Nat} {W W2 : World} (h : EqSt E kq N mo W) (hb : Below W.heap.size W W2) : EqSt E kq N mo W2 := h.on (fun j hj => hb.block j (h.lt j hj))
theorem row_below {W W2 : World} {base n co : Nat} {AO : Option Addr} {t : TypeId} {sz : Nat} {xs : List Value} (hr : W.ownsRow base t sz (.slice AO n co) n xs) (hb : Below W.heap.size W W2) : W2.ownsRow base t sz (.slice AO n co) n xs :=
  row_on hr (fun j hj => hb.block j (hr.lt j hj).2)
theorem own_in_row {W : World} {t : TypeId} {sz base n co : Nat} {AO : Option Addr} {xs : List Value} (hr : W.ownsRow base t sz (.slice AO n co) n xs) : ∀ j ∈ (Value.ownBlock (.slice AO n co)).toList, base ≤ j ∧ j < W.heap.size ∧ ∃ c f, W.heap[j]? = some (.cells c t f) := fun j hj => by
  have hj2 : Value.ownBlock (.slice AO n co) = some j := by simpa using hj
  have hl := hr.lt j hj2
  refine ⟨hl.1, hl.2, ?_⟩
  rcases hr.2 with ⟨h0, -⟩ | ⟨g, cap, cur, hv, -, hg, -⟩
  · rw [h0] at hj2; cases hj2
  · rw [hv] at hj2
    obtain rfl : g = j := by simpa [Value.ownBlock] using hj2
    exact ⟨_, _, hg⟩
theorem IncB.rowm {w w1 : World} {G1 : List Nat} {kq : Nat} {mo : Option Nat} {wo W W2 : World} (h : IncB w w1 G1 kq mo wo W) (hw : IncW wo w w1 G1 kq) {t : TypeId} {sz n co : Nat} {AO : Option Addr} {xs : List Value} (hr : W.ownsRow w1.heap.size t sz (.slice AO n co) n xs) (hf : Fr (Value.ownBlock (.slice AO n co)).toList W W2) : IncB w w1 G1 kq mo wo W2 := by
  have hown := own_in_row hr
  have h1 := hw.sz
  have h2 := hw.le
  refine ⟨fun z hz hl => (hf.block z (Nat.lt_of_lt_of_le hl h.big) (fun hm => by have := (hown z hm).1; omega)).trans (h.keep z hz hl), h.low.trans (hf.below (fun x hx => by have := (hown x hx).1; omega) h.low.size), h.fr.trans hf (fun x hx => Or.inr (by have := (hown x hx).1; omega)), Nat.le_trans h.big hf.size⟩
theorem EqSt.rowm {wo : World} {G : List Nat} {E : List (Pl wo G × Pl wo G)} {kq N : Nat} {mo : Option Nat} {W W2 : World} (h : EqSt E kq N mo W) {base n co : Nat} {AO : Option Addr} {xs : List Value} (hr : W.ownsRow base 155 2 (.slice AO n co) n xs) (hf : Fr (Value.ownBlock (.slice AO n co)).toList W W2) : EqSt E kq N mo W2 := by
  have hown := own_in_row hr
  refine h.on (fun j hj => hf.block j (h.lt j hj) (fun hm => ?_))
  obtain ⟨-, -, c, f, hg⟩ := hown j hm
  rcases List.mem_cons.1 hj with rfl | hj
  · have hq := h.q
    unfold EqBox at hq
    rw [hg] at hq
    simp at hq
  · obtain ⟨h5, M, h6, -⟩ := h.map j (by simpa [eq_comm] using hj)
    exact cells_not_map (z := j) h6 ⟨_, _, _, hg⟩ rfl
set_option maxRecDepth 100000 in
set_option maxHeartbeats 4000000 in
theorem own_include {wo : World} {G : List Nat} (a b : Ex) (v v2 : Value) (bs bs2 : List Nat) (kq N : Nat) (mo : Option Nat) (w : World) (hv : ExIs wo v a bs) (hv2 : ExIs wo v2 b bs2) (hG : ∀ z ∈ bs ++ bs2, z ∈ G) (hGl : ∀ z ∈ G, z < wo.heap.size) (hst : EqSt (wo := wo) (G := G) [] kq N mo w) (hlow : Below wo.heap.size wo w) (hkq : wo.heap.size ≤ kq) (hb : N + exSize a ≤ 2199023255552) (hfr : ∀ p : Pl wo G, FreeB wo p.adr.block) :
    Calls Try.prog 69 #[.pointer (some ⟨kq, 0, none⟩), v, v2] w (IncPost (wo := wo) (G := G) a b kq N mo w) := by
  obtain ⟨u, rfl, hs, hu⟩ := id hv
  obtain ⟨A, c, rfl, hc1, hc2, -⟩ := id hu
  obtain ⟨u2, rfl, hs2, hu2⟩ := id hv2
  obtain ⟨A2, c2, rfl, hd1, hd2, -⟩ := id hu2
  obtain ⟨m, hm⟩ : ∃ m, m = a.args.length := ⟨_, rfl⟩
  obtain ⟨m2, hm2⟩ : ∃ m2, m2 = b.args.length := ⟨_, rfl⟩
  rw [← hm] at hv hc1 ⊢
  rw [← hm2] at hv2 hd1 ⊢
  have HV := Lib.hid hv
  have HV2 := Lib.hid hv2
  have HGG := Lib.hid hG
  have HGL := Lib.hid hGl
  have HST := Lib.hid hst
  have HLOW := Lib.hid hlow
  have HKQ := Lib.hid hkq
  have HB := Lib.hid hb
  have HFR := Lib.hid hfr
  clear hv hu hv2 hu2 hm hm2 hG hGl hst hlow hkq hb hfr
  go_enter Try.func69, Try.ntmps69
  go_wp2_with fail
  obtain ⟨w1, hw1⟩ : ∃ w1, w1 = (w.alloc (.cells #[.int .i64 a.kind, .string a.name, .slice A m c] 26)).alloc (.cells #[.int .i64 b.kind, .string b.name, .slice A2 m2 c2] 26) := ⟨_, rfl⟩
  rw [← hw1]
  obtain ⟨W0, hW0⟩ : ∃ W0, W0 = w1.alloc (.cells #[.pointer (some ⟨w.heap.size, 0, none⟩), .pointer (some ⟨w.heap.size + 1, 0, none⟩)] 155) := ⟨_, rfl⟩
  rw [← hW0]
  obtain ⟨G1, p0, hGG1, hlw1, hs1, hwp, hIW, hI0⟩ := inc_start a b A A2 m m2 c c2 bs bs2 kq N mo w w1 W0 HV.out HV2.out HGG.out HGL.out HST.out HLOW.out HKQ.out hw1 hW0
  have HG1 := Lib.hid hGG1
  have HL1 := Lib.hid hlw1
  have HIW := Lib.hid hIW
  have HI0 := Lib.hid hI0
  have HWP := Lib.hid hwp
  have HS1 := Lib.hid hs1
  clear hw1 hW0 hGG1 hlw1 hs1 hIW hI0 hwp
  go_loopg [7, 8, 9] (exSize a) (fun gk l7 l8 l9 wr => ∃ (n : Nat) (AO : Option Addr) (co N2 : Nat) (mo2 : Option Nat) (E : List (Pl wo G × Pl wo G)) (ps : List (Pr w1 G1)), l7 = .slice AO n co ∧ Hid (gk = weigh ps) ∧ Hid (Inc w w1 G1 a b kq N mo n AO co N2 mo2 E ps wr))
  case atStart =>
    exact ⟨1, _, 1, N, mo, [], [p0], rfl, Lib.hid HWP.out.symm, HI0⟩
  case round =>
    obtain ⟨n, AO, co, N2, mo2, E, ps, rfl, HG, HQ⟩ := hrel
    by_cases h0 : n = 0
    · subst h0
      have HD := Lib.hid HQ.out.done
      go_wp2_with fail
      go_ret
      have := HD.out.2
      rw [HD.out.1] at this
      exact this
    · obtain ⟨k, rfl⟩ : ∃ k, n = k + 1 := ⟨n - 1, by omega⟩
      obtain ⟨ps0, ⟨x, y⟩, rfl⟩ : ∃ ps0 p, ps = ps0 ++ [p] := by
        rcases last_of ps with h | h
        · have := HQ.out.len
          rw [h] at this
          simp at this
        · exact h
      have hk : k = ps0.length := by have := HQ.out.len; simp at this; omega
      obtain ⟨g, rfl, hgl, hgb, hco1, hco2, e0, e1, hpop⟩ := pair_top hk HQ.out.row
      obtain ⟨⟨A1, d1, cx2, ha1, ha2, hpx⟩, ⟨A3, d3, cy2, ha3, ha4, hpy⟩⟩ := HQ.out.args (x, y) (by simp)
      obtain ⟨-, -, cx0, cx1, -, -, -, -⟩ := x.parts
      obtain ⟨-, -, cy0, cy1, -, -, -, -⟩ := y.parts
      obtain ⟨q1, hq1⟩ : ∃ q1, q1 = x.ex.args.length := ⟨_, rfl⟩
      obtain ⟨q3, hq3⟩ : ∃ q3, q3 = y.ex.args.length := ⟨_, rfl⟩
      rw [← hq1] at cx2 ha1
      rw [← hq3] at cy2 ha3
      obtain ⟨K1, hK1⟩ : ∃ K, K = x.ex.kind := ⟨_, rfl⟩
      obtain ⟨S1, hS1⟩ : ∃ S, S = x.ex.name := ⟨_, rfl⟩
      obtain ⟨K3, hK3⟩ : ∃ K, K = y.ex.kind := ⟨_, rfl⟩
      obtain ⟨S3, hS3⟩ : ∃ S, S = y.ex.name := ⟨_, rfl⟩
      rw [← hK1] at cx0
      rw [← hS1] at cx1
      rw [← hK3] at cy0
      rw [← hS3] at cy1
      have hxa : x.adr = ⟨x.1.1, x.1.2.1, none⟩ := rfl
      have hya : y.adr = ⟨y.1.1, y.1.2.1, none⟩ := rfl
      rw [hxa] at e0 cx0
      rw [hya] at e1 cy0
      have hgxl := World.block_lt_of_cell? w1 _ cx0
      have hgyl := World.block_lt_of_cell? w1 _ cy0
      have HXG := Lib.hid x.2.2.1
      have HYG := Lib.hid y.2.2.1
      obtain ⟨g1, hg1⟩ : ∃ z, z = x.1.1 := ⟨_, rfl⟩
      obtain ⟨o1, ho1⟩ : ∃ z, z = x.1.2.1 := ⟨_, rfl⟩
      obtain ⟨g3, hg3⟩ : ∃ z, z = y.1.1 := ⟨_, rfl⟩
      obtain ⟨o3, ho3⟩ : ∃ z, z = y.1.2.1 := ⟨_, rfl⟩
      rw [← hg1, ← ho1] at e0 cx0 cx1 cx2
      rw [← hg3, ← ho3] at e1 cy0 cy1 cy2
      rw [← hg1] at HXG hgxl
      rw [← hg3] at HYG hgyl
      have HCX := Lib.hid (show ∀ X, IncB w w1 G1 kq mo wo X → X.cell? ⟨g1, o1, none⟩ = some (.int .i64 K1) ∧ X.cell? ⟨g1, o1 + 1, none⟩ = some (.string S1) ∧ X.cell? ⟨g1, o1 + 2, none⟩ = some (.slice A1 q1 d1) ∧ X.cell? ⟨g3, o3, none⟩ = some (.int .i64 K3) ∧ X.cell? ⟨g3, o3 + 1, none⟩ = some (.string S3) ∧ X.cell? ⟨g3, o3 + 2, none⟩ = some (.slice A3 q3 d3) from fun X hX => by
        have kx : ∀ o, X.cell? ⟨g1, o, none⟩ = w1.cell? ⟨g1, o, none⟩ := fun o => World.cell?_of_block (w := w1) (hX.keep _ HXG.out hgxl)
        have ky : ∀ o, X.cell? ⟨g3, o, none⟩ = w1.cell? ⟨g3, o, none⟩ := fun o => World.cell?_of_block (w := w1) (hX.keep _ HYG.out hgyl)
        exact ⟨(kx _).trans cx0, (kx _).trans cx1, (kx _).trans cx2, (ky _).trans cy0, (ky _).trans cy1, (ky _).trans cy2⟩)
      have HPX := Lib.hid hpx
      have HPY := Lib.hid hpy
      have HK := Lib.hid hk
      have HPOP := Lib.hid hpop
      have HQ1 := Lib.hid hq1
      have HQ3 := Lib.hid hq3
      have HKS := Lib.hid (And.intro hK1 (And.intro hS1 (And.intro hK3 hS3)))
      have HGL2 := Lib.hid hgl
      have hk40 : (k : Int) + 1 ≤ 2199023255552 := by
        have h1 := weigh_len (ps0 ++ [(x, y)])
        have h2 := HQ.out.wt
        have h3 := HB.out
        simp at h1
        omega
      have HQM := Lib.hid (show k + q1 ≤ 2199023255552 ∧ N2 + q1 ≤ 2199023255552 by
        have h1 := weigh_len ps0
        have h2 := HQ.out.wt
        have h4 := HQ.out.size
        have h3 := HB.out
        have h5 := (args_size x.ex).1
        rw [weigh_app] at h2 h4
        simp [weigh] at h2 h4
        omega)
      have hco3 : (co : Int) ≤ 9223372036854775807 := by unfold maxLen at hco2; omega
      have hk0 : (0 : Int) ≤ (k : Int) := by omega
      have hk1 : (k : Int) < (k : Int) + 1 := by omega
      clear hpx hpy hpop hk hq1 hq3 hco2 hK1 hS1 hK3 hS3 cx0 cx1 cx2 cy0 cy1 cy2 hg1 ho1 hg3 ho3 hxa hya hgl hgxl hgyl
      go_wp2_with fail
      go_quiet (fail)
      obtain ⟨Y, hY⟩ : ∃ Y, Y = wr.drewN nq := ⟨_, rfl⟩
      rw [← hY]
      have hbY : Below wr.heap.size wr Y := by rw [hY]; exact below_drewN (Below.refl _ wr) _
      have HBY := Lib.hid (HQ.out.at_.below hbY)
      have HRY := Lib.hid (row_below HPOP.out hbY)
      have HSY := Lib.hid (HQ.out.st.below hbY)
      clear hY hbY e0 e1
      obtain ⟨c0, c1, c2', c3, c4, c5⟩ := HCX.out Y HBY.out
      have HSX := Lib.hid (show ∀ X, Below Y.heap.size Y X → X.cell? ⟨g1, o1, none⟩ = some (.int .i64 K1) ∧ X.cell? ⟨g1, o1 + 1, none⟩ = some (.string S1) ∧ X.cell? ⟨g1, o1 + 2, none⟩ = some (.slice A1 q1 d1) ∧ X.cell? ⟨g3, o3, none⟩ = some (.int .i64 K3) ∧ X.cell? ⟨g3, o3 + 1, none⟩ = some (.string S3) ∧ X.cell? ⟨g3, o3 + 2, none⟩ = some (.slice A3 q3 d3) from fun X hX => HCX.out X (HBY.out.below hX))
      obtain ⟨hd, hhd⟩ : ∃ hd, hd = (decide (K1 = K3) && (decide (S1 = S3) && decide (q1 = q3))) := ⟨_, rfl⟩
      have HHD := Lib.hid hhd
      have HEQ := Lib.hid (show ∀ X, Calls Try.prog 109 #[.agg #[.int .i64 K1, .string S1, .slice A1 q1 d1], .agg #[.int .i64 K3, .string S3, .slice A3 q3 d3]] X (RetPost (.bool hd) X) from fun X => by rw [hhd]; exact own_heads K1 K3 S1 S3 A1 A3 q1 q3 d1 d3 X)
      clear hhd
      go_wp2_with fail
      go_region_held3 (fun X => X.cell? ⟨g1, o1, none⟩ = some (.int .i64 K1) ∧ X.cell? ⟨g1, o1 + 1, none⟩ = some (.string S1) ∧ X.cell? ⟨g1, o1 + 2, none⟩ = some (.slice A1 q1 d1) ∧ X.cell? ⟨g3, o3, none⟩ = some (.int .i64 K3) ∧ X.cell? ⟨g3, o3 + 1, none⟩ = some (.string S3) ∧ X.cell? ⟨g3, o3 + 2, none⟩ = some (.slice A3 q3 d3))
        (first
        | exact HSX.out _ ((Below.refl _ _).drew)
        | exact HSX.out _ HB5.out)
        (first
        | (go_at_call 109; refine (HEQ.out _).mono ?_; rintro r w5 ⟨rfl, hb5⟩; have HB5 := Lib.hid ((Below.refl _ Y).drew.trans hb5); clear hb5))
      clear ‹_ ∧ _›
      have HI5 := Lib.hid (HBY.out.below HB5.out)
      have HR5 := Lib.hid (row_below HRY.out HB5.out)
      have HT5 := Lib.hid (HSY.out.below HB5.out)
      clear c0 c1 c2' c3 c4 c5
      obtain ⟨c0, c1, c2', c3, c4, c5⟩ := HCX.out w5 HI5.out
      have HK40 := Lib.hid hk40
      have HCO3 := Lib.hid hco3
      have HAA := Lib.hid (And.intro ha1 (And.intro ha2 (And.intro ha3 ha4)))
      clear hk40 hco3 ha1 ha2 ha3 ha4 hk0 hk1 hgb hco1 h0
      cases hd
      · have HNE := Lib.hid (show same (x, y) = false by
          obtain ⟨e1, e2, e3, e4⟩ := HKS.out
          cases h9 : same (x, y) with
          | false => rfl
          | true =>
            have h8 := (exEq_same _ _).1 (show exEq x.ex y.ex = true from h9)
            have h7 := HHD.out
            rw [e1, e2, e3, e4, HQ1.out, HQ3.out, h8] at h7
            simp at h7)
        have HF := Lib.hid (HQ.out.no (p := (x, y)) (by simp) HNE.out HI5.out.fr)
        rw [show (!false) = true from rfl]
        go_wp2_with fail
        go_ret
        exact HF.out
      rw [show (!true) = false from rfl]
      obtain ⟨e9, e8, e7⟩ : K1 = K3 ∧ S1 = S3 ∧ q1 = q3 := by
        have h7 := HHD.out
        rw [eq_comm, Bool.and_eq_true, Bool.and_eq_true, decide_eq_true_eq, decide_eq_true_eq, decide_eq_true_eq] at h7
        exact h7
      subst e9; subst e8; subst e7
      have HKN := Lib.hid (show x.ex.kind = y.ex.kind ∧ x.ex.name = y.ex.name from by
        obtain ⟨e1, e2, e3, e4⟩ := HKS.out
        exact ⟨by rw [← e1, ← e3], by rw [← e2, ← e4]⟩)
      by_cases hq0 : q1 = 0
      · have HDN := Lib.hid (show Done E x.ex y.ex from ⟨HKN.out.1, HKN.out.2, Or.inl ⟨List.eq_nil_of_length_eq_zero (by rw [← HQ1.out, hq0]), List.eq_nil_of_length_eq_zero (by rw [← HQ3.out, hq0])⟩⟩)
        subst hq0
        have HNX := Lib.hid (show ∀ z, Inc w w1 G1 a b kq N mo k (some ⟨g, 0, none⟩) co N2 mo2 E ps0 (w5.drewN z) from fun z => HQ.out.skip HDN.out (HI5.out.below (below_drewN (Below.refl _ w5) z)) (HT5.out.below (below_drewN (Below.refl _ w5) z)) HQ.out.own (row_below HR5.out (below_drewN (Below.refl _ w5) z)) (by omega))
        go_wp2_with fail
        go_quiet (fail)
        go_wp2_with fail
        go_roundg (weigh ps0)
        case measure =>
          rw [HG.out, weigh_app]
          have := exSize_pos x.ex
          simp [weigh]
          omega
        case rel => exact ⟨k, _, co, N2, mo2, E, ps0, rfl, Lib.hid rfl, Lib.hid (HNX.out _)⟩
      · obtain ⟨P, hPA, hPE⟩ := HPX.out.resolve_left (fun h => hq0 (by rw [HQ1.out, h]; rfl))
        obtain ⟨Q, hQA, hQE⟩ := HPY.out.resolve_left (fun h => hq0 (by rw [HQ3.out, h]; rfl))
        have hPL : q1 = P.exs.length := by rw [hPE]; exact HQ1.out
        have hQL : q1 = Q.exs.length := by rw [hQE]; exact HQ3.out
        obtain ⟨gp, hgp⟩ : ∃ z, z = P.1.1 := ⟨_, rfl⟩
        obtain ⟨op, hop⟩ : ∃ z, z = P.1.2.1 := ⟨_, rfl⟩
        obtain ⟨gq, hgq⟩ : ∃ z, z = Q.1.1 := ⟨_, rfl⟩
        obtain ⟨oq, hoq⟩ : ∃ z, z = Q.1.2.1 := ⟨_, rfl⟩
        rw [← hgp, ← hop] at hPA
        rw [← hgq, ← hoq] at hQA
        subst hPA; subst hQA
        have hkP : P.key = .agg #[.pointer (some ⟨gp, op, none⟩), .int .i64 (q1 : Int)] := by rw [hPL, hgp, hop]; rfl
        have hkQ : Q.key = .agg #[.pointer (some ⟨gq, oq, none⟩), .int .i64 (q1 : Int)] := by rw [hQL, hgq, hoq]; rfl
        have hq1p : 0 < q1 := by omega
        have HP1 := Lib.hid (fun (X : World) => own_place gp op q1 d1 X hq1p (by have := HQM.out.1; omega))
        have HP3 := Lib.hid (fun (X : World) => own_place gq oq q1 d3 X hq1p (by have := HQM.out.1; omega))
        have HJN := Lib.hid (show ∀ X, Below w5.heap.size w5 X → Calls Try.prog 110 #[.pointer (some ⟨kq, 0, none⟩), .agg #[.pointer (some ⟨gp, op, none⟩), .int .i64 (q1 : Int)], .agg #[.pointer (some ⟨gq, oq, none⟩), .int .i64 (q1 : Int)]] X (JoinedPost E P Q kq N2 mo2 X) from fun X hX => by
          rw [← hkP, ← hkQ]
          exact own_joined E P Q kq N2 mo2 X (HT5.out.below hX) (HI5.out.below hX).low HKQ.out (by rw [← hPL]; exact HQM.out.2) (HFR.out P) (fun _ => HFR.out))
        have HPAIR := Lib.hid (show ∀ (X : World) (hX : IncB w w1 G1 kq mo wo X) (hr : X.ownsRow w1.heap.size 155 2 (.slice (some ⟨g, 0, none⟩) k co) k (pflat ps0)), Calls Try.prog 112 #[.slice (some ⟨g, 0, none⟩) k co, .slice (some ⟨gp, op, none⟩) q1 d1, .slice (some ⟨gq, oq, none⟩) q1 d3] X fun e w2 =>
            ∃ (AO2 : Option Addr) (co2 : Nat), e = .returned (.slice AO2 (k + q1) co2) ∧ w2.ownsRow w1.heap.size 155 2 (.slice AO2 (k + q1) co2) (k + q1) (pflat ps0 ++ pflat (P.kids.zip Q.kids).reverse) ∧ Fr (Value.ownBlock (.slice (some ⟨g, 0, none⟩) k co)).toList X w2 from fun X hX hr => by
          rw [hgp, hop, hgq, hoq]
          exact own_pairs P Q q1 hPL hQL d1 d3 HAA.out.1 HAA.out.2.1 (pflat ps0) w1.heap.size k co (some ⟨g, 0, none⟩) X hX.low HL1.out.size hX.big hr HQM.out.1)
        have HPQ := Lib.hid (And.intro hPE (And.intro hQE (And.intro hPL hQL)))
        have HS5 := Lib.hid (show ∀ X, IncB w w1 G1 kq mo wo X → X.cell? ⟨g1, o1 + 2, none⟩ = some (.slice (some ⟨gp, op, none⟩) q1 d1) ∧ X.cell? ⟨g3, o3 + 2, none⟩ = some (.slice (some ⟨gq, oq, none⟩) q1 d3) from fun X hX => ⟨(HCX.out X hX).2.2.1, (HCX.out X hX).2.2.2.2.2⟩)
        have hq1i : decide ((0 : Int) < (q1 : Int)) = true := decide_eq_true (by omega)
        have hq1n : decide (0 < q1) = true := decide_eq_true hq1p
        clear hPE hQE hPL hQL hgp hop hgq hoq hkP hkQ hq1p hq0
        go_wp2_with fail
        go_region_held3 (fun X => X.cell? ⟨g1, o1 + 2, none⟩ = some (.slice (some ⟨gp, op, none⟩) q1 d1) ∧ X.cell? ⟨g3, o3 + 2, none⟩ = some (.slice (some ⟨gq, oq, none⟩) q1 d3))
          (first
          | exact HS5.out _ (HI5.out.below (Below.refl _ _).drew)
          | exact HS5.out _ (HI5.out.below HB6.out)
          | exact HS5.out _ (HI5.out.below HB7.out)
          | exact HS5.out _ HI8.out)
          (first
          | (go_at_call 111; refine (HP1.out _).mono ?_; rintro r w6 ⟨rfl, hb6⟩; have HB6 := Lib.hid ((Below.refl _ w5).drew.trans hb6); clear hb6)
          | (go_at_call 111; refine (HP3.out _).mono ?_; rintro r w7 ⟨rfl, hb7⟩; have HB7 := Lib.hid (HB6.out.trans (hb7.mono HB6.out.size)); clear hb7)
          | (go_at_call 110; refine (HJN.out _ HB7.out).mono ?_; rintro r w8 ⟨rj, mo3, rfl, hy8, hn8, hf8, ho8⟩; have HI8 := Lib.hid ((HI5.out.below HB7.out).move HIW.out (HT5.out.below HB7.out) HQ.out.own hf8); have HJ8 := Lib.hid (And.intro hy8 (And.intro hn8 (And.intro hf8 ho8))); clear hy8 hn8 hf8 ho8))
        clear ‹_ ∧ _›
        have HR8 := Lib.hid (row_move (HT5.out.below HB7.out) (row_below HR5.out HB7.out) HJ8.out.2.2.1)
        have HO8 := Lib.hid (show ∀ j ∈ mo3.toList, j ∈ mo.toList ∨ w.heap.size ≤ j from fun j hj => by
          rcases HJ8.out.2.2.2 j hj with h | h
          · exact HQ.out.own j h
          · right
            have h1 := HI5.out.big
            have h2 := HB7.out.size
            have h3 := HS1.out
            omega)
        clear c0 c1 c2' c3 c4 c5
        cases rj
        · rw [show (!false) = true from rfl]
          obtain ⟨c2', c5⟩ := HS5.out w8 HI8.out
          have HT8 := Lib.hid (show EqSt (E ++ [(P, Q)]) kq (N2 + q1) mo3 w8 by have h := HJ8.out.2.1 rfl; rw [← HPQ.out.2.2.1] at h; exact h)
          have HFIN := Lib.hid (show ∀ (AO9 : Option Addr) (co9 : Nat) (w9 : World), w9.ownsRow w1.heap.size 155 2 (.slice AO9 (k + q1) co9) (k + q1) (pflat ps0 ++ pflat (P.kids.zip Q.kids).reverse) → Fr (Value.ownBlock (.slice (some ⟨g, 0, none⟩) k co)).toList w8.drew w9 → Inc w w1 G1 a b kq N mo (k + q1) AO9 co9 (N2 + q1) mo3 (E ++ [(P, Q)]) (ps0 ++ (P.kids.zip Q.kids).reverse.map (Pr.lift HL1.out HG1.out)) w9 from fun AO9 co9 w9 hr hf =>
            have hd8 : Below w8.heap.size w8 w8.drew := (Below.refl _ w8).drew
            HQ.out.push HPQ.out.1 HPQ.out.2.1 HPQ.out.2.2.1 HPQ.out.2.2.2 HKN.out.1 HKN.out.2 HL1.out HG1.out ((HI8.out.below hd8).rowm HIW.out (row_below HR8.out hd8) hf) ((HT8.out.below hd8).rowm (row_below HR8.out hd8) hf) HO8.out hr)
          have HMS := Lib.hid (show weigh (ps0 ++ (P.kids.zip Q.kids).reverse.map (Pr.lift HL1.out HG1.out)) < gk by
            have h1 := (args_size x.ex).2
            rw [HG.out, weigh_app, weigh_app, lift_weigh, weigh_rev, zip_weigh _ _ (by rw [P.kids_len, Q.kids_len, ← HPQ.out.2.2.1, ← HPQ.out.2.2.2]), P.kids_map, HPQ.out.1]
            simp [weigh]
            omega)
          have HPA := Lib.hid (HPAIR.out w8.drew (HI8.out.below (Below.refl _ w8).drew) (row_below HR8.out (Below.refl _ w8).drew))
          have HKEEP := Lib.hid (show ∀ (w9 : World), Fr (Value.ownBlock (.slice (some ⟨g, 0, none⟩) k co)).toList w8.drew w9 → w9.cell? ⟨g1, o1 + 2, none⟩ = some (.slice (some ⟨gp, op, none⟩) q1 d1) ∧ w9.cell? ⟨g3, o3 + 2, none⟩ = some (.slice (some ⟨gq, oq, none⟩) q1 d3) from fun w9 hf => HS5.out w9 ((HI8.out.below (Below.refl _ w8).drew).rowm HIW.out (row_below HR8.out (Below.refl _ w8).drew) hf))
          go_wp2_with fail
          go_region_held3 (fun X => X.cell? ⟨g1, o1 + 2, none⟩ = some (.slice (some ⟨gp, op, none⟩) q1 d1) ∧ X.cell? ⟨g3, o3 + 2, none⟩ = some (.slice (some ⟨gq, oq, none⟩) q1 d3))
            (first
            | exact HS5.out _ (HI8.out.below (Below.refl _ _).drew)
            | exact HKEEP.out _ HF9.out)
            (first
            | (go_at_call 112; refine HPA.out.mono ?_; rintro r w9 ⟨AO9, co9, rfl, hr9, hf9⟩; have HR9 := Lib.hid hr9; have HF9 := Lib.hid hf9; clear hr9 hf9))
          clear ‹_ ∧ _›
          have HN9 := Lib.hid (HFIN.out AO9 co9 w9 HR9.out HF9.out)
          go_wp2_with fail
          go_roundg (weigh (ps0 ++ (P.kids.zip Q.kids).reverse.map (Pr.lift HL1.out HG1.out)))
          case measure => exact HMS.out
          case rel => exact ⟨k + q1, AO9, co9, N2 + q1, mo3, E ++ [(P, Q)], _, rfl, Lib.hid rfl, HN9⟩
        · rw [show (!true) = false from rfl]
          have HT8 := Lib.hid (show Conn E P Q ∧ EqSt E kq (N2 + q1) mo3 w8 by have h := HJ8.out.1 rfl; rw [← HPQ.out.2.2.1] at h; exact h)
          have HNX := Lib.hid (HQ.out.skip (done_pair HKN.out.1 HKN.out.2 HPQ.out.1 HPQ.out.2.1 HT8.out.1) HI8.out HT8.out.2 HO8.out HR8.out (by rw [show (x, y).1.ex.args.length = q1 from HQ1.out.symm]; exact Nat.le_refl _))
          go_wp2_with fail
          go_roundg (weigh ps0)
          case measure =>
            rw [HG.out, weigh_app]
            have := exSize_pos x.ex
            simp [weigh]
            omega
          case rel => exact ⟨k, _, co, N2 + q1, mo3, E, ps0, rfl, Lib.hid rfl, HNX⟩
end Go.Proofs.Ytmndlhbgacgnlaa
