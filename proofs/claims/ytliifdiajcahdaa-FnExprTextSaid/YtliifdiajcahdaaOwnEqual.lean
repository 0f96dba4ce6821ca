/- The contract of the program's own EqualExpr. Conditions: fewer than 2^40 nodes; where there are more than 80, no string shares the memory of the arguments. -/
import Derived.Test.YtliifdiajcahdaaEqKit
import Derived.Test.YtliifdiajcahdaaSet
import Derived.Deep.LoopGhost
import Derived.Deep.QuietTactic
import Derived.BigQuiet
import Derived.Deep.RegionHeld3
import Derived.Test.YtliifdiajcahdaaLawSizes
namespace Go.Proofs.Ytliifdiajcahdaa
open Go Go.RowKit

theorem ex_box_at {w0 W : World} {e : Ex} {u : Value} {bs : List Nat} {B : Nat} (h : ExIs w0 (.agg #[.int .i64 e.kind, .string e.name, u]) e bs) (hb : Below w0.heap.size w0 W) (hx : W.heap[B]? = some (.cells #[.int .i64 e.kind, .string e.name, u] 26 (0, 0))) : ExAt W B 0 e bs :=
  ExAt.mk (u := u) (by simp [World.cell?, hx]) (by simp [World.cell?, hx]) (by simp [World.cell?, hx]) (h.below hb)

/-- What the outer loop holds. -/
structure Eq2 (w1 : World) (G : List Nat) (a b : Ex) (mb n : Nat) (AO : Option Addr) (co cnt : Nat) (ps sn : List (Pr w1 G)) (W : World) : Prop where
  low : Below w1.heap.size w1 W
  row : W.ownsRow w1.heap.size 70 2 (.slice AO n co) n (pflat ps)
  len : ps.length = n
  eq : exEq a b = allEq ps
  size : cnt + weigh ps ≤ exSize a
  map : MapIs W mb (sn.map (fun s => (pkey s, .bool true)))
  seen : SeenOk sn ps
/-- What the inner loop holds. -/
structure In2 (w1 : World) (G : List Nat) (mb n j : Nat) (AO : Option Addr) (co : Nat) (ps0 zs sn : List (Pr w1 G)) (W : World) : Prop where
  low : Below w1.heap.size w1 W
  row : W.ownsRow w1.heap.size 70 2 (.slice AO n co) n (pflat (ps0 ++ zs.take j))
  len : n = ps0.length + j
  map : MapIs W mb (sn.map (fun s => (pkey s, .bool true)))

/-- Where the loop begins. -/
theorem eq_start (a b : Ex) (u u2 : Value) (bs bs2 : List Nat) (w w1 W : World) (hv : ExIs w (.agg #[.int .i64 a.kind, .string a.name, u]) a bs) (hv2 : ExIs w (.agg #[.int .i64 b.kind, .string b.name, u2]) b bs2) (hfr : 80 < exSize a → ∀ x ∈ bs ++ bs2, ∀ o, w.frozen? ⟨x, o, none⟩ = false)
    (h1 : w1 = (w.alloc (.cells #[.int .i64 a.kind, .string a.name, u] 26)).alloc (.cells #[.int .i64 b.kind, .string b.name, u2] 26))
    (hW : W = (w1.alloc (.cells #[.pointer (some ⟨w.heap.size, 0, none⟩), .pointer (some ⟨w.heap.size + 1, 0, none⟩)] 70)).alloc (.map #[] 0)) :
    ∃ (G : List Nat) (p : Pr w1 G), Below w.heap.size w w1 ∧ w1.heap.size = w.heap.size + 1 + 1 ∧ (80 < exSize a → ∀ x ∈ G, ∀ o, w1.frozen? ⟨x, o, none⟩ = false) ∧ p.1.ex = a ∧ p.2.ex = b ∧
      Eq2 w1 G a b (w.heap.size + 1 + 1 + 1) 1 (some ⟨w.heap.size + 1 + 1, 0, none⟩) 1 0 [p] [] W := by
  have hs1 : w1.heap.size = w.heap.size + 1 + 1 := by rw [h1]; simp
  have hb : Below w.heap.size w w1 := by rw [h1]; exact ((Below.refl _ w).alloc (Nat.le_refl _) _).alloc (by simp) _
  have x0 : w1.heap[w.heap.size]? = some (.cells #[.int .i64 a.kind, .string a.name, u] 26 (0, 0)) := by
    rw [h1]; exact (Below.heap_alloc _ _ _ (by simp)).trans (World.alloc_heap_new w _)
  have x1 : w1.heap[w.heap.size + 1]? = some (.cells #[.int .i64 b.kind, .string b.name, u2] 26 (0, 0)) := by
    rw [h1]
    have := World.alloc_heap_new (w.alloc (.cells #[.int .i64 a.kind, .string a.name, u] 26)) (.cells #[.int .i64 b.kind, .string b.name, u2] 26)
    rw [World.size_alloc] at this
    exact this
  refine ⟨w.heap.size :: (w.heap.size + 1) :: (bs ++ bs2), ⟨⟨(w.heap.size, 0, a, bs), ex_box_at hv hb x0, by simp, fun z hz => by simp [show z ∈ bs from hz]⟩, ⟨(w.heap.size + 1, 0, b, bs2), ex_box_at hv2 hb x1, by simp, fun z hz => by simp [show z ∈ bs2 from hz]⟩⟩, hb, hs1, fun h80 x hx o => ?_, rfl, rfl, ?_⟩
  · rcases List.mem_cons.1 hx with rfl | hx
    · exact (FreeB.of_box x0).2 o
    · rcases List.mem_cons.1 hx with rfl | hx
      · exact (FreeB.of_box x1).2 o
      · by_cases hl : x < w.heap.size
        · exact (World.frozen?_of_block (w := w) (a := ⟨x, o, none⟩) (hb.block x hl)).trans (hfr h80 x hx o)
        · by_cases e1 : x = w.heap.size
          · rw [e1]; exact (FreeB.of_box x0).2 o
          · by_cases e2 : x = w.heap.size + 1
            · rw [e2]; exact (FreeB.of_box x1).2 o
            · have : w1.heap[x]? = none := Array.getElem?_eq_none (by omega)
              simp [World.frozen?, this]
  · have hs2 : (w1.alloc (.cells #[.pointer (some ⟨w.heap.size, 0, none⟩), .pointer (some ⟨w.heap.size + 1, 0, none⟩)] 70)).heap.size = w.heap.size + 1 + 1 + 1 := by simp [hs1]
    refine ⟨?_, ?_, rfl, by simp [allEq, same, At.ex], by simp [weigh, At.ex], ?_, fun s hs => by cases hs⟩
    · rw [hW]; exact ((Below.refl _ w1).alloc (Nat.le_refl _) _).alloc (by simp) _
    · have := World.ownsRow_lit w1 (base := w1.heap.size) (e := 70) (size := 2) #[.pointer (some ⟨w.heap.size, 0, none⟩), .pointer (some ⟨w.heap.size + 1, 0, none⟩)] 1 (Nat.le_refl _) (by unfold maxLen; omega) rfl
      rw [hW, ← hs1]
      exact this.alloc _
    · rw [hW, ← hs2]
      exact MapIs.made _

/-- The box of the pair that was taken. -/
theorem pair_box {wr X : World} {o : Obj} (h : X = wr.alloc o) : Below wr.heap.size wr X ∧ X.heap[wr.heap.size]? = some o := by
  subst h
  exact ⟨(Below.refl _ wr).alloc (Nat.le_refl _) _, World.alloc_heap_new wr o⟩
theorem pair_box_cells {wr X : World} {p q : Value} (h : X = wr.alloc (.cells #[p, q] 70)) : X.cell? ⟨wr.heap.size, 0, none⟩ = some p ∧ X.cell? ⟨wr.heap.size, 1, none⟩ = some q ∧ ∀ {a : Addr} {v : Value}, wr.cell? a = some v → X.cell? a = some v := by
  obtain ⟨h1, h2⟩ := pair_box h
  exact ⟨by simp [World.cell?, h2], by simp [World.cell?, h2], fun {a v} ha => (h1.cell (p := a) (World.block_lt_of_cell? wr _ ha)).trans ha⟩
theorem fin_below {w w1 wr X : World} (h1 : Below w.heap.size w w1) (h2 : Below w1.heap.size w1 wr) (h3 : Below wr.heap.size wr X) (n : Nat) : Below w.heap.size w (X.drew.drewN n) :=
  h1.trans ((h2.trans ((below_drewN h3.drew n).mono h2.size)).mono h1.size)
theorem two_leaf (p q : Option Addr) : ∀ u ∈ [Value.pointer p, Value.pointer q], u.oneCell' = true := by
  intro u hu
  simp at hu
  rcases hu with rfl | rfl <;> rfl
theorem cell_fr {S : List Nat} {W Y : World} (h : Fr S W Y) {p : Addr} {v : Value} (hc : W.cell? p = some v) (hn : p.block ∉ S) : Y.cell? p = some v := by
  have hl := World.block_lt_of_cell? W p hc
  exact (World.cell?_of_block (w := W) (h.block p.block hl hn)).trans hc
theorem run_makePairs (w : World) : (Instr.makeMap 72 none).run Try.prog w = .ok (.map (some w.heap.size)) (w.alloc (.map #[] 0)) := by
  simp [Instr.makeMap]

set_option maxRecDepth 100000 in
set_option maxHeartbeats 4000000 in
theorem own_equal (a b : Ex) (v v2 : Value) (bs bs2 : List Nat) (w : World) (hv : ExIs w v a bs) (hv2 : ExIs w v2 b bs2) (hb : exSize a ≤ 1099511627776) (hfr : 80 < exSize a → ∀ x ∈ bs ++ bs2, ∀ o, w.frozen? ⟨x, o, none⟩ = false) : Calls Try.prog 14 #[v, v2] w (RetPost (.bool (exEq a b)) w) := by
  obtain ⟨i0, hi, hz0, hz1, hz2⟩ := info_parts Try.infoTwo
  have HI := Lib.hid (And.intro hi (And.intro hz0 (And.intro hz1 hz2)))
  clear hi hz0 hz1 hz2
  obtain ⟨u, rfl, hs, hu⟩ := id hv
  obtain ⟨A, c, rfl, hc1, hc2, -⟩ := id hu
  obtain ⟨u2, rfl, hs2, hu2⟩ := id hv2
  obtain ⟨A2, c2, rfl, hd1, hd2, -⟩ := id hu2
  have HV := Lib.hid hv
  have HV2 := Lib.hid hv2
  have HB := Lib.hid hb
  have HFR := Lib.hid hfr
  obtain ⟨m, hm⟩ : ∃ m, m = a.args.length := ⟨_, rfl⟩
  obtain ⟨m2, hm2⟩ : ∃ m2, m2 = b.args.length := ⟨_, rfl⟩
  rw [← hm] at HV hc1 ⊢
  rw [← hm2] at HV2 hd1 ⊢
  clear hv hu hv2 hu2 hm hm2 hb hfr
  have hmk := run_makePairs
  go_enter Try.func14, Try.ntmps14
  go_wp2_with fail
  obtain ⟨w1, hw1⟩ : ∃ w1, w1 = (w.alloc (.cells #[.int .i64 a.kind, .string a.name, .slice A m c] 26)).alloc (.cells #[.int .i64 b.kind, .string b.name, .slice A2 m2 c2] 26) := ⟨_, rfl⟩
  rw [← hw1]
  obtain ⟨W0, hW0⟩ : ∃ W0, W0 = (w1.alloc (.cells #[.pointer (some ⟨w.heap.size, 0, none⟩), .pointer (some ⟨w.heap.size + 1, 0, none⟩)] 70)).alloc (.map #[] 0) := ⟨_, rfl⟩
  rw [← hW0]
  obtain ⟨G, p0, hlw1, hs1, hGf, hp1, hp2, hE0⟩ := eq_start a b _ _ bs bs2 w w1 W0 HV.out HV2.out HFR.out hw1 hW0
  have HGF := Lib.hid hGf
  have HE0 := Lib.hid hE0
  have HL1 := Lib.hid hlw1
  have HP1 := Lib.hid hp1
  obtain ⟨MB, hMB⟩ : ∃ MB, MB = w.heap.size + 1 + 1 + 1 := ⟨_, rfl⟩
  rw [← hMB] at HE0 ⊢
  have HMB := Lib.hid (show w1.heap.size ≤ MB by omega)
  clear hw1 hW0 hGf hE0 hlw1 hp1 hp2 hMB hs1 hmk
  go_loopg [5, 7] (exSize a) (fun gk l cn wr => ∃ (n : Nat) (AO : Option Addr) (co cnt : Nat) (ps sn : List (Pr w1 G)), l = .slice AO n co ∧ cn = .int .i64 (cnt : Int) ∧ Hid (gk = weigh ps) ∧ Hid (Eq2 w1 G a b MB n AO co cnt ps sn wr))
  case atStart =>
    exact ⟨1, _, 1, 0, [p0], [], rfl, rfl, Lib.hid (by simp [weigh, HP1.out]), HE0⟩
  case round =>
    obtain ⟨n, AO, co, cnt, ps, sn, rfl, rfl, HG, HQ⟩ := hrel
    by_cases h0 : n = 0
    · have HZ := Lib.hid (show exEq a b = true by
        have h1 : ps = [] := List.eq_nil_of_length_eq_zero (by rw [HQ.out.len, h0])
        rw [HQ.out.eq, h1]; rfl)
      subst h0
      go_wp2_with fail
      go_ret
      exact ⟨by rw [HZ.out]; rfl, HL1.out.trans (HQ.out.low.mono HL1.out.size)⟩
    · obtain ⟨k, rfl⟩ : ∃ k, n = k + 1 := ⟨n - 1, by omega⟩
      obtain ⟨ps0, ⟨x, y⟩, rfl⟩ : ∃ ps0 p, ps = ps0 ++ [p] := by
        rcases last_of ps with h | h
        · have := HQ.out.len
          rw [h] at this
          simp at this
        · exact h
      have hk : k = ps0.length := by have := HQ.out.len; simp at this; omega
      obtain ⟨g, rfl, hgl, hgb, hco1, hco2, e0, e1, hpop⟩ := pair_top hk HQ.out.row
      obtain ⟨A1, d1, cx0, cx1, cx2, ha1, ha2, ks1, hks1, hkc1⟩ := x.parts
      obtain ⟨A3, d3, cy0, cy1, cy2, ha3, ha4, ks3, hks3, hkc3⟩ := y.parts
      obtain ⟨q1, hq1⟩ : ∃ q1, q1 = x.ex.args.length := ⟨_, rfl⟩
      obtain ⟨q3, hq3⟩ : ∃ q3, q3 = y.ex.args.length := ⟨_, rfl⟩
      rw [← hq1] at cx2 ha1
      rw [← hq3] at cy2 ha3
      have hf := exEq_parts x.ex y.ex
      obtain ⟨K1, hK1⟩ : ∃ K, K = x.ex.kind := ⟨_, rfl⟩
      obtain ⟨S1, hS1⟩ : ∃ S, S = x.ex.name := ⟨_, rfl⟩
      obtain ⟨K3, hK3⟩ : ∃ K, K = y.ex.kind := ⟨_, rfl⟩
      obtain ⟨S3, hS3⟩ : ∃ S, S = y.ex.name := ⟨_, rfl⟩
      rw [← hK1, ← hS1, ← hK3, ← hS3] at hf
      rw [← hK1] at cx0
      rw [← hS1] at cx1
      rw [← hK3] at cy0
      rw [← hS3] at cy1
      have HKEY := Lib.hid (show pkey (x, y) = .agg #[.pointer (some x.adr), .pointer (some y.adr)] from rfl)
      have HXG := Lib.hid (show x.adr.block ∈ G from x.2.2.1)
      have HYG := Lib.hid (show y.adr.block ∈ G from y.2.2.1)
      have hxa : x.adr = ⟨x.1.1, x.1.2.1, none⟩ := rfl
      have hya : y.adr = ⟨y.1.1, y.1.2.1, none⟩ := rfl
      rw [hxa] at e0 cx0 HKEY HXG
      rw [hya] at e1 cy0 HKEY HYG
      obtain ⟨g1, hg1⟩ : ∃ z, z = x.1.1 := ⟨_, rfl⟩
      obtain ⟨o1, ho1⟩ : ∃ z, z = x.1.2.1 := ⟨_, rfl⟩
      obtain ⟨g3, hg3⟩ : ∃ z, z = y.1.1 := ⟨_, rfl⟩
      obtain ⟨o3, ho3⟩ : ∃ z, z = y.1.2.1 := ⟨_, rfl⟩
      rw [← hg1, ← ho1] at e0 cx0 cx1 cx2 HKEY HXG
      rw [← hg3, ← ho3] at e1 cy0 cy1 cy2 HKEY HYG
      have hgx := World.block_lt_of_cell? w1 _ cx0
      have hgy := World.block_lt_of_cell? w1 _ cy0
      have hlow := HQ.out.low
      have hls := hlow.size
      have kc : ∀ {p : Addr} {v : Value}, w1.cell? p = some v → wr.cell? p = some v := fun {p v} hp => (hlow.cell (p := p) (World.block_lt_of_cell? w1 _ hp)).trans hp
      have hx0 := kc cx0
      have hx1 := kc cx1
      have hx2 := kc cx2
      have hy0 := kc cy0
      have hy1 := kc cy1
      have hy2 := kc cy2
      have hgx2 : g1 < wr.heap.size := Nat.lt_of_lt_of_le hgx hls
      have hgy2 : g3 < wr.heap.size := Nat.lt_of_lt_of_le hgy hls
      have hk40 : (k : Int) + 1 ≤ 1099511627776 := by
        have h1 := weigh_len (ps0 ++ [(x, y)])
        have h2 := HQ.out.size
        have h3 := HB.out
        simp at h1
        omega
      have hct : (cnt : Int) + 1 ≤ 1099511627776 := by
        have h1 := weigh_len (ps0 ++ [(x, y)])
        have h2 := HQ.out.size
        have h3 := HB.out
        simp at h1
        omega
      have hco3 : (co : Int) ≤ 9223372036854775807 := by unfold maxLen at hco2; omega
      have HFE := Lib.hid hf
      have HPOP := Lib.hid hpop
      have HK := Lib.hid hk
      have HQ1 := Lib.hid hq1
      have HQ3 := Lib.hid hq3
      have HGL := Lib.hid hgl
      have HKS1 := Lib.hid hks1
      have HKS3 := Lib.hid hks3
      have HKC1 := Lib.hid hkc1
      have HKC3 := Lib.hid hkc3
      have HLS := Lib.hid hls
      have HCX := Lib.hid (And.intro cx0 (And.intro cx1 cx2))
      have HCY := Lib.hid (And.intro cy0 (And.intro cy1 cy2))
      have HGXL := Lib.hid hgx
      have HGYL := Lib.hid hgy
      clear hpop hk hq1 hq3 hco2 hf hK1 hS1 hK3 hS3 hks1 hks3 hkc1 hkc3 cx0 cx1 cx2 cy0 cy1 cy2 kc hlow hls hg1 ho1 hg3 ho3 hxa hya hgx hgy
      have hk0 : (0 : Int) ≤ (k : Int) := by omega
      have hk1 : (k : Int) < (k : Int) + 1 := by omega
      have hqq1 : (q1 : Int) ≤ 9223372036854775807 := by omega
      have hqq3 : (q3 : Int) ≤ 9223372036854775807 := by omega
      have HAB := Lib.hid (show exEq a b = (allEq ps0 && exEq x.ex y.ex) by rw [HQ.out.eq, all_one]; rfl)
      by_cases hkd : K1 = K3
      · by_cases hnm : S1 = S3
        · by_cases hq : q1 = q3
          · subst hkd; subst hnm; subst hq
            go_wp2_with fail
            obtain ⟨X, hX⟩ : ∃ X, X = wr.alloc (.cells #[.pointer (some ⟨g1, o1, none⟩), .pointer (some ⟨g3, o3, none⟩)] 70) := ⟨_, rfl⟩
            rw [← hX]
            have HX := Lib.hid (pair_box hX)
            obtain ⟨hp0, hp1, hkX⟩ := pair_box_cells hX
            have hx0 := hkX hx0
            have hx1 := hkX hx1
            have hx2 := hkX hx2
            have hy0 := hkX hy0
            have hy1 := hkX hy1
            have hy2 := hkX hy2
            clear hkX hX
            generalize hpb : wr.heap.size = pb at hp0 hp1 ⊢
            have HPB := Lib.hid hpb
            clear hpb
            go_region_held3 (fun Y => Y.cell? ⟨pb, 0, none⟩ = some (.pointer (some ⟨g1, o1, none⟩)) ∧ Y.cell? ⟨pb, 1, none⟩ = some (.pointer (some ⟨g3, o3, none⟩))) (exact ⟨hp0, hp1⟩) (fail)
            all_goals clear ‹_ ∧ _›
            have hbk : (K1 != K1) = false := by simp
            have hbq : ((q1 : Int) != (q1 : Int)) = false := by simp
            go_wp2_with fail
            go_quiet (fail)
            obtain ⟨Y, hY⟩ : ∃ Y, Y = X.drew.drewN nq := ⟨_, rfl⟩
            rw [← hY]
            have hYh : Y.heap = X.heap := by rw [hY]; rfl
            have hLY : Below X.heap.size X Y := by rw [hY]; exact below_drewN ((Below.refl _ X).drew) _
            have hsz := HX.out.1.size
            have hwy : ∀ j, j < wr.heap.size → Y.heap[j]? = wr.heap[j]? := fun j hj => by rw [hYh]; exact HX.out.1.block j hj
            have HLWY := Lib.hid (show Below wr.heap.size wr Y from HX.out.1.trans (hLY.mono hsz))
            have HL5 := Lib.hid (HQ.out.low.trans (HLWY.out.mono HQ.out.low.size))
            have HR5 := Lib.hid (row_on HPOP.out (fun j e => hwy j (by rw [show j = g by simpa [Value.ownBlock, eq_comm] using e]; exact HGL.out)))
            have HM5 := Lib.hid (HQ.out.map.on (hwy _ HQ.out.map.lt))
            have kY : ∀ {p : Addr} {v : Value}, X.cell? p = some v → Y.cell? p = some v := fun {p v} hp => (hLY.cell (p := p) (World.block_lt_of_cell? X _ hp)).trans hp
            have h5p0 := kY hp0
            have h5p1 := kY hp1
            have h5x := kY hx2
            have h5y := kY hy2
            have HFRE := Lib.hid (show 80 ≤ cnt → (∀ s : Pr w1 G, PairK Y (pkey s)) from fun h80 s => by
              have hbig : 80 < exSize a := by
                have h1 := weigh_len (ps0 ++ [(x, y)])
                have h2 := HQ.out.size
                simp at h1
                omega
              have fr : ∀ z : At w1 G, FreeB Y z.adr.block := fun z => by
                obtain ⟨A9, d9, c9, -⟩ := z.parts
                have hz := World.block_lt_of_cell? w1 _ c9
                exact (FreeB.of_cell (o := z.adr.off) c9 (HGF.out hbig _ z.2.2.1)).on (HL5.out.block _ hz)
              exact ⟨s.1.adr, s.2.adr, rfl, fr s.1, fr s.2⟩)
            clear kY hLY hYh hwy hsz hY hp0 hp1 hx0 hx1 hx2 hy0 hy1 hy2 e0 e1
            have HSZ := Lib.hid (show cnt + (weigh ps0 + exSize x.ex) ≤ exSize a by have := HQ.out.size; rw [weigh_app] at this; simpa [weigh] using this)
            have hl1 : ks1.length = q1 := by rw [HQ1.out, ← HKS1.out, List.length_map]
            have hl3 : ks3.length = q1 := by rw [HQ3.out, ← HKS3.out, List.length_map]
            have hzl : (ks1.zip ks3).length = q1 := by rw [List.length_zip, hl1, hl3, Nat.min_self]
            have HZE := Lib.hid (show allEq (ks1.zip ks3) = exEqs x.ex.args y.ex.args by rw [zip_eq _ _ (by rw [hl1, hl3]), HKS1.out, HKS3.out])
            have HZW := Lib.hid (show weigh (ks1.zip ks3) + 1 = exSize x.ex by rw [zip_weigh _ _ (by rw [hl1, hl3]), HKS1.out]; cases x.ex; rw [exSize]; rfl)
            have HSAME := Lib.hid (show same (x, y) = allEq (ks1.zip ks3) by
              show exEq x.ex y.ex = _
              rw [HFE.out, HZE.out]
              simp)
            have HSP := Lib.hid (seen_push (zs := ks1.zip ks3) HQ.out.seen (fun h => by rw [HSAME.out]; exact h) (zip_less HKS1.out))
            have HL1b := Lib.hid hl1
            have HL3b := Lib.hid hl3
            have HZL := Lib.hid hzl
            clear hl1 hl3 hzl
            have HEND := Lib.hid (show ∀ (SN : List (Pr w1 G)) (AO2 : Option Addr) (n2 co2 : Nat) (W2 : World), SeenOk SN (ps0 ++ ks1.zip ks3) → In2 w1 G MB n2 q1 AO2 co2 ps0 (ks1.zip ks3) SN W2 → Eq2 w1 G a b MB n2 AO2 co2 (cnt + 1) (ps0 ++ ks1.zip ks3) SN W2 from fun SN AO2 n2 co2 W2 hs h =>
              ⟨h.low, by have h2 := h.row; rw [List.take_of_length_le (by rw [HZL.out]; exact Nat.le_refl _)] at h2; exact h2, by rw [List.length_append, HZL.out, h.len],
                by rw [HAB.out, all_more, ← HSAME.out]; rfl, by rw [weigh_app]; have := HZW.out; have := HSZ.out; omega, h.map, hs⟩)
            have HSKIP := Lib.hid (show ∀ (W2 : World), same (x, y) = true → SeenOk sn ps0 → Below Y.heap.size Y W2 → Eq2 w1 G a b MB k (some ⟨g, 0, none⟩) co (cnt + 1) ps0 sn W2 from fun W2 he hs hb =>
              ⟨HL5.out.trans (hb.mono HL5.out.size), row_on HR5.out (fun j e => hb.block j (HR5.out.lt j e).2), by rw [HK.out], by rw [HAB.out, show exEq x.ex y.ex = true from he, Bool.and_true], by have := HSZ.out; have := exSize_pos x.ex; omega, HM5.out.on (hb.block _ HM5.out.lt), hs⟩)
            by_cases h80 : 80 ≤ cnt
            have hc80 : (80 : Int) ≤ (cnt : Int) := by omega
            obtain ⟨vl, has, hrun, hit⟩ := HM5.out.look (pairT Y) Try.underlying72 (zeroB Y) (HFRE.out h80 (x, y)) (fun z hz => by
              obtain ⟨s, -, rfl⟩ := List.mem_map.1 hz
              exact HFRE.out h80 s)
            have hrun2 := hrun false
            rw [HKEY.out] at hrun2
            have HPK := Lib.hid (HFRE.out h80)
            clear hrun
            cases has
            rotate_left
            · have HSK := Lib.hid (show same (x, y) = true ∧ SeenOk sn ps0 by
                rcases hit with ⟨h1, -⟩ | ⟨-, -, h1⟩
                · obtain ⟨s, hs1, hs2⟩ := List.mem_map.1 h1
                  exact seen_skip HQ.out.seen hs1 (Prod.mk.inj hs2).1
                · cases h1)
              obtain rfl : vl = .bool true := by
                rcases hit with ⟨h1, -⟩ | ⟨-, -, h1⟩
                · obtain ⟨s, hs1, hs2⟩ := List.mem_map.1 h1
                  exact (Prod.mk.inj hs2).2.symm
                · cases h1
              clear hit
              simp only [if_false, Bool.false_eq_true] at hrun2
              go_wp2_with fail
              go_roundg (weigh ps0)
              case measure =>
                rw [HG.out, weigh_app]
                have := exSize_pos x.ex
                simp [weigh]
                omega
              case rel => exact ⟨k, some ⟨g, 0, none⟩, co, cnt + 1, ps0, sn, rfl, by first | rfl | go_num, Lib.hid rfl, Lib.hid (HSKIP.out _ HSK.out.1 HSK.out.2 (Below.refl _ _))⟩
            have hc80 : ¬ (80 : Int) ≤ (cnt : Int) := by omega
            go_wp2_with fail
            obtain ⟨SN, HSN, HM6, HL6, HR6, h6x, h6y⟩ : ∃ SN : List (Pr w1 G), Hid (SeenOk SN (ps0 ++ ks1.zip ks3)) ∧ Hid (MapIs Y MB (SN.map (fun s => (pkey s, .bool true)))) ∧ Hid (Below w1.heap.size w1 Y) ∧ Hid (Y.ownsRow w1.heap.size 70 2 (.slice (some ⟨g, 0, none⟩) k co) k (pflat ps0)) ∧ Y.cell? ⟨g1, o1 + 2, none⟩ = some (.slice A1 q1 d1) ∧ Y.cell? ⟨g3, o3 + 2, none⟩ = some (.slice A3 q1 d3) :=
              ⟨sn, Lib.hid (HSP.out.less (fun s hs => List.mem_append_left _ hs)), HM5, HL5, HR5, h5x, h5y⟩
            revert HM6 HL6 HR6 h6x h6y
            generalize Y = W5
            intro HM6 HL6 HR6 h6x h6y
            rotate_left
            obtain ⟨hnot, rfl⟩ : (∀ z ∈ sn.map (fun s => (pkey s, Value.bool true)), z.1 ≠ pkey (x, y)) ∧ vl = .bool false := by
              rcases hit with ⟨-, h1⟩ | ⟨h1, h2, -⟩
              · cases h1
              · exact ⟨h1, h2⟩
            have HNOT := Lib.hid hnot
            have HPKK := Lib.hid (show PairK Y (.agg #[.pointer (some ⟨g1, o1, none⟩), .pointer (some ⟨g3, o3, none⟩)]) by rw [← HKEY.out]; exact HPK.out (x, y))
            have HPKL := Lib.hid (show ∀ z ∈ sn.map (fun s => (pkey s, Value.bool true)), PairK Y z.1 from fun z hz => by
              obtain ⟨s, -, rfl⟩ := List.mem_map.1 hz
              exact HPK.out s)
            clear hit hnot
            simp only [if_false, Bool.false_eq_true] at hrun2
            have HUP := Lib.hid (show ∀ (W5 : World) (L2 : List (Value × Value)), MapIs W5 MB L2 → Put (sn.map (fun s => (pkey s, Value.bool true))) (.agg #[.pointer (some ⟨g1, o1, none⟩), .pointer (some ⟨g3, o3, none⟩)]) (.bool true) L2 → Y.grownBy W5 (some MB) →
                ∃ SN : List (Pr w1 G), SeenOk SN (ps0 ++ ks1.zip ks3) ∧ MapIs W5 MB (SN.map (fun s => (pkey s, .bool true))) ∧ Below w1.heap.size w1 W5 ∧ W5.ownsRow w1.heap.size 70 2 (.slice (some ⟨g, 0, none⟩) k co) k (pflat ps0) ∧ W5.cell? ⟨g1, o1 + 2, none⟩ = some (.slice A1 q1 d1) ∧ W5.cell? ⟨g3, o3 + 2, none⟩ = some (.slice A3 q1 d3) from fun W5 L2 h1 h2 h3 => by
              have hold : ∀ j, j < Y.heap.size → j ≠ MB → W5.heap[j]? = Y.heap[j]? := fun j hj hne => h3.block j hj (fun e => hne (Option.some.inj e))
              have hne : ∀ (z : At w1 G), z.adr.block < w1.heap.size := fun z => by
                obtain ⟨A9, d9, c9, -⟩ := z.parts
                exact World.block_lt_of_cell? w1 _ c9
              have hcell : ∀ {p : Addr} {v : Value}, Y.cell? p = some v → p.block ≠ MB → W5.cell? p = some v := fun {p v} hp hn => (World.cell?_of_block (w := Y) (hold p.block (World.block_lt_of_cell? Y _ hp) hn)).trans hp
              have hMB := HMB.out
              refine ⟨sn ++ [(x, y)], HSP.out, ?_, ?_, ?_, hcell h5x (by have := HGXL.out; simp; omega), hcell h5y (by have := HGYL.out; simp; omega)⟩
              · rcases h2 with ⟨-, h2⟩ | ⟨A9, v9, B9, h2, -⟩
                · rw [List.map_append, List.map_cons, List.map_nil, HKEY.out, ← h2]; exact h1
                · exact absurd (by rw [HKEY.out]) (HNOT.out (_, v9) (by rw [h2]; simp))
              · refine HL5.out.trans ⟨h3.os, h3.tape, h3.output, h3.size, fun j hj => hold j (Nat.lt_of_lt_of_le hj HL5.out.size) (by omega)⟩
              · refine row_on HR5.out (fun j e => hold j (HR5.out.lt j e).2 (fun e2 => ?_))
                have hm := HM5.out
                obtain ⟨es, clock, hm, -⟩ := hm
                rcases HR5.out.2 with ⟨h0, -⟩ | ⟨g', cap', cur, hv, -, hb2, -⟩
                · rw [h0] at e; cases e
                · rw [hv] at e
                  obtain rfl : g' = j := by simpa [Value.ownBlock] using e
                  rw [e2, hm] at hb2
                  cases hb2)
            go_wp2_with (at_mapUpdate; refine asc_put _ rfl _ _ _ 72 rfl 70 4 Try.underlying72 (PairK Y) (pairT Y) MB _ rfl HM5.out _ _ rfl rfl HPKK.out HPKL.out ?_; intro W5 L2 hmi hput hgr; obtain ⟨SN, hsn, hm5, hl5, hr5, h6x, h6y⟩ := HUP.out W5 L2 hmi hput hgr; have HSN := Lib.hid hsn; have HM6 := Lib.hid hm5; have HL6 := Lib.hid hl5; have HR6 := Lib.hid hr5; clear hmi hput hgr hsn hm5 hl5 hr5)
            clear hrun2 HPK HPKK HPKL HNOT HUP
            all_goals
              clear hc80 h80 HL5 HR5 HM5 HFRE HSKIP h5x h5y h5p0 h5p1 HLWY
              go_loopw [5, 80] (fun l i W2 => ∃ (j n2 : Nat) (AO2 : Option Addr) (co2 : Nat), j ≤ q1 ∧ i = .int .i64 (j : Int) ∧ l = .slice AO2 n2 co2 ∧ Hid (In2 w1 G MB n2 j AO2 co2 ps0 (ks1.zip ks3) SN W2)) (fun _ i _ => q1 - (intOf i).toNat)
              case atStart => exact ⟨0, k, some ⟨g, 0, none⟩, co, Nat.zero_le _, rfl, rfl, Lib.hid ⟨HL6.out, by simpa using HR6.out, by have := HK.out; omega, HM6.out⟩⟩
              case round =>
                obtain ⟨j, n2, AO2, co2, hj, rfl, rfl, HI2⟩ := hrel
                by_cases hlt : j < q1
                · obtain ⟨xi, hxi⟩ : ∃ xi, ks1[j]? = some xi := ⟨_, List.getElem?_eq_getElem (by rw [HL1b.out]; exact hlt)⟩
                  obtain ⟨yi, hyi⟩ : ∃ yi, ks3[j]? = some yi := ⟨_, List.getElem?_eq_getElem (by rw [HL3b.out]; exact hlt)⟩
                  obtain ⟨h1, p1, rfl, hh1, hxa⟩ := HKC1.out j xi hxi
                  obtain ⟨h3, p3, rfl, hh3, hya⟩ := HKC3.out j yi hyi
                  have hlow := HI2.out.low
                  have t1 := (hlow.cell (p := ⟨g1, o1 + 2, none⟩) HGXL.out).trans HCX.out.2.2
                  have t2 := (hlow.cell (p := ⟨g3, o3 + 2, none⟩) HGYL.out).trans HCY.out.2.2
                  have hown : ∀ z, z ∈ (Value.ownBlock (.slice AO2 n2 co2)).toList → w1.heap.size ≤ z ∧ z < wr.heap.size ∧ z ≠ MB := fun z hz => by
                    have hz2 : Value.ownBlock (.slice AO2 n2 co2) = some z := by simpa using hz
                    refine ⟨(HI2.out.row.lt z hz2).1, (HI2.out.row.lt z hz2).2, fun e2 => ?_⟩
                    obtain ⟨es, clock, hm, -⟩ := HI2.out.map
                    rcases HI2.out.row.2 with ⟨h0, -⟩ | ⟨g', cap', cur, hv, -, hb2, -⟩
                    · rw [h0] at hz2; cases hz2
                    · rw [hv] at hz2
                      obtain rfl : g' = z := by simpa [Value.ownBlock] using hz2
                      rw [e2, hm] at hb2
                      cases hb2
                  have hg1n : g1 ∉ (Value.ownBlock (.slice AO2 n2 co2)).toList := fun h => by have h9 := (hown g1 h).1; have h8 : g1 < w1.heap.size := HGXL.out; omega
                  have hg3n : g3 ∉ (Value.ownBlock (.slice AO2 n2 co2)).toList := fun h => by have h9 := (hown g3 h).1; have h8 : g3 < w1.heap.size := HGYL.out; omega
                  have hmbn : MB ∉ (Value.ownBlock (.slice AO2 n2 co2)).toList := fun h => (hown MB h).2.2 rfl
                  have HK2 := Lib.hid (show ∀ Y, Fr (Value.ownBlock (.slice AO2 n2 co2)).toList wr Y → (fun Y => Y.cell? ⟨g1, o1 + 2, none⟩ = some (.slice (some ⟨h1, p1, none⟩) q1 d1) ∧ Y.cell? ⟨g3, o3 + 2, none⟩ = some (.slice (some ⟨h3, p3, none⟩) q1 d3) ∧ Hid (Fr (Value.ownBlock (.slice AO2 n2 co2)).toList wr Y)) Y from fun Y h => ⟨cell_fr h t1 hg1n, cell_fr h t2 hg3n, Lib.hid h⟩)
                  have HNX := Lib.hid (show ∀ (g5 c5 : Nat) (w5 : World), w5.ownsRow w1.heap.size 70 2 (.slice (some ⟨g5, 0, none⟩) (n2 + 1) c5) (n2 + 1) (pflat (ps0 ++ (ks1.zip ks3).take j) ++ [.pointer (some ⟨h1, p1 + j * 3, none⟩), .pointer (some ⟨h3, p3 + j * 3, none⟩)]) ∧ Fr (Value.ownBlock (.slice AO2 n2 co2)).toList wr w5 → In2 w1 G MB (n2 + 1) (j + 1) (some ⟨g5, 0, none⟩) c5 ps0 (ks1.zip ks3) SN w5 from fun g5 c5 w5 h => by
                    have hz : (ks1.zip ks3).take (j + 1) = (ks1.zip ks3).take j ++ [(xi, yi)] := by
                      have hjz : j < (ks1.zip ks3).length := by rw [HZL.out]; exact hlt
                      rw [List.take_succ_eq_append_getElem hjz]
                      congr 2
                      rw [List.getElem_zip]
                      exact Prod.ext (List.getElem?_eq_some_iff.1 hxi).2 (List.getElem?_eq_some_iff.1 hyi).2
                    refine ⟨hlow.trans (h.2.below (fun z hz => (hown z hz).1) hlow.size), ?_, by have := HI2.out.len; omega, HI2.out.map.on (h.2.block MB HI2.out.map.lt hmbn)⟩
                    have hz1 := h.1
                    rw [hz, ← List.append_assoc, pflat_one, show pcells (xi, yi) = [.pointer (some ⟨h1, p1 + j * 3, none⟩), .pointer (some ⟨h3, p3 + j * 3, none⟩)] by rw [pcells, hxa, hya]]
                    exact hz1)
                  have HRW := Lib.hid (show ((wr.alloc (.cells #[.pointer (some ⟨h1, p1 + j * 3, none⟩), .pointer (some ⟨h3, p3 + j * 3, none⟩)] 70)).drew).ownsRow w1.heap.size 70 2 (.slice AO2 n2 co2) n2 (pflat (ps0 ++ (ks1.zip ks3).take j)) from (HI2.out.row.alloc _).drew)
                  have hn2 : n2 + 1 ≤ 1099511627776 := by
                    have i1 := HI2.out.len
                    have i2 := weigh_len ps0
                    have i3 := weigh_len (ks1.zip ks3)
                    have i4 := HZW.out
                    have i5 := HSZ.out
                    have i6 := HB.out
                    rw [HZL.out] at i3
                    omega
                  have CM := Lib.hid (show n2 + 1 ≤ maxLen by unfold maxLen; omega)
                  have CB := Lib.hid (show (n2 + 1) * 16 ≤ 140737488355328 by omega)
                  have CS := Lib.hid (show w1.heap.size ≤ ((wr.alloc (.cells #[.pointer (some ⟨h1, p1 + j * 3, none⟩), .pointer (some ⟨h3, p3 + j * 3, none⟩)] 70)).drew).heap.size from (hlow.alloc hlow.size _).drew.size)
                  clear hown hg1n hg3n hmbn hlow hxi hyi hn2 hxa hya h6x h6y
                  have hj0 : (0 : Int) ≤ (j : Int) := by omega
                  have hjm : (j : Int) < (q1 : Int) := by omega
                  go_wp2_with fail
                  go_region_held3 (fun Y => Y.cell? ⟨g1, o1 + 2, none⟩ = some (.slice (some ⟨h1, p1, none⟩) q1 d1) ∧ Y.cell? ⟨g3, o3 + 2, none⟩ = some (.slice (some ⟨h3, p3, none⟩) q1 d3) ∧ Hid (Fr (Value.ownBlock (.slice AO2 n2 co2)).toList wr Y))
                    (first | exact HK2.out _ (Fr.refl _ _).drew | exact HK2.out _ (Fr.alloc _ _).drew | exact HK2.out _ HAP.out.2)
                    (first | (refine step_append_lies _ (by rfl) _ _ _ (by rfl) w1.heap.size 70 i0 _ 2 16 Try.underlying71 HI.out.1 HI.out.2.1 HI.out.2.2.1 HI.out.2.2.2 rfl (by decide) (.slice AO2 n2 co2) n2 (pflat (ps0 ++ (ks1.zip ks3).take j)) (by rfl) HRW.out ⟨wr.heap.size, 0, none⟩ 1 1 [.pointer (some ⟨h1, p1 + j * 3, none⟩), .pointer (some ⟨h3, p3 + j * 3, none⟩)] (by rfl) (by rfl) (World.news_of_block (heap_alloc_new wr _)) (two_leaf _ _) (by decide) CM.out CB.out CS.out (wr.heap.size + 1) (by simp) ?_; intro g5 c5 w5 ho5 hg5 hat5 hlt5; have HAP := Lib.hid (And.intro ho5 (Fr.trans (S := (Value.ownBlock (.slice AO2 n2 co2)).toList) (Fr.alloc wr (.cells #[.pointer (some ⟨h1, p1 + j * 3, none⟩), .pointer (some ⟨h3, p3 + j * 3, none⟩)] 70)).drew (Fr.grown (S := (Value.ownBlock (.slice AO2 n2 co2)).toList) hg5 (fun _ e => by rw [e]; simp)) (fun _ h => Or.inl h))); clear ho5 hg5 hat5 hlt5))
                  have HNEW := Lib.hid (HNX.out _ _ _ HAP.out)
                  clear ‹_ ∧ _ ∧ Hid (Fr _ wr _)›
                  clear t1 t2
                  go_wp2_with fail
                  go_roundw
                  case rel => exact ⟨j + 1, n2 + 1, _, _, by omega, by go_num, rfl, HNEW⟩
                  case measure => simp [intOf]; omega
                · obtain rfl : j = q1 := by omega
                  go_wp2_with fail
                  go_roundg (weigh (ps0 ++ ks1.zip ks3))
                  case measure =>
                    rw [HG.out, weigh_app, weigh_app]
                    have := HZW.out
                    simp [weigh]
                    omega
                  case rel => exact ⟨n2, AO2, co2, cnt + 1, ps0 ++ ks1.zip ks3, SN, rfl, by first | rfl | go_num, Lib.hid rfl, Lib.hid (HEND.out _ _ _ _ _ HSN.out HI2.out)⟩
          · have HE := Lib.hid (show exEq a b = false by
              rw [HAB.out, HFE.out]
              cases h : exEqs x.ex.args y.ex.args with
              | false => simp
              | true => have := eqs_len _ _ h; have := HQ1.out; have := HQ3.out; omega)
            have hd : ((q1 : Int) != (q3 : Int)) = true := by simp; omega
            subst hkd; subst hnm
            clear hq
            go_wp2_with fail
            obtain ⟨X, hX⟩ : ∃ X, X = wr.alloc (.cells #[.pointer (some ⟨g1, o1, none⟩), .pointer (some ⟨g3, o3, none⟩)] 70) := ⟨_, rfl⟩
            rw [← hX]
            have HX := Lib.hid (pair_box hX)
            obtain ⟨hp0, hp1, hkX⟩ := pair_box_cells hX
            have hx0 := hkX hx0
            have hx1 := hkX hx1
            have hx2 := hkX hx2
            have hy0 := hkX hy0
            have hy1 := hkX hy1
            have hy2 := hkX hy2
            clear hkX hX
            generalize hpb : wr.heap.size = pb at hp0 hp1 ⊢
            have HPB := Lib.hid hpb
            clear hpb
            go_region_held3 (fun Y => Y.cell? ⟨pb, 0, none⟩ = some (.pointer (some ⟨g1, o1, none⟩)) ∧ Y.cell? ⟨pb, 1, none⟩ = some (.pointer (some ⟨g3, o3, none⟩))) (exact ⟨hp0, hp1⟩) (fail)
            all_goals clear ‹_ ∧ _›
            have hbk : (K1 != K1) = false := by simp
            go_wp2_with fail
            go_quiet (fail)
            go_wp2_with fail
            go_ret
            exact ⟨by rw [HE.out]; rfl, fin_below HL1.out HQ.out.low HX.out.1 _⟩
        · have HE := Lib.hid (show exEq a b = false by rw [HAB.out, HFE.out, decide_eq_false hnm, Bool.false_and, Bool.and_false, Bool.and_false])
          have hbn := beq_no hnm
          subst hkd
          clear hnm
          go_wp2_with fail
          obtain ⟨X, hX⟩ : ∃ X, X = wr.alloc (.cells #[.pointer (some ⟨g1, o1, none⟩), .pointer (some ⟨g3, o3, none⟩)] 70) := ⟨_, rfl⟩
          rw [← hX]
          have HX := Lib.hid (pair_box hX)
          obtain ⟨hp0, hp1, hkX⟩ := pair_box_cells hX
          have hx0 := hkX hx0
          have hx1 := hkX hx1
          have hx2 := hkX hx2
          have hy0 := hkX hy0
          have hy1 := hkX hy1
          have hy2 := hkX hy2
          clear hkX hX
          generalize hpb : wr.heap.size = pb at hp0 hp1 ⊢
          have HPB := Lib.hid hpb
          clear hpb
          go_region_held3 (fun Y => Y.cell? ⟨pb, 0, none⟩ = some (.pointer (some ⟨g1, o1, none⟩)) ∧ Y.cell? ⟨pb, 1, none⟩ = some (.pointer (some ⟨g3, o3, none⟩))) (exact ⟨hp0, hp1⟩) (fail)
          all_goals clear ‹_ ∧ _›
          have hbk : (K1 != K1) = false := by simp
          go_wp2_with fail
          go_quiet (fail)
          go_wp2_with fail
          go_ret
          exact ⟨by rw [HE.out]; rfl, fin_below HL1.out HQ.out.low HX.out.1 _⟩
      · have HE := Lib.hid (show exEq a b = false by rw [HAB.out, HFE.out, decide_eq_false hkd, Bool.false_and, Bool.and_false])
        have hbk : (K1 != K3) = true := by simpa using hkd
        clear hkd
        go_wp2_with fail
        obtain ⟨X, hX⟩ : ∃ X, X = wr.alloc (.cells #[.pointer (some ⟨g1, o1, none⟩), .pointer (some ⟨g3, o3, none⟩)] 70) := ⟨_, rfl⟩
        rw [← hX]
        have HX := Lib.hid (pair_box hX)
        obtain ⟨hp0, hp1, hkX⟩ := pair_box_cells hX
        have hx0 := hkX hx0
        have hx1 := hkX hx1
        have hx2 := hkX hx2
        have hy0 := hkX hy0
        have hy1 := hkX hy1
        have hy2 := hkX hy2
        clear hkX hX
        generalize hpb : wr.heap.size = pb at hp0 hp1 ⊢
        have HPB := Lib.hid hpb
        clear hpb
        go_region_held3 (fun Y => Y.cell? ⟨pb, 0, none⟩ = some (.pointer (some ⟨g1, o1, none⟩)) ∧ Y.cell? ⟨pb, 1, none⟩ = some (.pointer (some ⟨g3, o3, none⟩))) (exact ⟨hp0, hp1⟩) (fail)
        all_goals clear ‹_ ∧ _›
        go_wp2_with fail
        go_quiet (fail)
        go_wp2_with fail
        go_ret
        exact ⟨by rw [HE.out]; rfl, fin_below HL1.out HQ.out.low HX.out.1 _⟩
end Go.Proofs.Ytliifdiajcahdaa
