/- The contract of the program's own EqualExpr. Condition: fewer than 2^40 nodes. -/
import Derived.Test.YtjhgchpejipdoaaNodes
import Derived.Test.YtjhgchpejipdoaaOwnDepth
import Derived.Test.YtjhgchpejipdoaaSpecEqual
import Derived.Deep.LoopGhost
import Derived.Deep.RegionHeld3
import Derived.Test.YtjhgchpejipdoaaLawSizes
namespace Go.Proofs.Ytjhgchpejipdoaa
open Go Go.RowKit

/-- A pair of parts that is still to be compared. -/
abbrev Pr (wo : World) : Type := It wo × It wo
def pcells {wo : World} (p : Pr wo) : List Value := p.1.cells ++ p.2.cells
def pflat {wo : World} (ps : List (Pr wo)) : List Value := ps.flatMap pcells
def allEq {wo : World} (ps : List (Pr wo)) : Bool := ps.all (fun p => exEq p.1.ex p.2.ex)
def weigh {wo : World} : List (Pr wo) → Nat
  | [] => 0
  | p :: r => exSize p.1.ex + weigh r
theorem pflat_len {wo : World} (ps : List (Pr wo)) : (pflat ps).length = ps.length * 6 := by
  induction ps with
  | nil => rfl
  | cons p r ih => rw [pflat, List.flatMap_cons, List.length_append, ← pflat, ih]; simp [pcells, It.cells]; omega
theorem pflat_one {wo : World} (ps : List (Pr wo)) (p : Pr wo) : pflat (ps ++ [p]) = pflat ps ++ pcells p := by simp [pflat]
theorem all_one {wo : World} (ps : List (Pr wo)) (p : Pr wo) : allEq (ps ++ [p]) = (allEq ps && exEq p.1.ex p.2.ex) := by simp [allEq]
theorem all_more {wo : World} (ps qs : List (Pr wo)) : allEq (ps ++ qs) = (allEq ps && allEq qs) := by simp [allEq]
theorem weigh_app {wo : World} : ∀ (a b : List (Pr wo)), weigh (a ++ b) = weigh a + weigh b := by
  intro a
  induction a with
  | nil => intro b; simp [weigh]
  | cons p r ih => intro b; rw [List.cons_append, weigh, weigh, ih]; omega
theorem weigh_len {wo : World} (ps : List (Pr wo)) : ps.length ≤ weigh ps := by
  induction ps with
  | nil => simp [weigh]
  | cons p r ih => rw [weigh, List.length_cons]; have := exSize_pos p.1.ex; omega
theorem zip_eq {wo : World} : ∀ (xs ys : List (It wo)), xs.length = ys.length → allEq (xs.zip ys) = exEqs (xs.map It.ex) (ys.map It.ex) := by
  intro xs
  induction xs with
  | nil => intro ys h; cases ys with
    | nil => rfl
    | cons y r => simp at h
  | cons x r ih => intro ys h; cases ys with
    | nil => simp at h
    | cons y s =>
      rw [List.zip_cons_cons, List.map_cons, List.map_cons, exEqs, ← ih s (by simpa using h)]
      simp [allEq]
theorem zip_weigh {wo : World} : ∀ (xs ys : List (It wo)), xs.length = ys.length → weigh (xs.zip ys) = exSizes (xs.map It.ex) := by
  intro xs
  induction xs with
  | nil => intro ys _; rfl
  | cons x r ih => intro ys h; cases ys with
    | nil => simp at h
    | cons y s =>
      rw [List.zip_cons_cons, weigh, List.map_cons, exSizes, ih s (by simpa using h)]

/-- The last pair of the list, written out. -/
theorem pair_top {wo W : World} {ps : List (Pr wo)} {p : Pr wo} {AO : Option Addr} {n co base : Nat} (hn : n = ps.length) (h : W.ownsRow base 48 6 (.slice AO (n + 1) co) (n + 1) (pflat (ps ++ [p]))) :
    ∃ g, AO = some ⟨g, 0, none⟩ ∧ g < W.heap.size ∧ base ≤ g ∧ n + 1 ≤ co ∧ co ≤ maxLen ∧ (∀ (j : Nat) (v : Value), (pcells p)[j]? = some v → W.cell? ⟨g, n * 6 + j, none⟩ = some v) ∧ W.ownsRow base 48 6 (.slice AO n co) n (pflat ps) := by
  subst hn
  rw [pflat_one] at h
  obtain ⟨g, cap, hv, h1, h2⟩ := h.form (by omega)
  cases hv
  have hx := pflat_len ps
  refine ⟨g, rfl, h2, h1, ?_, ?_, fun j v hj => ?_, ownsRow_pop (by rw [hx]) h⟩
  · rcases h.2 with ⟨h0, -⟩ | ⟨g', cap', cur, hv, -, -, hn, -⟩
    · cases h0
    · cases hv; exact hn
  · rcases h.2 with ⟨h0, -⟩ | ⟨g', cap', cur, hv, -, -, -, hm, -⟩
    · cases h0
    · cases hv; exact hm
  · have hj6 : j < 6 := by have := (List.getElem?_eq_some_iff.1 hj).1; simpa [pcells, It.cells] using this
    rw [h.cellAt (ps.length * 6 + j) (by omega), List.getElem?_append_right (by omega), hx, Nat.add_sub_cancel_left]
    exact hj

theorem keep6_of {wr W : World} {a b c d e f : Addr} {x1 x2 x3 x4 x5 x6 : Value} (h : Hid (wr.cell? a = some x1 ∧ wr.cell? b = some x2 ∧ wr.cell? c = some x3 ∧ wr.cell? d = some x4 ∧ wr.cell? e = some x5 ∧ wr.cell? f = some x6)) (hb : Below wr.heap.size wr W) :
    W.cell? a = some x1 ∧ W.cell? b = some x2 ∧ W.cell? c = some x3 ∧ W.cell? d = some x4 ∧ W.cell? e = some x5 ∧ W.cell? f = some x6 ∧ Hid (Below wr.heap.size wr W) := by
  have k : ∀ {p : Addr} {x : Value}, wr.cell? p = some x → W.cell? p = some x := fun {p x} hp => (hb.cell (p := p) (World.block_lt_of_cell? wr _ hp)).trans hp
  obtain ⟨h1, h2, h3, h4, h5, h6⟩ := h.out
  exact ⟨k h1, k h2, k h3, k h4, k h5, k h6, Lib.hid hb⟩
theorem kids_all {wo : World} {A : Option Addr} {q c : Nat} {l : List Ex} {bs : List Nat} (h : SlIs wo (.slice A q c) l bs) : ∃ ks : List (It wo), ks.map It.ex = l ∧ ∀ j x, ks[j]? = some x → ∃ g o, A = some ⟨g, o, none⟩ ∧ g < wo.heap.size ∧ wo.cell? ⟨g, o + j * 3, none⟩ = some (.int .i64 x.ex.kind) ∧ wo.cell? ⟨g, o + j * 3 + 1, none⟩ = some (.string x.ex.name) ∧ wo.cell? ⟨g, o + j * 3 + 2, none⟩ = some x.1.2.2.1 := by
  obtain ⟨-, h⟩ := kids_of h
  rcases h with rfl | ⟨g, o, rfl, hg, ks, e1, e2⟩
  · exact ⟨[], rfl, fun j x hx => by simp at hx⟩
  · refine ⟨ks, e1, fun j x hx => ⟨g, o, rfl, hg, ?_⟩⟩
    have hj : j < ks.length := (List.getElem?_eq_some_iff.1 hx).1
    have hs : flat ks = flat (ks.take j) ++ (x.cells ++ flat (ks.drop (j + 1))) := by
      rw [← List.append_assoc, ← flat_one, flat, flat, flat, ← List.flatMap_append]
      congr 1
      have : ks.take j ++ [x] = ks.take (j + 1) := by
        rw [List.take_succ_eq_append_getElem hj, (List.getElem?_eq_some_iff.1 hx).2]
      rw [this, List.take_append_drop]
    have hl : (flat (ks.take j)).length = j * 3 := by rw [flat_len, List.length_take, Nat.min_eq_left (by omega)]
    have hc : ∀ (i : Nat) (v : Value), x.cells[i]? = some v → wo.cell? ⟨g, o + j * 3 + i, none⟩ = some v := by
      intro i v hi
      have hi3 : i < 3 := (List.getElem?_eq_some_iff.1 hi).1
      rw [Nat.add_assoc]
      refine e2 _ _ ?_
      rw [hs, List.getElem?_append_right (by omega), hl, Nat.add_sub_cancel_left, List.getElem?_append_left (by simpa [It.cells] using hi3)]
      exact hi
    exact ⟨hc 0 _ rfl, hc 1 _ rfl, hc 2 _ rfl⟩
/-- The two boxes of the pair that was taken. -/
structure TwoBox (wr X : World) (b1 b2 : Nat) (o1 o2 : Obj) : Prop where
  low : Below wr.heap.size wr X
  fst : X.heap[b1]? = some o1
  snd : X.heap[b2]? = some o2
theorem twobox_xy {wr X : World} {o1 o2 : Obj} (h : X = ((wr.alloc o1).alloc o2).drew) : TwoBox wr X wr.heap.size (wr.heap.size + 1) o1 o2 := by
  subst h
  refine ⟨(((Below.refl _ wr).alloc (Nat.le_refl _) _).alloc (by simp) _).drew, ?_, ?_⟩
  · exact (Below.heap_alloc _ _ _ (by simp)).trans (World.alloc_heap_new wr o1)
  · have := World.alloc_heap_new (wr.alloc o1) o2
    rw [World.size_alloc] at this
    exact this
theorem twobox_yx {wr X : World} {o1 o2 : Obj} (h : X = ((wr.alloc o2).alloc o1).drew) : TwoBox wr X (wr.heap.size + 1) wr.heap.size o1 o2 := ⟨(twobox_xy h).low, (twobox_xy h).snd, (twobox_xy h).fst⟩
/-- What the inner loop holds. -/
structure In2 (w : World) (b1 b2 n j : Nat) (o1 o2 : Obj) (AO : Option Addr) (co : Nat) (ps0 zs : List (Pr w)) (W : World) : Prop where
  low : Below w.heap.size w W
  row : W.ownsRow w.heap.size 48 6 (.slice AO n co) n (pflat (ps0 ++ zs.take j))
  len : n = ps0.length + j
  fst : W.heap[b1]? = some o1
  snd : W.heap[b2]? = some o2
theorem row_not {W : World} {B g n base size c : Nat} {t e : TypeId} {cs : Array Value} {A : Option Addr} {xs : List Value} (h : W.heap[B]? = some (.cells cs t (0, 0))) (hte : t ≠ e) (hr : W.ownsRow base e size (.slice A n c) n xs) (hg : Value.ownBlock (.slice A n c) = some g) : g ≠ B := by
  rcases hr.2 with ⟨h0, -⟩ | ⟨g', cap, cur, hv, -, hb, -⟩
  · rw [h0] at hg; cases hg
  · cases hv
    obtain rfl : g' = g := by simpa [Value.ownBlock] using hg
    intro e1
    subst e1
    rw [h] at hb
    cases hb
    exact hte rfl
theorem Try.infoTwo : (Try.prog.info? 48).map (fun i => (i.zero, i.size, i.bytes)) = some (some (.agg #[.int .i64 0, .string ⟨#[]⟩, .slice none 0 0, .int .i64 0, .string ⟨#[]⟩, .slice none 0 0]), 6, 96) := by kernel_rfl

theorem cell_fr {S : List Nat} {W Y : World} (h : Fr S W Y) {p : Addr} {v : Value} (hc : W.cell? p = some v) (hn : p.block ∉ S) : Y.cell? p = some v := by
  have hl := World.block_lt_of_cell? W p hc
  exact (World.cell?_of_block (w := W) (h.block p.block hl hn)).trans hc
theorem six_leaf (k1 k2 : Int) (s1 s2 : ByteArray) (A B : Option Addr) (m n c d : Nat) : ∀ u ∈ [Value.int .i64 k1, .string s1, .slice A m c, .int .i64 k2, .string s2, .slice B n d], u.oneCell' = true := by
  intro u hu
  simp at hu
  rcases hu with rfl | rfl | rfl | rfl | rfl | rfl <;> rfl
/-- What the outer loop holds. -/
structure Eq2 (w : World) (a b : Ex) (n : Nat) (AO : Option Addr) (co : Nat) (ps : List (Pr w)) (W : World) : Prop where
  low : Below w.heap.size w W
  row : W.ownsRow w.heap.size 48 6 (.slice AO n co) n (pflat ps)
  len : ps.length = n
  eq : exEq a b = allEq ps
  size : weigh ps ≤ exSize a

set_option maxHeartbeats 4000000 in
theorem own_equal (a b : Ex) (v v2 : Value) (bs bs2 : List Nat) (w : World) (hv : ExIs w v a bs) (hv2 : ExIs w v2 b bs2) (hb : exSize a ≤ 1099511627776) : Calls Try.prog 12 #[v, v2] w (RetPost (.bool (exEq a b)) w) := by
  obtain ⟨i0, hi, hz0, hz1, hz2⟩ := info_parts Try.infoTwo
  have HI := Lib.hid (And.intro hi (And.intro hz0 (And.intro hz1 hz2)))
  clear hi hz0 hz1 hz2
  obtain ⟨u, rfl, hs, hu⟩ := id hv
  obtain ⟨A, c, rfl, hc1, hc2, -⟩ := id hu
  obtain ⟨u2, rfl, hs2, hu2⟩ := id hv2
  obtain ⟨A2, c2, rfl, hd1, hd2, -⟩ := id hu2
  have HV := Lib.hid hv
  have HV2 := Lib.hid hv2
  have HB := Lib.hid hb
  obtain ⟨m, hm⟩ : ∃ m, m = a.args.length := ⟨_, rfl⟩
  obtain ⟨m2, hm2⟩ : ∃ m2, m2 = b.args.length := ⟨_, rfl⟩
  rw [← hm] at HV hc1 ⊢
  rw [← hm2] at HV2 hd1 ⊢
  clear hv hu hv2 hu2 hm hm2 hb
  go_enter Try.func12, Try.ntmps12
  go_wp2_with fail
  go_loopg [5] (exSize a) (fun gk l wr => ∃ (n : Nat) (AO : Option Addr) (co : Nat) (ps : List (Pr w)), l = .slice AO n co ∧ Hid (gk = weigh ps) ∧ Hid (Eq2 w a b n AO co ps wr))
  case atStart =>
    refine ⟨1, some ⟨w.heap.size + 1 + 1, 0, none⟩, 1, [(⟨(0, a, .slice A m c, bs), HV.out⟩, ⟨(0, b, .slice A2 m2 c2, bs2), HV2.out⟩)], rfl, Lib.hid (by simp [weigh, It.ex]), Lib.hid ⟨?_, ?_, rfl, ?_, ?_⟩⟩
    · exact (((Below.refl _ w).alloc (Nat.le_refl _) _).alloc (by simp) _).alloc (by simp; omega) _
    · have := World.ownsRow_lit ((w.alloc (.cells #[.int .i64 a.kind, .string a.name, .slice A m c] 26)).alloc (.cells #[.int .i64 b.kind, .string b.name, .slice A2 m2 c2] 26)) (base := w.heap.size) (e := 48) (size := 6) #[.int .i64 a.kind, .string a.name, .slice A m c, .int .i64 b.kind, .string b.name, .slice A2 m2 c2] 1 (by simp; omega) (by unfold maxLen; omega) rfl
      simp only [World.size_alloc] at this
      exact this
    · simp [allEq, It.ex]
    · simp [weigh, It.ex]
  case round =>
    obtain ⟨n, AO, co, ps, rfl, HG, HQ⟩ := hrel
    by_cases h0 : n = 0
    · have HZ := Lib.hid (show exEq a b = true by
        have h1 : ps = [] := List.eq_nil_of_length_eq_zero (by rw [HQ.out.len, h0])
        rw [HQ.out.eq, h1]; rfl)
      subst h0
      go_wp2_with fail
      go_ret
      exact ⟨by rw [HZ.out]; rfl, HQ.out.low⟩
    · obtain ⟨k, rfl⟩ : ∃ k, n = k + 1 := ⟨n - 1, by omega⟩
      obtain ⟨ps0, ⟨x, y⟩, rfl⟩ : ∃ ps0 p, ps = ps0 ++ [p] := by
        rcases last_of ps with h | h
        · have := HQ.out.len
          rw [h] at this
          simp at this
        · exact h
      have hk : k = ps0.length := by have := HQ.out.len; simp at this; omega
      obtain ⟨g, rfl, hgl, hgb, hco1, hco2, hcell, hpop⟩ := pair_top hk HQ.out.row
      obtain ⟨A1, d1, hu1, hsl1, ha1, ha2⟩ := x.slice
      obtain ⟨A3, d3, hu3, hsl3, ha3, ha4⟩ := y.slice
      obtain ⟨q1, hq1⟩ : ∃ q1, q1 = x.ex.args.length := ⟨_, rfl⟩
      obtain ⟨q3, hq3⟩ : ∃ q3, q3 = y.ex.args.length := ⟨_, rfl⟩
      rw [← hq1] at hu1 hsl1 ha1
      rw [← hq3] at hu3 hsl3 ha3
      have hf := exEq_parts x.ex y.ex
      obtain ⟨K1, hK1⟩ : ∃ K, K = x.ex.kind := ⟨_, rfl⟩
      obtain ⟨S1, hS1⟩ : ∃ S, S = x.ex.name := ⟨_, rfl⟩
      obtain ⟨K3, hK3⟩ : ∃ K, K = y.ex.kind := ⟨_, rfl⟩
      obtain ⟨S3, hS3⟩ : ∃ S, S = y.ex.name := ⟨_, rfl⟩
      rw [← hK1, ← hS1, ← hK3, ← hS3] at hf
      have e0 : wr.cell? ⟨g, k * 6, none⟩ = some (.int .i64 K1) := by rw [hK1]; exact hcell 0 _ rfl
      have e1 : wr.cell? ⟨g, k * 6 + 1, none⟩ = some (.string S1) := by rw [hS1]; exact hcell 1 _ rfl
      have e2 : wr.cell? ⟨g, k * 6 + 2, none⟩ = some (.slice A1 q1 d1) := by rw [← hu1]; exact hcell 2 _ rfl
      have e3 : wr.cell? ⟨g, k * 6 + 3, none⟩ = some (.int .i64 K3) := by rw [hK3]; exact hcell 3 _ rfl
      have e4 : wr.cell? ⟨g, k * 6 + 4, none⟩ = some (.string S3) := by rw [hS3]; exact hcell 4 _ rfl
      have e5 : wr.cell? ⟨g, k * 6 + 5, none⟩ = some (.slice A3 q3 d3) := by rw [← hu3]; exact hcell 5 _ rfl
      have HFE := Lib.hid hf
      have hk40 : (k : Int) + 1 ≤ 1099511627776 := by
        have h1 := weigh_len (ps0 ++ [(x, y)])
        have h2 := HQ.out.size
        have h3 := HB.out
        simp at h1
        omega
      have hco3 : (co : Int) ≤ 9223372036854775807 := by unfold maxLen at hco2; omega
      have H6 := Lib.hid (And.intro e0 (And.intro e1 (And.intro e2 (And.intro e3 (And.intro e4 e5)))))
      have HPOP := Lib.hid hpop
      have HK := Lib.hid hk
      have HU1 := Lib.hid hu1
      have HU3 := Lib.hid hu3
      have HS1 := Lib.hid hsl1
      have HS3 := Lib.hid hsl3
      have HQ1 := Lib.hid hq1
      have HQ3 := Lib.hid hq3
      have HGL := Lib.hid hgl
      clear hpop hk hu1 hu3 hsl1 hsl3 hq1 hq3 hcell hco2 hf hK1 hS1 hK3 hS3
      have hk0 : (0 : Int) ≤ (k : Int) := by omega
      have hk1 : (k : Int) < (k : Int) + 1 := by omega
      have hwk : IntKind.i64.wrap ((k : Int) + 1 - 1) = (k : Int) := by rw [IntWalk.i64_in _ (by omega)]; omega
      have hwk2 : IntKind.i64.wrap (k : Int) = (k : Int) := by rw [IntWalk.i64_in _ (by omega)]
      go_wp2_with fail
      go_region_held3 (fun X => X.cell? ⟨g, k * 6, none⟩ = some (.int .i64 K1) ∧ X.cell? ⟨g, k * 6 + 1, none⟩ = some (.string S1) ∧ X.cell? ⟨g, k * 6 + 2, none⟩ = some (.slice A1 q1 d1) ∧ X.cell? ⟨g, k * 6 + 3, none⟩ = some (.int .i64 K3) ∧ X.cell? ⟨g, k * 6 + 4, none⟩ = some (.string S3) ∧ X.cell? ⟨g, k * 6 + 5, none⟩ = some (.slice A3 q3 d3) ∧ Hid (Below wr.heap.size wr X))
        (first | exact keep6_start H6.out | (refine keep6_of H6 ?_; repeat (first | exact Below.refl _ _ | apply Below.drew | (refine Below.alloc ?_ (by simp) _) | (refine Below.setCell ?_ (by simp) _)))) (fail)
      all_goals
        first
          | (obtain ⟨X, hX⟩ : ∃ X, X = ((wr.alloc (.cells #[.int .i64 K1, .string S1, .slice A1 q1 d1] 26)).alloc (.cells #[.int .i64 K3, .string S3, .slice A3 q3 d3] 26)).drew := ⟨_, rfl⟩
             rw [← hX]
             have HT := Lib.hid (twobox_xy hX)
             clear hX
             generalize wr.heap.size + 1 = b2 at HT ⊢
             generalize wr.heap.size = b1 at HT ⊢)
          | (obtain ⟨X, hX⟩ : ∃ X, X = ((wr.alloc (.cells #[.int .i64 K3, .string S3, .slice A3 q3 d3] 26)).alloc (.cells #[.int .i64 K1, .string S1, .slice A1 q1 d1] 26)).drew := ⟨_, rfl⟩
             rw [← hX]
             have HT := Lib.hid (twobox_yx hX)
             clear hX
             generalize wr.heap.size + 1 = b1 at HT ⊢
             generalize wr.heap.size = b2 at HT ⊢)
        clear ‹_ ∧ _ ∧ _ ∧ _ ∧ _ ∧ _ ∧ Hid (Below wr.heap.size wr _)›
        clear e0 e1 e2 e3 e4 e5
        have hx0 : X.cell? ⟨b1, 0, none⟩ = some (.int .i64 K1) := by have := HT.out.fst; simp [World.cell?, this]
        have hx1 : X.cell? ⟨b1, 1, none⟩ = some (.string S1) := by have := HT.out.fst; simp [World.cell?, this]
        have hx2 : X.cell? ⟨b1, 2, none⟩ = some (.slice A1 q1 d1) := by have := HT.out.fst; simp [World.cell?, this]
        have hy0 : X.cell? ⟨b2, 0, none⟩ = some (.int .i64 K3) := by have := HT.out.snd; simp [World.cell?, this]
        have hy1 : X.cell? ⟨b2, 1, none⟩ = some (.string S3) := by have := HT.out.snd; simp [World.cell?, this]
        have hy2 : X.cell? ⟨b2, 2, none⟩ = some (.slice A3 q3 d3) := by have := HT.out.snd; simp [World.cell?, this]
        have HLX := Lib.hid (HQ.out.low.trans (HT.out.low.mono HQ.out.low.size))
        have HRX := Lib.hid (row_on HPOP.out (fun j e => HT.out.low.block j (by rw [show j = g by simpa [Value.ownBlock, eq_comm] using e]; exact HGL.out)))
        have hqq1 : (q1 : Int) ≤ 9223372036854775807 := by omega
        have hqq3 : (q3 : Int) ≤ 9223372036854775807 := by omega
        have HAB := Lib.hid (show exEq a b = (allEq ps0 && exEq x.ex y.ex) by rw [HQ.out.eq, all_one])
        by_cases hkd : K1 = K3
        · by_cases hnm : S1 = S3
          · by_cases hq : q1 = q3
            · subst hkd; subst hnm; subst hq
              obtain ⟨ks1, hks1, hkc1⟩ := kids_all HS1.out
              obtain ⟨ks3, hks3, hkc3⟩ := kids_all HS3.out
              have hl1 : ks1.length = q1 := by rw [HQ1.out, ← hks1, List.length_map]
              have hl3 : ks3.length = q1 := by rw [HQ3.out, ← hks3, List.length_map]
              have hzl : (ks1.zip ks3).length = q1 := by rw [List.length_zip, hl1, hl3, Nat.min_self]
              have HZE := Lib.hid (show allEq (ks1.zip ks3) = exEqs x.ex.args y.ex.args by rw [zip_eq _ _ (by rw [hl1, hl3]), hks1, hks3])
              have HZW := Lib.hid (show weigh (ks1.zip ks3) + 1 = exSize x.ex by rw [zip_weigh _ _ (by rw [hl1, hl3]), hks1]; cases x.ex; rw [exSize]; rfl)
              have HKC1 := Lib.hid hkc1
              have HKC3 := Lib.hid hkc3
              have HL1 := Lib.hid hl1
              have HL3 := Lib.hid hl3
              have HZL := Lib.hid hzl
              have HWT := Lib.hid (show weigh ps0 + exSize x.ex ≤ exSize a by have := HQ.out.size; rw [weigh_app] at this; simpa [weigh] using this)
              have HEND := Lib.hid (show ∀ (AO2 : Option Addr) (n2 co2 : Nat) (W2 : World), In2 w b1 b2 n2 q1 (.cells #[.int .i64 K1, .string S1, .slice A1 q1 d1] 26 (0, 0)) (.cells #[.int .i64 K1, .string S1, .slice A3 q1 d3] 26 (0, 0)) AO2 co2 ps0 (ks1.zip ks3) W2 → Eq2 w a b n2 AO2 co2 (ps0 ++ ks1.zip ks3) W2 from fun AO2 n2 co2 W2 h => ⟨h.low, by have h2 := h.row; rw [List.take_of_length_le (by rw [HZL.out]; exact Nat.le_refl _)] at h2; exact h2, by rw [List.length_append, HZL.out, h.len], by rw [HAB.out, HFE.out, decide_eq_true rfl, decide_eq_true rfl, Bool.true_and, Bool.true_and, all_more, HZE.out], by rw [weigh_app]; have := HZW.out; have := HWT.out; omega⟩)
              clear hkc1 hkc3 hl1 hl3 hzl hks1 hks3
              go_wp2_with fail
              go_loopw [5, 59] (fun l i W2 => ∃ (j n2 : Nat) (AO2 : Option Addr) (co2 : Nat), j ≤ q1 ∧ i = .int .i64 (j : Int) ∧ l = .slice AO2 n2 co2 ∧ Hid (In2 w b1 b2 n2 j (.cells #[.int .i64 K1, .string S1, .slice A1 q1 d1] 26 (0, 0)) (.cells #[.int .i64 K1, .string S1, .slice A3 q1 d3] 26 (0, 0)) AO2 co2 ps0 (ks1.zip ks3) W2)) (fun _ i _ => q1 - (intOf i).toNat)
              case atStart => exact ⟨0, k, some ⟨g, 0, none⟩, co, Nat.zero_le _, rfl, rfl, Lib.hid ⟨HLX.out, by simpa using HRX.out, by have := HK.out; omega, HT.out.fst, HT.out.snd⟩⟩
              case round =>
                obtain ⟨j, n2, AO2, co2, hj, rfl, rfl, HI2⟩ := hrel
                by_cases hlt : j < q1
                · obtain ⟨xi, hxi⟩ : ∃ xi, ks1[j]? = some xi := ⟨_, List.getElem?_eq_getElem (by rw [HL1.out]; exact hlt)⟩
                  obtain ⟨yi, hyi⟩ : ∃ yi, ks3[j]? = some yi := ⟨_, List.getElem?_eq_getElem (by rw [HL3.out]; exact hlt)⟩
                  obtain ⟨g1, o1, rfl, hg1, cx0, cx1, cx2⟩ := HKC1.out j xi hxi
                  obtain ⟨g2, o2, rfl, hg2, cy0, cy1, cy2⟩ := HKC3.out j yi hyi
                  obtain ⟨A5, d5, hu5, -, -, -⟩ := xi.slice
                  obtain ⟨A7, d7, hu7, -, -, -⟩ := yi.slice
                  obtain ⟨q5, hq5⟩ : ∃ q5, q5 = xi.ex.args.length := ⟨_, rfl⟩
                  obtain ⟨q7, hq7⟩ : ∃ q7, q7 = yi.ex.args.length := ⟨_, rfl⟩
                  rw [← hq5] at hu5
                  rw [← hq7] at hu7
                  rw [hu5] at cx2
                  rw [hu7] at cy2
                  have hlow := HI2.out.low
                  have hown : ∀ z, z ∈ (Value.ownBlock (.slice AO2 n2 co2)).toList → w.heap.size ≤ z ∧ z < wr.heap.size ∧ z ≠ b1 ∧ z ≠ b2 := fun z hz => by
                    have hz2 : Value.ownBlock (.slice AO2 n2 co2) = some z := by simpa using hz
                    exact ⟨(HI2.out.row.lt z hz2).1, (HI2.out.row.lt z hz2).2, row_not HI2.out.fst (by decide) HI2.out.row hz2, row_not HI2.out.snd (by decide) HI2.out.row hz2⟩
                  have hb1n : b1 ∉ (Value.ownBlock (.slice AO2 n2 co2)).toList := fun h => (hown b1 h).2.2.1 rfl
                  have hb2n : b2 ∉ (Value.ownBlock (.slice AO2 n2 co2)).toList := fun h => (hown b2 h).2.2.2 rfl
                  have hg1n : g1 ∉ (Value.ownBlock (.slice AO2 n2 co2)).toList := fun h => by have := (hown g1 h).1; omega
                  have hg2n : g2 ∉ (Value.ownBlock (.slice AO2 n2 co2)).toList := fun h => by have := (hown g2 h).1; omega
                  have t1 : wr.cell? ⟨b1, 2, none⟩ = some (.slice (some ⟨g1, o1, none⟩) q1 d1) := by have := HI2.out.fst; simp [World.cell?, this]
                  have t2 : wr.cell? ⟨b2, 2, none⟩ = some (.slice (some ⟨g2, o2, none⟩) q1 d3) := by have := HI2.out.snd; simp [World.cell?, this]
                  have r0 : wr.cell? ⟨g1, o1 + j * 3, none⟩ = some (.int .i64 xi.ex.kind) := (hlow.cell (p := ⟨g1, o1 + j * 3, none⟩) hg1).trans cx0
                  have r1 : wr.cell? ⟨g1, o1 + j * 3 + 1, none⟩ = some (.string xi.ex.name) := (hlow.cell (p := ⟨g1, o1 + j * 3 + 1, none⟩) hg1).trans cx1
                  have r2 : wr.cell? ⟨g1, o1 + j * 3 + 2, none⟩ = some (.slice A5 q5 d5) := (hlow.cell (p := ⟨g1, o1 + j * 3 + 2, none⟩) hg1).trans cx2
                  have r3 : wr.cell? ⟨g2, o2 + j * 3, none⟩ = some (.int .i64 yi.ex.kind) := (hlow.cell (p := ⟨g2, o2 + j * 3, none⟩) hg2).trans cy0
                  have r4 : wr.cell? ⟨g2, o2 + j * 3 + 1, none⟩ = some (.string yi.ex.name) := (hlow.cell (p := ⟨g2, o2 + j * 3 + 1, none⟩) hg2).trans cy1
                  have r5 : wr.cell? ⟨g2, o2 + j * 3 + 2, none⟩ = some (.slice A7 q7 d7) := (hlow.cell (p := ⟨g2, o2 + j * 3 + 2, none⟩) hg2).trans cy2
                  have HK8 := Lib.hid (show ∀ Y, Fr (Value.ownBlock (.slice AO2 n2 co2)).toList wr Y → (fun Y => Y.cell? ⟨b1, 2, none⟩ = some (.slice (some ⟨g1, o1, none⟩) q1 d1) ∧ Y.cell? ⟨b2, 2, none⟩ = some (.slice (some ⟨g2, o2, none⟩) q1 d3) ∧ Y.cell? ⟨g1, o1 + j * 3, none⟩ = some (.int .i64 xi.ex.kind) ∧ Y.cell? ⟨g1, o1 + j * 3 + 1, none⟩ = some (.string xi.ex.name) ∧ Y.cell? ⟨g1, o1 + j * 3 + 2, none⟩ = some (.slice A5 q5 d5) ∧ Y.cell? ⟨g2, o2 + j * 3, none⟩ = some (.int .i64 yi.ex.kind) ∧ Y.cell? ⟨g2, o2 + j * 3 + 1, none⟩ = some (.string yi.ex.name) ∧ Y.cell? ⟨g2, o2 + j * 3 + 2, none⟩ = some (.slice A7 q7 d7) ∧ Hid (Fr (Value.ownBlock (.slice AO2 n2 co2)).toList wr Y)) Y from fun Y h => ⟨cell_fr h t1 hb1n, cell_fr h t2 hb2n, cell_fr h r0 hg1n, cell_fr h r1 hg1n, cell_fr h r2 hg1n, cell_fr h r3 hg2n, cell_fr h r4 hg2n, cell_fr h r5 hg2n, Lib.hid h⟩)
                  have hb1l : b1 < wr.heap.size := (Array.getElem?_eq_some_iff.1 HI2.out.fst).1
                  have hb2l : b2 < wr.heap.size := (Array.getElem?_eq_some_iff.1 HI2.out.snd).1
                  have HNX := Lib.hid (show ∀ (g3 c3 : Nat) (w3 : World), w3.ownsRow w.heap.size 48 6 (.slice (some ⟨g3, 0, none⟩) (n2 + 1) c3) (n2 + 1) (pflat (ps0 ++ (ks1.zip ks3).take j) ++ [.int .i64 xi.ex.kind, .string xi.ex.name, .slice A5 q5 d5, .int .i64 yi.ex.kind, .string yi.ex.name, .slice A7 q7 d7]) ∧ Fr (Value.ownBlock (.slice AO2 n2 co2)).toList wr w3 → In2 w b1 b2 (n2 + 1) (j + 1) (.cells #[.int .i64 K1, .string S1, .slice (some ⟨g1, o1, none⟩) q1 d1] 26 (0, 0)) (.cells #[.int .i64 K1, .string S1, .slice (some ⟨g2, o2, none⟩) q1 d3] 26 (0, 0)) (some ⟨g3, 0, none⟩) c3 ps0 (ks1.zip ks3) w3 from fun g3 c3 w3 h => by
                    have hz : (ks1.zip ks3).take (j + 1) = (ks1.zip ks3).take j ++ [(xi, yi)] := by
                      have hjz : j < (ks1.zip ks3).length := by rw [HZL.out]; exact hlt
                      rw [List.take_succ_eq_append_getElem hjz]
                      congr 2
                      rw [List.getElem_zip]
                      exact Prod.ext (List.getElem?_eq_some_iff.1 hxi).2 (List.getElem?_eq_some_iff.1 hyi).2
                    refine ⟨hlow.trans (h.2.below (fun z hz => (hown z hz).1) hlow.size), ?_, by have := HI2.out.len; omega, (h.2.block b1 hb1l hb1n).trans HI2.out.fst, (h.2.block b2 hb2l hb2n).trans HI2.out.snd⟩
                    have h1 := h.1
                    rw [hz, ← List.append_assoc, pflat_one, show pcells (xi, yi) = [.int .i64 xi.ex.kind, .string xi.ex.name, .slice A5 q5 d5, .int .i64 yi.ex.kind, .string yi.ex.name, .slice A7 q7 d7] by rw [pcells, It.cells, It.cells, hu5, hu7]; rfl]
                    exact h1)
                  have HRW := Lib.hid (show ((wr.alloc (.cells #[.int .i64 xi.ex.kind, .string xi.ex.name, .slice A5 q5 d5, .int .i64 yi.ex.kind, .string yi.ex.name, .slice A7 q7 d7] 48)).drew).ownsRow w.heap.size 48 6 (.slice AO2 n2 co2) n2 (pflat (ps0 ++ (ks1.zip ks3).take j)) from (HI2.out.row.alloc _).drew)
                  have hn2 : n2 + 1 ≤ 1099511627776 := by
                    have h1 := HI2.out.len
                    have h2 := weigh_len ps0
                    have h3 := weigh_len (ks1.zip ks3)
                    have h4 := HZW.out
                    have h5 := HWT.out
                    have h6 := HB.out
                    rw [HZL.out] at h3
                    omega
                  have CM := Lib.hid (show n2 + 1 ≤ maxLen by unfold maxLen; omega)
                  have CB := Lib.hid (show (n2 + 1) * 96 ≤ 140737488355328 by omega)
                  have CS := Lib.hid (show w.heap.size ≤ ((wr.alloc (.cells #[.int .i64 xi.ex.kind, .string xi.ex.name, .slice A5 q5 d5, .int .i64 yi.ex.kind, .string yi.ex.name, .slice A7 q7 d7] 48)).drew).heap.size from (hlow.alloc hlow.size _).drew.size)
                  clear hown hb1n hb2n hg1n hg2n hb1l hb2l cx0 cx1 cx2 cy0 cy1 cy2 hlow hxi hyi hu5 hu7 hq5 hq7 hn2
                  have hj0 : (0 : Int) ≤ (j : Int) := by omega
                  have hjm : (j : Int) < (q1 : Int) := by omega
                  go_wp2_with fail
                  go_region_held3 (fun Y => Y.cell? ⟨b1, 2, none⟩ = some (.slice (some ⟨g1, o1, none⟩) q1 d1) ∧ Y.cell? ⟨b2, 2, none⟩ = some (.slice (some ⟨g2, o2, none⟩) q1 d3) ∧ Y.cell? ⟨g1, o1 + j * 3, none⟩ = some (.int .i64 xi.ex.kind) ∧ Y.cell? ⟨g1, o1 + j * 3 + 1, none⟩ = some (.string xi.ex.name) ∧ Y.cell? ⟨g1, o1 + j * 3 + 2, none⟩ = some (.slice A5 q5 d5) ∧ Y.cell? ⟨g2, o2 + j * 3, none⟩ = some (.int .i64 yi.ex.kind) ∧ Y.cell? ⟨g2, o2 + j * 3 + 1, none⟩ = some (.string yi.ex.name) ∧ Y.cell? ⟨g2, o2 + j * 3 + 2, none⟩ = some (.slice A7 q7 d7) ∧ Hid (Fr (Value.ownBlock (.slice AO2 n2 co2)).toList wr Y))
                    (first | exact HK8.out _ (Fr.refl _ _).drew | exact HK8.out _ (Fr.alloc _ _).drew | exact HK8.out _ HAP.out.2)
                    (first | (refine step_append_lies _ (by rfl) _ _ _ (by rfl) w.heap.size 48 i0 _ 6 96 Try.underlying49 HI.out.1 HI.out.2.1 HI.out.2.2.1 HI.out.2.2.2 rfl (by decide) (.slice AO2 n2 co2) n2 (pflat (ps0 ++ (ks1.zip ks3).take j)) (by rfl) HRW.out ⟨wr.heap.size, 0, none⟩ 1 1 [.int .i64 xi.ex.kind, .string xi.ex.name, .slice A5 q5 d5, .int .i64 yi.ex.kind, .string yi.ex.name, .slice A7 q7 d7] (by rfl) (by rfl) (World.news_of_block (heap_alloc_new wr _)) (six_leaf _ _ _ _ _ _ _ _ _ _) (by decide) CM.out CB.out CS.out (wr.heap.size + 1) (by simp) ?_; intro g3 c3 w3 ho3 hg3 hat3 hlt3; have HAP := Lib.hid (And.intro ho3 (Fr.trans (S := (Value.ownBlock (.slice AO2 n2 co2)).toList) (Fr.alloc wr (.cells #[.int .i64 xi.ex.kind, .string xi.ex.name, .slice A5 q5 d5, .int .i64 yi.ex.kind, .string yi.ex.name, .slice A7 q7 d7] 48)).drew (Fr.grown (S := (Value.ownBlock (.slice AO2 n2 co2)).toList) hg3 (fun _ e => by rw [e]; simp)) (fun _ h => Or.inl h))); clear ho3 hg3 hat3 hlt3))
                  have HNEW := Lib.hid (HNX.out _ _ _ HAP.out)
                  clear ‹_ ∧ _ ∧ _ ∧ _ ∧ _ ∧ _ ∧ _ ∧ _ ∧ Hid (Fr _ wr _)›
                  clear t1 t2 r0 r1 r2 r3 r4 r5
                  go_wp2_with fail
                  go_roundw
                  case rel => exact ⟨j + 1, n2 + 1, _, _, by omega, by go_num, rfl, HNEW⟩
                  case measure => simp [intOf]; omega
                · obtain rfl : j = q1 := by omega
                  go_wp2_with fail
                  go_roundg (weigh (ps0 ++ ks1.zip ks3))
                  case measure =>
                    rw [HG.out, weigh_app, weigh_app]
                    have := HZW.out
                    simp [weigh]
                    omega
                  case rel => exact ⟨n2, AO2, co2, ps0 ++ ks1.zip ks3, rfl, Lib.hid rfl, Lib.hid (HEND.out _ _ _ _ HI2.out)⟩
            · have HE := Lib.hid (show exEq a b = false by
                rw [HAB.out, HFE.out]
                cases h : exEqs x.ex.args y.ex.args with
                | false => simp
                | true => have := eqs_len _ _ h; have := HQ1.out; have := HQ3.out; omega)
              have hd : ((q1 : Int) != (q3 : Int)) = true := by simp; omega
              subst hkd; subst hnm
              clear hq
              go_wp2_with fail
              go_ret
              exact ⟨by rw [HE.out]; rfl, HLX.out⟩
          · have HE := Lib.hid (show exEq a b = false by rw [HAB.out, HFE.out, decide_eq_false hnm, Bool.false_and, Bool.and_false, Bool.and_false])
            have hbn := beq_no hnm
            subst hkd
            clear hnm
            go_wp2_with fail
            go_ret
            exact ⟨by rw [HE.out]; rfl, HLX.out⟩
        · have HE := Lib.hid (show exEq a b = false by rw [HAB.out, HFE.out, decide_eq_false hkd, Bool.false_and, Bool.and_false])
          have hbk : (K1 != K3) = true := by simpa using hkd
          clear hkd
          go_wp2_with fail
          go_ret
          exact ⟨by rw [HE.out]; rfl, HLX.out⟩
end Go.Proofs.Ytjhgchpejipdoaa
