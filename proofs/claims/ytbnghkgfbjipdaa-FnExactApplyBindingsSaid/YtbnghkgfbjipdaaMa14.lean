/- The contract of the program's own (*copying).isLarge: true only where the result has more than 2097152 nodes. Condition: fewer than 2^40 nodes in each argument. The contract of the library's slices.Backward over a slice of expressions, for every round that keeps what lay below. No condition. -/
import Derived.Test.YtbnghkgfbjipdaaMa13
import Derived.Deep.LoopGhost
import Derived.WalkSmall
import Derived.Deep.AppendLies
import Derived.Test.YtbnghkgfbjipdaaMa05
import Derived.Test.YtbnghkgfbjipdaaMa01
import Derived.Shelf.Abstract
import Derived.WalkKit
import Derived.OwnWalkIn
import Derived.TacticsInMore
import Derived.LoopNIn
import Derived.LoopIn
import Derived.Shelf.RegionOpen
namespace Go.Proofs.Ytbnghkgfbjipdaa
open Go Go.RowKit

theorem Try.infoUn : (Try.prog.info? 137).map (fun i => (i.zero, i.size, i.bytes)) = some (some (.agg #[.pointer none, .pointer none, .int .i64 0]), 3, 24) := by kernel_rfl
theorem ValsIs.below {w W : World} {M : List (Value × Value)} {f : ByteArray → Option Ex} (h : ValsIs w M f) (hb : Below w.heap.size w W) : ValsIs W M f :=
  ⟨h.keys, fun s v hs => by obtain ⟨e, bs, u, h1, h2, h3, h4⟩ := h.some_ s v hs; exact ⟨e, bs, u, h1, h2, h3.below hb, fun z hz => (h4 z hz).on (hb.block z (h4 z hz).lt)⟩, h.none_⟩
section
variable {wo : World}
def lcells (x : Un wo) : List Value := [.pointer (some x.1.adr), .pointer none, .int .i64 (lay x.2)]
def lflat (xs : List (Un wo)) : List Value := xs.flatMap lcells
theorem lflat_len (xs : List (Un wo)) : (lflat xs).length = xs.length * 3 := by
  induction xs with
  | nil => rfl
  | cons p r ih => rw [lflat, List.flatMap_cons, List.length_append, ← lflat, ih]; simp [lcells]; omega
theorem lflat_one (xs : List (Un wo)) (x : Un wo) : lflat (xs ++ [x]) = lflat xs ++ lcells x := by simp [lflat]
def lweigh (f : ByteArray → Option Ex) (xs : List (Un wo)) : Nat := exSizes (xs.map (resU f))
theorem lweigh_app (f : ByteArray → Option Ex) (a b : List (Un wo)) : lweigh f (a ++ b) = lweigh f a + lweigh f b := by
  unfold lweigh
  rw [List.map_append, exSizes_append]
theorem lweigh_one (f : ByteArray → Option Ex) (x : Un wo) : lweigh f [x] = exSize (resU f x) := by simp [lweigh, exSizes]
/-- The last three cells of a list. -/
theorem top3 {W : World} {base n co : Nat} {AO : Option Addr} {xs : List Value} {v0 v1 v2 : Value} (h : W.ownsRow base 137 3 (.slice AO (n + 1) co) (n + 1) (xs ++ [v0, v1, v2])) :
    ∃ g, AO = some ⟨g, 0, none⟩ ∧ g < W.heap.size ∧ base ≤ g ∧ n + 1 ≤ co ∧ co ≤ maxLen ∧ W.cell? ⟨g, n * 3, none⟩ = some v0 ∧ W.cell? ⟨g, n * 3 + 1, none⟩ = some v1 ∧ W.cell? ⟨g, n * 3 + 2, none⟩ = some v2 ∧ W.ownsRow base 137 3 (.slice AO n co) n xs := by
  obtain ⟨g, cap, hv, h1, h2⟩ := h.form (by omega)
  cases hv
  have hx : xs.length = n * 3 := by have := h.1; simp at this; omega
  have hc : ∀ (j : Nat) (v : Value), [v0, v1, v2][j]? = some v → W.cell? ⟨g, n * 3 + j, none⟩ = some v := by
    intro j v hj
    have hj6 : j < 3 := by have := (List.getElem?_eq_some_iff.1 hj).1; simpa using this
    rw [h.cellAt (n * 3 + j) (by omega), List.getElem?_append_right (by omega), hx, Nat.add_sub_cancel_left]
    exact hj
  refine ⟨g, rfl, h2, h1, ?_, ?_, hc 0 _ rfl, hc 1 _ rfl, hc 2 _ rfl, ownsRow_pop (by rw [hx]) h⟩
  · rcases h.2 with ⟨h0, -⟩ | ⟨g', cap', cur, hv, -, -, hn, -⟩
    · cases h0
    · cases hv; exact hn
  · rcases h.2 with ⟨h0, -⟩ | ⟨g', cap', cur, hv, -, -, -, hm, -⟩
    · cases h0
    · cases hv; exact hm
end
theorem repl_small {f : ByteArray → Option Ex} {e : Ex} {N : Nat} (he : exSize e ≤ N) (hf : ∀ s e1, f s = some e1 → exSize e1 ≤ N) (b : Bool) : exSize (replE f e b) ≤ N := by
  unfold replE
  split
  · exact he
  · cases h : f e.name with
    | none => exact he
    | some e1 => exact hf _ _ h
/-- What replaced gives, told of what stands there. -/
def ReplP (wo : World) (re : Ex) (rb : Bool) (w : World) (r : Ending) (w2 : World) : Prop :=
  ∃ A q c bs, r = .returned (.tuple #[.agg #[.int .i64 re.kind, .string re.name, .slice A q c], .int .i64 (lay rb)]) ∧ ExIs wo (.agg #[.int .i64 re.kind, .string re.name, .slice A q c]) re bs ∧ (∀ z ∈ bs, FreeB wo z) ∧ Below w.heap.size w w2
theorem tri_box9 {W : World} {B : Nat} {T : TypeId} {y0 y1 y2 : Value} (h : W.heap[B]? = some (.cells #[y0, y1, y2] T (0, 0))) (x0 x1 x2 : Value) : (tri W B 0 x0 x1 x2).heap[B]? = some (.cells #[x0, x1, x2] T (0, 0)) := by
  simp [tri, World.setCell, Array.getElem?_modify, h]
/-- The parts of one that are put on the list. -/
structure Li (wo : World) (k0 j : Nat) (AO : Option Addr) (co : Nat) (its0 : List (Un wo)) (ks : List (Pt wo)) (b : Bool) (b8 : Nat) (bx : Obj) (W : World) : Prop where
  low : Below wo.heap.size wo W
  row : W.ownsRow wo.heap.size 137 3 (.slice AO (k0 + j) co) (k0 + j) (lflat (its0 ++ (ks.take j).map (fun p => (p, b))))
  box : W.heap[b8]? = some bx
theorem lflat_take {wo : World} (its0 : List (Un wo)) (ks : List (Pt wo)) (b : Bool) (j : Nat) (k : Pt wo) (h : ks[j]? = some k) : lflat (its0 ++ (ks.take (j + 1)).map (fun p => (p, b))) = lflat (its0 ++ (ks.take j).map (fun p => (p, b))) ++ [.pointer (some k.adr), .pointer none, .int .i64 (lay b)] := by
  obtain ⟨hj, hk⟩ := List.getElem?_eq_some_iff.1 h
  rw [List.take_succ_eq_append_getElem hj, hk, List.map_append, ← List.append_assoc, List.map_singleton, lflat_one]
  rfl
theorem un_leaf (p q : Option Addr) (n : Int) : ∀ u ∈ [Value.pointer p, Value.pointer q, Value.int .i64 n], u.oneCell' = true := by
  intro u hu
  simp at hu
  rcases hu with rfl | rfl | rfl <;> rfl
theorem Li.step {wo : World} {k0 j : Nat} {AO : Option Addr} {co : Nat} {its0 : List (Un wo)} {ks : List (Pt wo)} {b : Bool} {b8 : Nat} {cs : Array Value} {k : Pt wo} {W W2 : World} {o : Obj} {g2 cap2 : Nat} (h : Li wo k0 j AO co its0 ks b b8 (.cells cs 26 (0, 0)) W) (hk : ks[j]? = some k)
    (ho : W2.ownsRow wo.heap.size 137 3 (.slice (some ⟨g2, 0, none⟩) (k0 + j + 1) cap2) (k0 + j + 1) (lflat (its0 ++ (ks.take j).map (fun p => (p, b))) ++ [.pointer (some k.adr), .pointer none, .int .i64 (lay b)])) (hg : (W.alloc o).grownBy W2 (Value.ownBlock (.slice AO (k0 + j) co))) :
    Li wo k0 (j + 1) (some ⟨g2, 0, none⟩) cap2 its0 ks b b8 (.cells cs 26 (0, 0)) W2 := by
  have hz : (W.alloc o).heap.size = W.heap.size + 1 := by simp
  have hb8 := (Array.getElem?_eq_some_iff.1 h.box).1
  refine ⟨?_, by rw [lflat_take its0 ks b j k hk, ← Nat.add_assoc]; exact ho, ?_⟩
  · have hs := h.low.size
    refine (h.low.alloc hs o).trans ⟨hg.os, hg.tape, hg.output, hg.size, fun i hi => hg.block i (by omega) (fun e => ?_)⟩
    have := (h.row.lt i e.symm).1
    omega
  · refine (hg.block b8 (by omega) (fun e => ?_)).trans ((Below.heap_alloc W o b8 hb8).trans h.box)
    rcases h.row.2 with ⟨h0, -⟩ | ⟨g', cap', cur, hv, -, hgg, -⟩
    · rw [h0] at e; cases e
    · rw [hv] at e
      obtain rfl : b8 = g' := by simpa [Value.ownBlock] using e
      rw [h.box] at hgg
      simp at hgg
theorem zero_box9 {w W : World} {x0 x1 x2 : Value} (hb : Below ((w.alloc (.cells #[x0, x1, x2] 26)).drew).heap.size ((w.alloc (.cells #[x0, x1, x2] 26)).drew) W) :
    W.cell? ⟨w.heap.size, 0, none⟩ = some x0 ∧ W.cell? ⟨w.heap.size, 1, none⟩ = some x1 ∧ W.cell? ⟨w.heap.size, 2, none⟩ = some x2 ∧ (∀ o, W.frozen? ⟨w.heap.size, o, none⟩ = false) ∧ w.heap.size < W.heap.size ∧ Hid (W.heap[w.heap.size]? = some (.cells #[x0, x1, x2] 26 (0, 0))) := by
  have h : W.heap[w.heap.size]? = some (.cells #[x0, x1, x2] 26 (0, 0)) := (hb.block _ (by simp)).trans (heap_alloc_new w _)
  exact ⟨by simp [World.cell?, h], by simp [World.cell?, h], by simp [World.cell?, h], fun o => by simp [World.frozen?, h], (Array.getElem?_eq_some_iff.1 h).1, Lib.hid h⟩
/-- The parts that are still to be counted. -/
structure Lg (wo w : World) (f : ByteArray → Option Ex) (S N nodes k : Nat) (AO : Option Addr) (co : Nat) (its : List (Un wo)) (W : World) : Prop where
  low : Below wo.heap.size wo W
  row : W.ownsRow wo.heap.size 137 3 (.slice AO k co) k (lflat its)
  len : its.length = k
  sum : nodes + lweigh f its = S + k
  small : ∀ u ∈ its, exSize u.1.ex ≤ N
  few : k ≤ nodes
set_option maxRecDepth 100000 in
set_option maxHeartbeats 4000000 in
theorem own_large (f : ByteArray → Option Ex) (cb mb : Nat) (M : List (Value × Value)) (e : Ex) (v : Value) (bs : List Nat) (w : World) (hx : ExIs w v e bs) (hFx : ∀ z ∈ bs, FreeB w z)
    (hc : w.cell? ⟨cb, 0, none⟩ = some (.map (some mb))) (hm : MapIs w mb M) (hv : ValsIs w M f) (hN : exSize e ≤ 1099511627776) (hf : ∀ s e1, f s = some e1 → exSize e1 ≤ 1099511627776) :
    Calls Try.prog 64 #[.pointer (some ⟨cb, 0, none⟩), v] w (fun r w2 => ∃ b : Bool, r = .returned (.bool b) ∧ (b = true → 2097152 < exSize (subE f e)) ∧ Below w.heap.size w w2) := by
  obtain ⟨i0, hi, hz0, hz1, hz2⟩ := info_parts Try.infoUn
  have HI := Lib.hid (And.intro hi (And.intro hz0 (And.intro hz1 hz2)))
  clear hi hz0 hz1 hz2
  obtain ⟨u, rfl, hs, hu⟩ := id hx
  obtain ⟨A, c, rfl, hc1, hc2, -⟩ := id hu
  obtain ⟨m, hm0⟩ : ∃ m, m = e.args.length := ⟨_, rfl⟩
  rw [← hm0] at hx hc1 ⊢
  obtain ⟨wo, hwo⟩ : ∃ wo, wo = w.alloc (.cells #[.int .i64 e.kind, .string e.name, .slice A m c] 26) := ⟨_, rfl⟩
  have hbo : Below w.heap.size w wo := by rw [hwo]; exact (Below.refl _ w).alloc (Nat.le_refl _) _
  have hso : wo.heap.size = w.heap.size + 1 := by rw [hwo]; simp
  have hvo : ValsIs wo M f := hv.below hbo
  have hmo : MapIs wo mb M := hm.on (hbo.block _ hm.lt)
  have hat : ExAt wo w.heap.size 0 e bs := by
    have hnew : wo.heap[w.heap.size]? = some (.cells #[.int .i64 e.kind, .string e.name, .slice A m c] 26 (0, 0)) := by rw [hwo]; exact heap_alloc_new w _
    exact ExAt.mk (u := .slice A m c) (by simp [World.cell?, hnew]) (by simp [World.cell?, hnew]) (by simp [World.cell?, hnew]) (hx.below hbo)
  have hco : wo.cell? ⟨cb, 0, none⟩ = some (.map (some mb)) := (hbo.cell (World.block_lt_of_cell? w _ hc)).trans hc
  have HWO := Lib.hid hwo
  have HBO := Lib.hid hbo
  have HSO := Lib.hid hso
  have HVO := Lib.hid hvo
  have HMO := Lib.hid hmo
  have HAT := Lib.hid hat
  have HFB := Lib.hid (show ∀ z ∈ bs, FreeB wo z from fun z hz => (hFx z hz).on (hbo.block z (hFx z hz).lt))
  clear hFx
  have HCO := Lib.hid hco
  have HN := Lib.hid hN
  have HF := Lib.hid hf
  clear hx hc hm hv hN hf hs hu hc1 hc2 hm0 hwo hbo hso hvo hmo hat hco
  go_enter Try.func64, Try.ntmps64
  go_wp2_with fail
  rw [← HWO.out]
  have HR0 := Lib.hid (show (wo.alloc (.cells #[.pointer (some ⟨w.heap.size, 0, none⟩), .pointer none, .int .i64 0] 137)).ownsRow wo.heap.size 137 3 (.slice (some ⟨w.heap.size + 1, 0, none⟩) 1 1) 1 [.pointer (some ⟨w.heap.size, 0, none⟩), .pointer none, .int .i64 0] by
    rw [← HSO.out]
    exact World.ownsRow_lit wo (base := wo.heap.size) (e := 137) (size := 3) #[.pointer (some ⟨w.heap.size, 0, none⟩), .pointer none, .int .i64 0] 1 (Nat.le_refl _) (by unfold maxLen; omega) rfl)
  go_loopg [5, 6] (exSize (subE f e)) (fun gk nn a wr => ∃ (nodes k : Nat) (AO : Option Addr) (co : Nat) (its : List (Un wo)), nn = .int .i64 (nodes : Int) ∧ a = .slice AO k co ∧ nodes ≤ 1099513724928 ∧ Hid (gk = lweigh f its) ∧ Hid (Lg wo w f (exSize (subE f e)) 1099511627776 nodes k AO co its wr))
  case atStart =>
    refine ⟨1, 1, some ⟨w.heap.size + 1, 0, none⟩, 1, [(⟨(w.heap.size, 0, e, bs), HAT.out, (by show w.heap.size < wo.heap.size; rw [HSO.out]; omega), HFB.out⟩, false)], rfl, rfl, by omega, Lib.hid (by rw [lweigh_one]; rfl), Lib.hid ⟨?_, ?_, rfl, ?_, ?_, Nat.le_refl _⟩⟩
    · exact (Below.refl _ wo).alloc (Nat.le_refl _) _
    · exact HR0.out
    · rw [lweigh_one]
      show 1 + exSize (subE f e) = _
      omega
    · intro u hu
      rw [List.mem_singleton] at hu
      subst hu
      exact HN.out
  case round =>
    obtain ⟨nodes, k, AO, co, its, rfl, rfl, hnb, HG, HL⟩ := hrel
    by_cases hstop : k = 0 ∨ 2097152 < nodes
    · have hlow := HBO.out.trans (HL.out.low.mono HBO.out.size)
      have HEND := Lib.hid (show ∀ b : Bool, b = decide (2097152 < nodes) → ∃ b' : Bool, Ending.returned (.bool b) = .returned (.bool b') ∧ (b' = true → 2097152 < exSize (subE f e)) ∧ Below w.heap.size w wr from fun b hb => by
        refine ⟨b, rfl, fun ht => ?_, hlow⟩
        rw [hb] at ht
        have h1 := of_decide_eq_true ht
        have h2 := HL.out.sum
        have h3 : k ≤ lweigh f its := by
          have := sizes_len (its.map (resU f))
          rw [List.length_map, HL.out.len] at this
          exact this
        omega)
      clear hlow
      by_cases hk : k = 0
      · subst hk
        by_cases hn : 2097152 < nodes
        · have d2 : (2097152 : Int) < (nodes : Int) := by omega
          have HD := Lib.hid (show true = decide (2097152 < nodes) by simp [hn])
          clear hstop hn
          go_wp2_with fail
          go_ret
          exact HEND.out _ HD.out
        · have d2 : (nodes : Int) ≤ 2097152 := by omega
          clear hstop hn
          go_wp2_with fail
          go_ret
          exact HEND.out _ (by
            have h1 : ¬ (2097152 : Int) < (nodes : Int) := by omega
            have h2 : ¬ 2097152 < nodes := by omega
            simp [h1, h2])
      · have hn : 2097152 < nodes := by omega
        have d1 : 0 < (k : Int) := by omega
        have d2 : (2097152 : Int) < (nodes : Int) := by omega
        have HD := Lib.hid (show true = decide (2097152 < nodes) by simp [hn])
        clear hstop hn hk
        go_wp2_with fail
        go_ret
        exact HEND.out _ HD.out
    · obtain ⟨k0, rfl⟩ : ∃ k0, k = k0 + 1 := ⟨k - 1, by omega⟩
      have hnn : (nodes : Int) ≤ 2097152 := by omega
      have hk0 : (k0 : Int) ≤ 2097152 := by have := HL.out.few; omega
      obtain ⟨its0, x, hits⟩ : ∃ its0 x, its = its0 ++ [x] := by
        rcases List.eq_nil_or_concat its with h | ⟨a, b, h⟩
        · have := HL.out.len; rw [h] at this; simp at this
        · exact ⟨a, b, by rw [h, List.concat_eq_append]⟩
      subst hits
      have hrow := HL.out.row
      rw [lflat_one] at hrow
      obtain ⟨g, rfl, hg1, hg2, hco1, hco2, t0, t1, t2, hrow0⟩ := top3 hrow
      have HROW := Lib.hid hrow0
      obtain ⟨px, hpx⟩ : ∃ z, z = x.1.1.1 := ⟨_, rfl⟩
      obtain ⟨po, hpo⟩ : ∃ z, z = x.1.1.2.1 := ⟨_, rfl⟩
      obtain ⟨xb, hxb⟩ : ∃ z, z = x.2 := ⟨_, rfl⟩
      have hadr : x.1.adr = ⟨px, po, none⟩ := by rw [hpx, hpo]; rfl
      rw [hadr] at t0
      rw [← hxb] at t2
      obtain ⟨PA, pc, pbs, p0, p1, p2, pis, pfs⟩ := x.1.parts
      rw [← hpx, ← hpo] at p0 p1 p2
      have hpxl : px < wo.heap.size := by rw [hpx]; exact x.1.2.2.1
      obtain ⟨PE, hPE⟩ : ∃ z, z = x.1.ex := ⟨_, rfl⟩
      rw [← hPE] at p0 p1 p2 pis
      obtain ⟨pn, hpn⟩ : ∃ z, z = PE.args.length := ⟨_, rfl⟩
      rw [← hpn] at p2 pis
      have hres : resU f x = resE f PE xb := by rw [hPE, hxb]; rfl
      have HRES := Lib.hid hres
      have hlw := HL.out.low
      have q0 := (hlw.cell (p := ⟨px, po, none⟩) hpxl).trans p0
      have q1 := (hlw.cell (p := ⟨px, po + 1, none⟩) hpxl).trans p1
      have q2 := (hlw.cell (p := ⟨px, po + 2, none⟩) hpxl).trans p2
      have HPIS := Lib.hid pis
      have HPFS := Lib.hid pfs
      clear pfs
      have hsm := HL.out.small x (by simp)
      rw [← hPE] at hsm
      have HSM := Lib.hid hsm
      have HPX := Lib.hid hpxl
      clear hrow hrow0 hadr hpx hpo hxb hPE hpn hres hlw p0 p1 p2 pis hsm hpxl
      have hk1 : (0 : Int) ≤ (k0 : Int) := by omega
      have HSS := Lib.hid (show ∀ X, Below wr.heap.size wr X → X.cell? ⟨px, po, none⟩ = some (.int .i64 PE.kind) ∧ X.cell? ⟨px, po + 1, none⟩ = some (.string PE.name) ∧ X.cell? ⟨px, po + 2, none⟩ = some (.slice PA pn pc) from fun X hX => by
        have hpl : px < wr.heap.size := Nat.lt_of_lt_of_le HPX.out HL.out.low.size
        exact ⟨(hX.cell (p := ⟨px, po, none⟩) hpl).trans q0, (hX.cell (p := ⟨px, po + 1, none⟩) hpl).trans q1, (hX.cell (p := ⟨px, po + 2, none⟩) hpl).trans q2⟩)
      obtain ⟨RE, hRE⟩ : ∃ z, z = replE f PE xb := ⟨_, rfl⟩
      obtain ⟨RB, hRB⟩ : ∃ z, z = replB PE xb := ⟨_, rfl⟩
      have HRE := Lib.hid hRE
      have HRB := Lib.hid hRB
      have HCALL := Lib.hid (show ∀ X, Below wr.heap.size wr X → Calls Try.prog 94 #[.pointer (some ⟨cb, 0, none⟩), .agg #[.int .i64 PE.kind, .string PE.name, .slice PA pn pc], .int .i64 (lay xb)] X (ReplP wo RE RB X) from fun X hX => by
        rw [hRE, hRB]
        have hb : Below wo.heap.size wo X := HL.out.low.trans (hX.mono HL.out.low.size)
        exact own_replaced wo f cb mb M PE xb PA pn pc pbs X HPIS.out HPFS.out ((hb.cell (World.block_lt_of_cell? wo _ HCO.out)).trans HCO.out) (HMO.out.on (hb.block _ HMO.out.lt)) HVO.out)
      clear q0 q1 q2 hRE hRB
      go_wp2_with fail
      obtain ⟨W1, hW1⟩ : ∃ W1, W1 = wr.alloc (.cells #[.pointer (some ⟨px, po, none⟩), .pointer none, .int .i64 (lay xb)] 137) := ⟨_, rfl⟩
      rw [← hW1]
      have HB1 := Lib.hid (show Below wr.heap.size wr W1 by rw [hW1]; exact (Below.refl _ _).alloc (Nat.le_refl _) _)
      have HNX := Lib.hid (show W1.heap[wr.heap.size]? = some (.cells #[.pointer (some ⟨px, po, none⟩), .pointer none, .int .i64 (lay xb)] 137 (0, 0)) by rw [hW1]; exact heap_alloc_new wr _)
      have HS := Lib.hid (show ∀ X, Below W1.heap.size W1 X → X.cell? ⟨px, po, none⟩ = some (.int .i64 PE.kind) ∧ X.cell? ⟨px, po + 1, none⟩ = some (.string PE.name) ∧ X.cell? ⟨px, po + 2, none⟩ = some (.slice PA pn pc) ∧ X.cell? ⟨wr.heap.size, 0, none⟩ = some (.pointer (some ⟨px, po, none⟩)) ∧ X.cell? ⟨wr.heap.size, 2, none⟩ = some (.int .i64 (lay xb)) from fun X hX => by
        have hl := (Array.getElem?_eq_some_iff.1 HNX.out).1
        have h := HSS.out X (HB1.out.trans (hX.mono HB1.out.size))
        exact ⟨h.1, h.2.1, h.2.2, (hX.cell (p := ⟨wr.heap.size, 0, none⟩) hl).trans (by simp [World.cell?, HNX.out]), (hX.cell (p := ⟨wr.heap.size, 2, none⟩) hl).trans (by simp [World.cell?, HNX.out])⟩)
      clear hW1
      refine cut_r9 (fun a W => ∃ (b8 : Nat) (RA : Option Addr) (rq rc : Nat) (rbs : List Nat), a = { tmps := #[.pointer (some ⟨cb, 0, none⟩), .agg #[.int .i64 e.kind, .string e.name, .slice A m c], undef, .pointer (some ⟨w.heap.size, 0, none⟩), .bool false, .int .i64 (nodes : Int), .slice (some ⟨g, 0, none⟩) k0 co, .pointer (some ⟨wr.heap.size, 0, none⟩), .pointer (some ⟨b8, 0, none⟩), .int .i64 (lay RB), u10, .agg #[.pointer (some ⟨w.heap.size, 0, none⟩), .pointer none, .int .i64 0], .slice (some ⟨w.heap.size + 1, 0, none⟩) 1 1, .slice (some ⟨g, 0, none⟩) (k0 + 1) co, .int .i64 ((k0 : Int) + 1), .bool true, .bool true, .int .i64 (nodes : Int), .bool true, .bool true, .slice (some ⟨g, 0, none⟩) (k0 + 1) co, .slice (some ⟨g, 0, none⟩) (k0 + 1) co, .int .i64 ((k0 : Int) + 1), .int .i64 (k0 : Int), .pointer (some ⟨g, k0 * 3, none⟩), .agg #[.pointer (some ⟨px, po, none⟩), .pointer none, .int .i64 (lay xb)], .slice (some ⟨g, 0, none⟩) (k0 + 1) co, .slice (some ⟨g, 0, none⟩) (k0 + 1) co, .int .i64 ((k0 : Int) + 1), .int .i64 (k0 : Int), .slice (some ⟨g, 0, none⟩) k0 co, .tuple #[.agg #[.int .i64 RE.kind, .string RE.name, .slice RA rq rc], .int .i64 (lay RB)], .pointer (some ⟨cb, 0, none⟩), .pointer (some ⟨wr.heap.size, 0, none⟩), .pointer (some ⟨px, po, none⟩), .pointer (some ⟨px, po, none⟩), .agg #[.int .i64 PE.kind, .string PE.name, .slice PA pn pc], .pointer (some ⟨wr.heap.size, 2, none⟩), .int .i64 (lay xb), .tuple #[.agg #[.int .i64 RE.kind, .string RE.name, .slice RA rq rc], .int .i64 (lay RB)], .agg #[.int .i64 RE.kind, .string RE.name, .slice RA rq rc], .int .i64 (lay RB), u42, u43, u44, u45, u46, u47, u48, u49, u50, u51, u52, u53, u54, u55, u56, u57, u58, u59, u60, u61, u62, undef, undef], defers := [] } ∧ Below wr.heap.size wr W ∧ W.heap[b8]? = some (.cells #[.int .i64 RE.kind, .string RE.name, .slice RA rq rc] 26 (0, 0)) ∧ (ExIs wo (.agg #[.int .i64 RE.kind, .string RE.name, .slice RA rq rc]) RE rbs ∧ ∀ z ∈ rbs, FreeB wo z)) ?_ ?_
      · go_region_held3 (fun X => X.cell? ⟨px, po, none⟩ = some (.int .i64 PE.kind) ∧ X.cell? ⟨px, po + 1, none⟩ = some (.string PE.name) ∧ X.cell? ⟨px, po + 2, none⟩ = some (.slice PA pn pc) ∧ X.cell? ⟨wr.heap.size, 0, none⟩ = some (.pointer (some ⟨px, po, none⟩)) ∧ X.cell? ⟨wr.heap.size, 2, none⟩ = some (.int .i64 (lay xb)))
          (first
          | exact HS.out _ ((Below.refl _ _).drew)
          | exact HS.out _ (((Below.refl _ _).alloc (Nat.le_refl _) _).drew)
          | exact HS.out _ HB2.out
          | exact HS.out _ (HB2.out.alloc HB2.out.size _)
          | exact HS.out _ (below_tri HB2.out (Nat.le_refl _) 0 _ _ _))
          (first
          | (go_at_call 94; refine (HCALL.out _ (HB1.out.trans ((Below.refl W1.heap.size W1).drew.mono HB1.out.size))).mono ?_; rintro r w2 ⟨RA, rq, rc, rbs, rfl, hri, hfi, hb2⟩; have HB2 := Lib.hid ((Below.refl W1.heap.size W1).drew.trans hb2); have HRI := Lib.hid (And.intro hri hfi); clear hb2 hri hfi)
          | (go_at_call 94; refine (HCALL.out _ (HB1.out.trans ((((Below.refl W1.heap.size W1).alloc (Nat.le_refl _) _).drew).mono HB1.out.size))).mono ?_; rintro r w2 ⟨RA, rq, rc, rbs, rfl, hri, hfi, hb2⟩; have HB2 := Lib.hid ((((Below.refl W1.heap.size W1).alloc (Nat.le_refl _) _).drew).trans (hb2.mono (by simp))); have HRI := Lib.hid (And.intro hri hfi); obtain ⟨r0, r1, r2, rf, rl, HZB⟩ := zero_box9 hb2; clear hb2 hri hfi))
        · exact ⟨_, _, _, _, _, rfl, (HB1.out.trans (HB2.out.mono HB1.out.size)).alloc (Nat.le_trans HB1.out.size HB2.out.size) _, heap_alloc_new _ _, HRI.out⟩
        · exact ⟨_, _, _, _, _, rfl, below_tri (HB1.out.trans (HB2.out.mono HB1.out.size)) HB1.out.size 0 _ _ _, tri_box9 HZB.out _ _ _, HRI.out⟩
      rintro _ W2 ⟨b8, RA, rq, rc, rbs, rfl, hb2, hbx, hri, hfi⟩
      obtain ⟨u', e1, -, hsl⟩ := hri
      simp only [Value.agg.injEq, Array.mk.injEq, List.cons.injEq, and_true, true_and] at e1
      subst e1
      obtain ⟨hrq, hkids⟩ := hsl.pts hfi
      obtain ⟨ks, hks, hka⟩ : ∃ ks : List (Pt wo), ks.map Pt.ex = RE.args ∧ ∀ (i : Nat) (k : Pt wo), ks[i]? = some k → ∃ g o, RA = some ⟨g, o, none⟩ ∧ k.adr = ⟨g, o + i * 3, none⟩ := by
        rcases hkids with h0 | ⟨g, o, rfl, -, -, ks, e1, e2⟩
        · exact ⟨[], by rw [h0]; rfl, fun i k h => by simp at h⟩
        · exact ⟨ks, e1, fun i k h => ⟨g, o, rfl, e2 i k h⟩⟩
      have hkl : ks.length = rq := by rw [hrq, ← hks, List.length_map]
      have hrqb : rq ≤ 1099511627776 := by
        have h1 : exSize RE ≤ 1099511627776 := by rw [HRE.out]; exact repl_small HSM.out HF.out xb
        have h2 : exSize RE = exSizes RE.args + 1 := by cases RE; rfl
        have h3 := sizes_len RE.args
        omega
      have hsum : lweigh f (ks.map (fun p => (p, RB))) + 1 = exSize (resU f x) := by
        rw [HRES.out, res_size f PE xb, ← HRE.out, ← HRB.out, ← hks, List.map_map, lweigh, List.map_map]
        rfl
      have hsmall : ∀ u ∈ ks.map (fun p => ((p, RB) : Un wo)), exSize u.1.ex ≤ 1099511627776 := by
        intro u hu
        obtain ⟨p, hp, rfl⟩ := List.mem_map.1 hu
        have h1 : exSize RE ≤ 1099511627776 := by rw [HRE.out]; exact repl_small HSM.out HF.out xb
        have h2 : exSize p.ex < exSize RE := exSize_args (by rw [← hks]; exact List.mem_map_of_mem hp)
        show exSize p.ex ≤ _
        omega
      have HKA := Lib.hid hka
      have HKL := Lib.hid hkl
      have HSUM := Lib.hid hsum
      have HSML := Lib.hid hsmall
      have HLI := Lib.hid (show Li wo k0 0 (some ⟨g, 0, none⟩) co its0 ks RB b8 (.cells #[.int .i64 RE.kind, .string RE.name, .slice RA rq rc] 26 (0, 0)) W2 from ⟨HL.out.low.trans (hb2.mono HL.out.low.size), by
        have := HROW.out.kept (row := none) ⟨hb2.os, hb2.tape, hb2.output, hb2.size, fun k hk _ => hb2.block k hk⟩ (by simp [Value.ownBlock])
        simpa using this, hbx⟩)
      have HB2 := Lib.hid hb2
      have b2' : W2.cell? ⟨b8, 2, none⟩ = some (.slice RA rq rc) := by simp [World.cell?, hbx]
      have hbl : b8 < W2.heap.size := (Array.getElem?_eq_some_iff.1 hbx).1
      have hrq2 : (rq : Int) ≤ 1099511627776 := by omega
      clear hsl hfi hrq hkids hks hka hkl hsum hsmall hb2 hbx hrqb
      go_wp2_with fail
      go_loopw [6, 50] (fun a i wr2 => ∃ (j : Nat) (AO2 : Option Addr) (co2 : Nat), j ≤ rq ∧ i = .int .i64 (j : Int) ∧ a = .slice AO2 (k0 + j) co2 ∧ Hid (Li wo k0 j AO2 co2 its0 ks RB b8 (.cells #[.int .i64 RE.kind, .string RE.name, .slice RA rq rc] 26 (0, 0)) wr2)) (fun _ i _ => rq - (intOf i).toNat)
      case atStart => exact ⟨0, _, _, Nat.zero_le _, rfl, rfl, HLI⟩
      case round =>
        clear b2' hbl
        obtain ⟨j, AO2, co2, hj, rfl, rfl, HLJ⟩ := hrel
        have hbx := HLJ.out.box
        have b2' : wr.cell? ⟨b8, 2, none⟩ = some (.slice RA rq rc) := by simp [World.cell?, hbx]
        have hbl : b8 < wr.heap.size := (Array.getElem?_eq_some_iff.1 hbx).1
        clear hbx
        by_cases hlt : j < rq
        · obtain ⟨kp, hkp⟩ : ∃ kp, ks[j]? = some kp := ⟨_, List.getElem?_eq_getElem (by rw [HKL.out]; exact hlt)⟩
          obtain ⟨ga, oa, rfl, hadr⟩ := HKA.out j kp hkp
          have hj0 : (0 : Int) ≤ (j : Int) := by omega
          have hj1 : (j : Int) < (rq : Int) := by omega
          have HKP := Lib.hid hkp
          have HADR := Lib.hid hadr
          have CM := Lib.hid (show k0 + j + 1 ≤ maxLen by unfold maxLen; omega)
          have CB := Lib.hid (show (k0 + j + 1) * 24 ≤ 140737488355328 by omega)
          have HR := Lib.hid (HLJ.out.row.alloc (.cells #[.pointer (some ⟨ga, oa + j * 3, none⟩), .pointer none, .int .i64 (lay RB)] 137))
          have CS := Lib.hid (show wo.heap.size ≤ (wr.alloc (.cells #[.pointer (some ⟨ga, oa + j * 3, none⟩), .pointer none, .int .i64 (lay RB)] 137)).heap.size by have := HLJ.out.low.size; simp; omega)
          clear hkp hadr
          go_wp2_with (at_builtin; (refine wpList_append_own _ rfl (.tmp 53) (.tmp 60) 138 rfl wo.heap.size 137 i0 (.agg #[.pointer none, .pointer none, .int .i64 0]) 3 24 Try.underlying138 HI.out.1 HI.out.2.1 HI.out.2.2.1 HI.out.2.2.2 rfl (by decide) (.slice AO2 (k0 + j) co2) (k0 + j) _ rfl HR.out ⟨wr.heap.size, 0, none⟩ 1 1 [.pointer (some ⟨ga, oa + j * 3, none⟩), .pointer none, .int .i64 (lay RB)] rfl rfl (World.news_of_block (heap_alloc_new wr _)) (un_leaf _ _ _) CM.out CB.out CS.out ?_); intro v2 w3 ho3 hg3 _; have HAP := Lib.hid (And.intro ho3 hg3); clear ho3 hg3)
          obtain ⟨g3, cap3, rfl, -, -⟩ := HAP.out.1.form (by omega)
          have HLN := Lib.hid (show Li wo k0 (j + 1) (some ⟨g3, 0, none⟩) cap3 its0 ks RB b8 (.cells #[.int .i64 RE.kind, .string RE.name, .slice (some ⟨ga, oa, none⟩) rq rc] 26 (0, 0)) w3 from HLJ.out.step HKP.out (by rw [HADR.out]; exact HAP.out.1) HAP.out.2)
          go_roundw
          case rel => exact ⟨j + 1, _, _, by omega, by go_num, by rw [← Nat.add_assoc], HLN⟩
          case measure => simp [intOf]; omega
        · obtain rfl : j = rq := by omega
          have HT := Lib.hid (show ks.take j = ks from List.take_of_length_le (by rw [HKL.out]; exact Nat.le_refl _))
          go_wp2_with fail
          go_roundg (lweigh f (its0 ++ ks.map (fun p => ((p, RB) : Un wo))))
          case measure =>
            rw [HG.out, lweigh_app, lweigh_app, lweigh_one]
            have := HSUM.out
            omega
          case rel =>
            refine ⟨nodes + j, k0 + j, _, _, its0 ++ ks.map (fun p => ((p, RB) : Un wo)), by go_num, rfl, by omega, Lib.hid rfl, Lib.hid ⟨HLJ.out.low, ?_, ?_, ?_, ?_, ?_⟩⟩
            · have h := HLJ.out.row
              rw [HT.out] at h
              exact h
            · have h := HL.out.len
              rw [List.length_append, List.length_singleton] at h
              rw [List.length_append, List.length_map, HKL.out]
              omega
            · have h := HL.out.sum
              rw [lweigh_app, lweigh_one] at h
              rw [lweigh_app]
              have := HSUM.out
              omega
            · intro u hu
              rcases List.mem_append.1 hu with h | h
              · exact HL.out.small u (List.mem_append_left _ h)
              · exact HSML.out u h
            · have := HL.out.few
              omega
end Go.Proofs.Ytbnghkgfbjipdaa

namespace Go.Proofs.Ytbnghkgfbjipdaa
open Go Go.RowKit Go.Shelf
attribute [local go_sem] Oper.semAt_some

/-- What a range over a slice of expressions hands out: the index, the expression, its value, its blocks. -/
abbrev It (wo : World) : Type := { x : Nat × Ex × Value × List Nat // ExIs wo (.agg #[.int .i64 x.2.1.kind, .string x.2.1.name, x.2.2.1]) x.2.1 x.2.2.2 }
def It.ex {wo : World} (x : It wo) : Ex := x.1.2.1
def It.val {wo : World} (x : It wo) : Value := .agg #[.int .i64 x.1.2.1.kind, .string x.1.2.1.name, x.1.2.2.1]

/-- The blocks of all of xs are among bs. -/
def SubB {wo : World} (bs : List Nat) (xs : List (It wo)) : Prop := ∀ x ∈ xs, ∀ z ∈ x.1.2.2.2, z ∈ bs
theorem map_push {wo : World} (L : List Ex) (k : Nat) (pre : List (It wo)) (x : It wo) (h : pre.map It.ex = (L.drop (k + 1)).reverse) (hx : L[k]? = some x.ex) : (pre ++ [x]).map It.ex = (L.drop k).reverse := by
  have hk : k < L.length := (List.getElem?_eq_some_iff.1 hx).1
  have he : L[k] = x.ex := (List.getElem?_eq_some_iff.1 hx).2
  rw [List.drop_eq_getElem_cons hk, List.reverse_cons, List.map_append, h, he]
  rfl

set_option maxRecDepth 100000 in
set_option maxHeartbeats 2000000 in
theorem back_in (F : Fence) (n : Nat) (hF : F.fn 129) (hro : F.round = none) (hn : 1 ≤ n) (l Bs : Nat) (wo : World) (A : Option Addr) (m c : Nat) (L : List Ex) (bs : List Nat) (hsl : SlIs wo (.slice A m c) L bs)
    (J Jx : List (It wo) → List Nat → World → Prop)
    (hY : ∀ pre x M W1, J pre M W1 → (∀ k ∈ M, k < W1.heap.size) → pre.length < L.length → YieldAt F (n - 1) Try.prog l #[.int .i64 (x.1.1 : Int), x.val] W1 fun e W2 =>
      (e = .returned (.bool true) ∧ J (pre ++ [x]) M W2 ∧ Kept wo.heap.size M W1 W2) ∨ (e = .returned (.bool false) ∧ Jx (pre ++ [x]) M W2 ∧ Kept wo.heap.size M W1 W2))
    (W : World) (hBs : W.cell? ⟨Bs, 0, none⟩ = some (.slice A m c)) (hW : Below wo.heap.size wo W) (h0 : J [] [Bs] W) :
    CallsIn F n Try.prog 129 #[.func (.yield l) #[] #[], .pointer (some ⟨Bs, 0, none⟩)] W fun e W2 => (∃ v, e = .returned v) ∧
      ((∃ (xs : List (It wo)) (M : List Nat), (xs.map It.ex = L.reverse ∧ SubB bs xs) ∧ J xs M W2) ∨ (∃ (pre : List (It wo)) (M : List Nat), True ∧ Jx pre M W2)) := by
  obtain ⟨hm, hmc, hc⟩ := hsl.len
  have hm3 : (m : Int) ≤ 9223372036854775807 := by omega
  have HS := Lib.hid hsl
  have HM := Lib.hid hm
  have HY := Lib.hid hY
  have HW := Lib.hid hW
  clear hsl hm hY hW
  refine callsIn_of_wp Try.func129 rfl hF ?_ hro
  simp only [Try.ntmps129, List.size_toArray, List.length_cons, List.length_nil, Nat.reduceAdd, Nat.reduceSub, Array.replicate_succ, Array.replicate_zero, List.push_toArray, List.append_toArray, List.nil_append, List.cons_append]
  gi_wp2
  gi_loopw [3] (fun i wr => ∃ (z : Int), i = .int .i64 z ∧ -1 ≤ z ∧ z < m ∧ Hid (∃ (k : Nat) (pre : List (It wo)), z = (k : Int) - 1 ∧ J pre [Bs] wr ∧ pre.map It.ex = (L.drop k).reverse ∧ SubB bs pre) ∧ wr.cell? ⟨Bs, 0, none⟩ = some (.slice A m c) ∧ Hid (Below wo.heap.size wo wr))
    (fun i _ => (intOf i + 1).toNat)
  case atStart =>
    exact ⟨(m : Int) - 1, rfl, by omega, by omega, Lib.hid ⟨m, [], rfl, h0, by rw [HM.out]; simp, (fun x hx => by cases hx)⟩, hBs, HW⟩
  case round =>
    obtain ⟨z, rfl, hz0, hz1, HJ, hbx, HB⟩ := hrel
    by_cases hlt : 0 ≤ z
    · obtain ⟨k1, pre, hk, hJs, hpre, hsub⟩ := HJ.out
      obtain ⟨k, rfl⟩ : ∃ k, k1 = k + 1 := ⟨k1 - 1, by omega⟩
      obtain rfl : z = (k : Int) := by omega
      have hsw : SlIs wr (.slice A m c) L bs := HS.out.below HB.out
      obtain ⟨g, o, e1, u, b1, rfl, hbl, hget, hmem, c1, c2, c3, -, -⟩ := hsw.get k (by rw [← HM.out]; omega)
      obtain ⟨g', o', e1', u', b1', hA', hbl', hget', hmem', c1', c2', c3', his, hsb⟩ := HS.out.get k (by rw [← HM.out]; omega)
      obtain ⟨rfl, rfl⟩ : g = g' ∧ o = o' := by cases hA'; exact ⟨rfl, rfl⟩
      obtain rfl : e1 = e1' := by rw [hget] at hget'; cases hget'; rfl
      obtain rfl : u = u' := by
        have h := HB.out.cell (p := ⟨g, o + k * 3 + 2, none⟩) hbl'
        rw [c3, c3'] at h
        cases h; rfl
      clear c1' c2' c3' hget' hmem' hA' hbl'
      have hlen : pre.length < L.length := by
        have h : (pre.map It.ex).length = (L.drop (k + 1)).reverse.length := by rw [hpre]
        simp at h
        have h2 := (List.getElem?_eq_some_iff.1 hget).1
        omega
      obtain ⟨fn, tmps, assign, body, hy, hR⟩ := HY.out pre ⟨(k, e1, u, b1'), his⟩ [Bs] wr hJs (by
        intro k hk
        rw [List.mem_singleton] at hk
        subst hk
        obtain ⟨o, ho, -⟩ := cells_of_cell hbx
        exact (Array.getElem?_eq_some_iff.1 ho).1) hlen
      dsimp only [It.val] at hy
      have HPX := Lib.hid (map_push L k pre ⟨(k, e1, u, b1'), his⟩ hpre hget)
      have HSB := Lib.hid (show SubB bs (pre ++ [(⟨(k, e1, u, b1'), his⟩ : It wo)]) from fun x hx => by
        rcases List.mem_append.1 hx with hx | hx
        · exact hsub x hx
        · rw [List.mem_singleton] at hx; subst hx; exact hsb)
      have HR := Lib.hid hR
      clear hR hJs hpre hget hmem hsw hk HJ hsub hsb
      gi_wp2
      refine HR.out.mono ?_
      rintro e W3 (⟨rfl, hJ3, hk3, hkm3⟩ | ⟨rfl, hJx3, -⟩)
      · have HJ3 := Lib.hid hJ3
        have HB3 := Lib.hid (HB.out.trans hk3)
        have hbx3 : W3.cell? ⟨Bs, 0, none⟩ = some (.slice (some ⟨g, o, none⟩) m c) := (World.cell?_of_block (w := wr) (hkm3 Bs (by simp))).trans hbx
        clear hJ3 hk3 hkm3
        gi_wp2
        go_roundw
        case rel => exact ⟨(k : Int) - 1, by first | rfl | go_num, by omega, by omega, Lib.hid ⟨k, _, rfl, HJ3.out, HPX.out, HSB.out⟩, hbx3, HB3⟩
        case measure => first | (simp [intOf]; done) | (simp [intOf]; omega)
      · have HJ3 := Lib.hid hJx3
        clear hJx3
        gi_wp2
        refine bodyPost_ret (results_none rfl _ _ _) rfl ?_
        exact ⟨⟨_, rfl⟩, .inr ⟨_, _, trivial, HJ3.out⟩⟩
    · obtain rfl : z = -1 := by omega
      gi_wp2
      go_end0
      obtain ⟨k1, pre, hk, hJs, hpre, hsub⟩ := HJ.out
      obtain rfl : k1 = 0 := by omega
      exact ⟨⟨_, rfl⟩, .inl ⟨pre, ⟨by simpa using hpre, hsub⟩, _, hJs⟩⟩

set_option maxHeartbeats 1000000 in
theorem backward_in (F : Fence) (n : Nat) (hF : F.fn 114) (hro : F.round = none) (A : Option Addr) (m c : Nat) (w : World) :
    CallsIn F n Try.prog 114 #[.slice A m c] w fun e w2 => e = .returned (.func (.func 129) #[] #[.pointer (some ⟨w.heap.size, 0, none⟩)]) ∧ w2 = w.alloc (.cells #[.slice A m c] 24) := by
  refine callsIn_of_wp Try.func114 rfl hF ?_ hro
  simp only [Try.ntmps114, List.size_toArray, List.length_cons, List.length_nil, Nat.reduceAdd, Nat.reduceSub, Array.replicate_succ, Array.replicate_zero, List.push_toArray, List.append_toArray, List.nil_append, List.cons_append]
  gi_wp2
  go_ret
  exact ⟨rfl, rfl⟩
end Go.Proofs.Ytbnghkgfbjipdaa
