/- A part of the proof of the seat's statement: SpecReadPr. Condition: as each says. -/
import Derived.Test.YtiaknfnhmoinpaaGreatRKids
import Derived.Test.YtiaknfnhmoinpaaGreatOwnConcat
import Derived.Test.YtiaknfnhmoinpaaGreatSpecL6Rule
import Derived.Test.YtiaknfnhmoinpaaGreatSpecPrText
set_option maxHeartbeats 8000000
namespace Go.Proofs.YtiaknfnhmoinpaaGreat
open Go Go.RowKit
def PrPostS (x : List Ru × Int) (w : World) (e : Ending) (w2 : World) : Prop :=
 ∃ v bs, e = .returned (.tuple #[.agg #[v], .int .i64 x.2]) ∧ SKids w.heap.size w2 v x.1 bs ∧ Below w.heap.size w w2
structure Lp (W1 : World) (P : Nat) (v : Value) (acc : List Ru) (bs : List Nat) (wr : World) : Prop where
 top : W1.heap.size = P + 1
 fr : Fr [P] W1 wr
 box : wr.heap[P]? = some (.cells #[v] 26 (0, 0))
 kids : SKids (P + 1) wr v acc bs
theorem Lp.go {W1 wr w2 : World} {P : Nat} {v : Value} {acc : List Ru} {bs : List Nat} (h : Lp W1 P v acc bs wr) (hb : Below wr.heap.size wr w2) : Lp W1 P v acc bs w2 :=
 ⟨h.top, h.fr.trans (Fr.of_below (S := [P]) hb) (fun x hx => Or.inl hx), (hb.block P (Array.getElem?_eq_some_iff.1 h.box).1).trans h.box, h.kids.keep (Fr.of_below (S := []) hb) (by simp)⟩
theorem Lp.cell {W1 wr : World} {P : Nat} {v : Value} {acc : List Ru} {bs : List Nat} (h : Lp W1 P v acc bs wr) : wr.cell? ⟨P, 0, none⟩ = some v ∧ wr.frozen? ⟨P, 0, none⟩ = false := by
 have h1 := h.box
 exact ⟨by rw [World.cell?, h1]; rfl, by simp [World.frozen?, h1]⟩
theorem Lp.start (w1 : World) : Lp (w1.alloc (.cells #[.slice none 0 0] 26)) w1.heap.size (.slice none 0 0) [] [] (w1.alloc (.cells #[.slice none 0 0] 26)) :=
 ⟨by simp, Fr.refl _ _, heap_alloc_new w1 _, SKids.nilled _ _⟩
theorem one_set {W : World} {B : Nat} {T : TypeId} {x y : Value} (h : W.heap[B]? = some (.cells #[x] T (0, 0))) : (W.setCell ⟨B, 0, none⟩ y).heap[B]? = some (.cells #[y] T (0, 0)) := by
 simp [World.setCell, Array.getElem?_modify, h]
theorem Lp.push {W1 wr w2 w3 : World} {P g cap q : Nat} {v v1 v2 u : Value} {acc : List Ru} {r : Ru} {bs b1 : List Nat} {vs : List Value} {bx o : Obj} (h : Lp W1 P v acc bs wr) (hq : q = acc.length) (hb : Below wr.heap.size wr w2)
 (hri : RuS w2 (.agg #[.string r.name, .string r.con, v1, v2, .int .i64 r.body.kind, .string r.body.name, u]) r b1) (hm : Mine w2 wr.heap.size b1)
 (hvs : (w2.alloc bx).ownsRow (P + 1) 34 7 v acc.length vs ∧ SCells (w2.alloc bx) acc vs bs)
 (ho : w3.ownsRow (P + 1) 34 7 (.slice (some ⟨g, 0, none⟩) (q + 1) cap) (q + 1) (vs ++ [.string r.name, .string r.con, v1, v2, .int .i64 r.body.kind, .string r.body.name, u]))
 (hg : ((w2.alloc bx).alloc o).grownBy w3 v.ownBlock) (hat : v.ownBlock = some g ∨ g = ((w2.alloc bx).alloc o).heap.size) :
 ∃ bs3, Lp W1 P (.slice (some ⟨g, 0, none⟩) (q + 1) cap) (acc ++ [r]) bs3 (w3.setCell ⟨P, 0, none⟩ (.slice (some ⟨g, 0, none⟩) (q + 1) cap)) ∧ w3.heap[P]? = some (.cells #[v] 26 (0, 0)) := by
 subst hq
 have hP : P < wr.heap.size := (Array.getElem?_eq_some_iff.1 h.box).1
 have hrow : ∀ k, v.ownBlock = some k → P + 1 ≤ k ∧ k < wr.heap.size := fun k hk => by
  obtain ⟨vs2, hr2, -⟩ := h.kids.row
  exact hr2.lt k hk
 have h2 := h.go hb
 have hkx : SKids (P + 1) (w2.alloc bx) v acc bs := h2.kids.keep (Fr.alloc (S := []) w2 bx) (by simp)
 have ha : Keeps w2 (w2.alloc bx) b1 := fr_keeps (Fr.alloc (S := []) w2 bx) (by simp)
 have hK := hkx.push (o := o) (C := wr.heap.size) hP (fun x hx => by
  rcases hx with hx | hx
  · exact (h.kids.mine.range x hx).2
  exact (hrow x hx).2) hvs (hri.keeps ha) (hm.keeps ha) ho hg hat
 have hF3 : Fr v.ownBlock.toList ((w2.alloc bx).alloc o) w3 := Fr.grown hg (fun k hk => by simp [hk])
 have hF : Fr v.ownBlock.toList w2 w3 := ((Fr.alloc w2 bx).trans (Fr.alloc (w2.alloc bx) o) (fun x hx => Or.inl hx)).trans hF3 (fun x hx => Or.inl hx)
 have hnP : P ∉ v.ownBlock.toList := fun hx => by have := (hrow P (by simpa using hx)).1; omega
 have hbox3 : w3.heap[P]? = some (.cells #[v] 26 (0, 0)) := (hF.block P (by have := hb.size; omega) hnP).trans h2.box
 refine ⟨_, ⟨h.top, ?_, ?_, hK.keep (Fr.set (S := [P]) w3 ⟨P, 0, none⟩ _ (by simp)) (by simp)⟩, hbox3⟩
 · exact (h2.fr.trans hF (fun x hx => Or.inr (by have := (hrow x (by simpa using hx)).1; rw [h.top]; exact this))).trans (Fr.set (S := [P]) w3 ⟨P, 0, none⟩ _ (by simp)) (fun x hx => Or.inl hx)
 simp [World.setCell, Array.getElem?_modify, hbox3]
theorem lines_last {L : List ByteArray} {m : Nat} (hm : L.length = m + 1) : ∃ x, L[m]? = some x ∧ L.getLast?.getD ⟨#[]⟩ = x := by
 have h : m < L.length := by omega
 refine ⟨L[m], List.getElem?_eq_getElem h, ?_⟩
 rw [List.getLast?_eq_getElem?, hm]
 show (L[m]?).getD _ = _
 rw [List.getElem?_eq_getElem h]; rfl
theorem strs_drop {w : World} {A : Option Addr} {L : List ByteArray} (h : Strs w A L) : Strs w A L.dropLast := fun i x hx => by
 rw [List.getElem?_dropLast] at hx
 split at hx
 · exact h i x hx
 cases hx
theorem Strs.fr {w w' : World} {P : Nat} {A : Option Addr} {xs : List ByteArray} (h : Strs w A xs) (hP : w.heap.size ≤ P) (hf : Fr [P] w w') : Strs w' A xs := fun i x hx => by
 obtain ⟨a, e, hc, hl⟩ := h i x hx
 have hb := hf.block a.block hl (by simp; omega)
 exact ⟨a, e, (World.cell?_of_block (w := w) (a := a.add i) (by rw [block_add]; exact hb)).trans hc, nL hl hf.size⟩
set_option maxRecDepth 100000 in
theorem parsepr_row (s : ByteArray) (w : World) (hs : s.size ≤ 1048576) : Calls Tryz.prog 66 #[.string s] w (PrPostS (readPr s) w) := by
 obtain ⟨i0, hi, hz0, hz1, hz2⟩ := info_parts Tryz.infoRu
 have HI := zH (aI hi (aI hz0 (aI hz1 hz2)))
 clear hi hz0 hz1 hz2
 have HS := zH hs
 have hsi : (s.size : Int) ≤ 1048576 := by omega
 obtain ⟨W0, hW0⟩ : ∃ W0, W0 = w.alloc (.cells #[.slice none 0 0] 26) := ⟨_, rfl⟩
 have hsp := spec_split s 10 (by decide) (by decide) hs W0
 have h10 : UInt8.ofNat (10 : Int).toNat = 10 := by decide
 rw [h10] at hsp
 have HSP := zH hsp
 have hb0 : Below w.heap.size w W0 := by rw [hW0]; exact (wB _ w).alloc (nR _) _
 have hR0 : W0.heap[w.heap.size]? = some (.cells #[.slice none 0 0] 26 (0, 0)) := by rw [hW0]; exact heap_alloc_new w _
 have HB0 := zH hb0
 have HR0 := zH hR0
 have HW0 := zH hW0
 clear hs hsp h10 hb0 hR0 hW0
 go_enter Tryz.func66, Tryz.ntmps66
 go_wp2_with fail
 go_at_call 88
 rw [← HW0.out]
 refine HSP.out.mono ?_
 rintro e w1 ⟨v1, rfl, ho1, hb1⟩
 obtain ⟨A1, c1, rfl, hst1⟩ := ho1.shape
 obtain ⟨m, hm⟩ : ∃ m, (pieces s 10).length = m + 1 := ⟨(pieces s 10).length - 1, by rw [pieces_length]; omega⟩
 have hmz : m ≤ 1048576 := by have h9 := pieces_le s 10; have := HS.out; omega
 have hmi : (m : Int) ≤ 1048576 := by omega
 obtain ⟨x, hx1, hx2⟩ := lines_last hm
 have HMC := zH (show (pieces s 10).length ≤ c1 from by
  rcases ho1.2 with ⟨h0, h9⟩ | ⟨g, cap, cur, h0, -, -, hn, hmx, -⟩
  · simp only [Value.slice.injEq] at h0; omega
  simp only [Value.slice.injEq] at h0; omega)
 have hmc : m ≤ c1 := by have := HMC.out; omega
 obtain ⟨a, rfl, hca, hal⟩ := hst1 m x hx1
 have hlow : Below w.heap.size w w1 := HB0.out.trans (hb1.mono HB0.out.size)
 have hR1 : w1.heap[w.heap.size]? = some (.cells #[.slice none 0 0] 26 (0, 0)) := (hb1.block _ (Array.getElem?_eq_some_iff.1 HR0.out).1).trans HR0.out
 have hwl : w.heap.size < w1.heap.size := (Array.getElem?_eq_some_iff.1 hR1).1
 have HLL := zH (show lineL s = if x.size = 0 then (pieces s 10).dropLast else pieces s 10 by unfold lineL; rw [hx2])
 have HST := zH hst1
 have HM := zH hm
 have HLOW1 := zH hlow
 have HR1 := zH hR1
 rw [hm]
 clear ho1 hb1 hst1 hx1 hx2 HR0 hm hlow hR1
 by_cases hx0 : x.size = 0
 · have hxe := empty_yes hx0
   rw [if_pos hx0] at HLL
   have hln : Strs w1 (some a) (lineL s) := by rw [HLL.out]; exact strs_drop HST.out
   have hq : (lineL s).length = m := by rw [HLL.out, List.length_dropLast, HM.out]; omega
   have HLN := zH hln
   have HQ0 := zH hq
   clear hx0 hln hq
   go_wp2_with fail
   have hln := HLN.out
   have hq := HQ0.out
   have hlow := HLOW1.out
   have hR1 := HR1.out
   have HLI := zH (fun (Y : World) (hY : Fr [w1.heap.size] (w1.alloc (.cells #[.slice none 0 0] 26)) Y) => show Strs Y (some a) (lineL s) from (hln.fr (P := w1.heap.size) (nR _) ((Fr.alloc (S := [w1.heap.size]) w1 _).trans hY (fun x hx => Or.inl hx))))
   have HRB := zH (fun (Y : World) (hY : Fr [w1.heap.size] (w1.alloc (.cells #[.slice none 0 0] 26)) Y) => show Y.heap[w.heap.size]? = some (.cells #[.slice none 0 0] 26 (0, 0)) from (hY.block w.heap.size (by simp; omega) (by simp; omega)).trans ((Below.heap_alloc w1 _ _ hwl).trans hR1))
   have HQ := zH (show (lineL s).length = m from hq)
   have HQ2 := zH (show m ≤ 1048577 from by omega)
   have hqi : ((m : Nat) : Int) ≤ 1048577 := by omega
   have HL0 := zH (Lp.start w1)
   have HR0 := zH (Read.start (lineL s))
   have HLOW := zH (fun (Y : World) (hY : Fr [w1.heap.size] (w1.alloc (.cells #[.slice none 0 0] 26)) Y) => show Below w.heap.size w Y from hlow.trans ((((Fr.alloc (S := [w1.heap.size]) w1 _).trans hY (fun x hx => Or.inl hx))).below (by simp; omega) (by omega)))
   clear hln hq hR1 hlow
   go_loopw [6] (fun i wr => ∃ (k : Nat) (v : Value) (acc : List Ru) (bs : List Nat), i = .int .i64 (k : Int) ∧ Hid (Read (lineL s) k acc) ∧ Hid (Lp (w1.alloc (.cells #[.slice none 0 0] 26)) w1.heap.size v acc bs wr)) (fun i _ => m - (intOf i).toNat)
   case atStart => exact ⟨0, _, [], [], rfl, HR0, HL0⟩
   case round =>
    obtain ⟨k, v, acc, bs, rfl, HR, HL⟩ := hrel
    obtain ⟨A, c, rfl, hqc, hcm⟩ := HL.out.kids.form
    obtain ⟨q, hq⟩ : ∃ q, q = acc.length := ⟨_, rfl⟩
    have HLEN := zH hq
    rw [← hq] at HL hqc
    have hql : q ≤ m := by rw [hq, HR.out.len, ← HQ.out]; exact HR.out.le
    have hkl : k ≤ m := by rw [← HQ.out]; exact HR.out.le
    obtain ⟨p0, pf⟩ := HL.out.cell
    have hPl : w1.heap.size < wr.heap.size := (Array.getElem?_eq_some_iff.1 HL.out.box).1
    have HQL := zH hql
    clear hq hql
    by_cases hlt : k < m
    · obtain ⟨y, hy⟩ : ∃ y, (lineL s)[k]? = some y := ⟨_, List.getElem?_eq_getElem (by rw [HQ.out]; exact hlt)⟩
      obtain ⟨a', e', hcx, hax⟩ := HLI.out wr HL.out.fr k y hy
      obtain rfl := Option.some.inj e'
      have hys : y.size ≤ 1048576 := by
       have h8 := lineL_tot s
       have h9 := tot_mem (List.mem_of_getElem? hy)
       have h7 := HQ.out
       have h6 := HS.out
       unfold ssTot at h8
       omega
      have HC := zH (l6rule_any y wr hys)
      have HY := zH hy
      have hk0 : (0 : Int) ≤ (k : Int) := by omega
      have hkn : (k : Int) < ((m : Nat) : Int) := by omega
      clear hy hys e'
      go_wp2_with fail
      go_at_call 89
      refine HC.out.mono ?_
      rintro e w2 ⟨v2, r, b2, rfl, hri, hm2, hb2, hrr⟩
      obtain ⟨x1, x2, u, d1, d2, d3, rfl, -, -, -, hd1, hd2, hd3⟩ := hri.ru
      obtain ⟨X1, k1, rfl⟩ := hd1.slice
      obtain ⟨X2, k2, rfl⟩ := hd2.slice
      obtain ⟨X3, z3, k3, rfl⟩ := his_slice0 hd3
      have hL2 := HL.out.go hb2
      have hR2 := HRB.out w2 hL2.fr
      have hwl2 : w.heap.size < w2.heap.size := (Array.getElem?_eq_some_iff.1 hR2).1
      have hPl2 : w1.heap.size < w2.heap.size := (Array.getElem?_eq_some_iff.1 hL2.box).1
      obtain ⟨p0', pf'⟩ := hL2.cell
      have r0 : w2.cell? ⟨w.heap.size, 0, none⟩ = some (.slice none 0 0) := by rw [World.cell?, hR2]; rfl
      have rf : w2.frozen? ⟨w.heap.size, 0, none⟩ = false := by simp [World.frozen?, hR2]
      have HR2 := zH hR2
      have HLO2 := zH (HLOW.out w2 hL2.fr)
      clear hd1 hd2 hd3 hR2
      rcases hrd : readRu y with _ | r2
      · have HE := zH (read_stop (HR.out.stop HY.out hrd))
        clear hrr hrd hri hm2 hb2 hL2
        go_wp2_with fail
        obtain ⟨Wf, hWf⟩ : ∃ W, W = (w2.setCell ⟨w.heap.size, 0, none⟩ (.slice none 0 0)).alloc (.cells #[.string r.name, .string r.con, .slice X1 r.vars.length k1, .slice X2 r.params.length k2, .int .i64 r.body.kind, .string r.body.name, .slice X3 z3 k3] 34) := ⟨_, rfl⟩
        have hRf : Wf.heap[w.heap.size]? = some (.cells #[.slice none 0 0] 26 (0, 0)) := by rw [hWf]; exact (Below.heap_alloc _ _ _ (by simp [World.setCell]; exact hwl2)).trans (one_set HR2.out)
        have hlf : Below w.heap.size w Wf := by rw [hWf]; exact (HLO2.out.setCell (p := ⟨w.heap.size, 0, none⟩) (nR _) _).alloc (by simp [World.setCell]; omega) _
        rw [← hWf]
        have k0 : Wf.cell? ⟨w.heap.size, 0, none⟩ = some (.slice none 0 0) := by rw [World.cell?, hRf]; rfl
        refine bP (v := .tuple #[.agg #[.slice none 0 0], .int .i64 (k : Int)]) (by simp [results, Tryz.results66, go_sem, k0]) rfl ?_
        rw [HE.out]
        exact ⟨_, [], rfl, SKids.nilled _ _, hlf⟩
      obtain rfl : r = r2 := hrr r2 hrd
      have HRN := zH (HR.out.next HY.out hrd)
      obtain ⟨vs, hvs, hcs⟩ := (hL2.kids.keep (Fr.alloc (S := []) w2 (.cells #[.string r.name, .string r.con, .slice X1 r.vars.length k1, .slice X2 r.params.length k2, .int .i64 r.body.kind, .string r.body.name, .slice X3 z3 k3] 34)) (by simp)).row
      have HP := zH (fun (w3 : World) (g cap : Nat) => HL.out.push (q := q) HLEN.out (w3 := w3) (g := g) (cap := cap) (o := .cells #[.string r.name, .string r.con, .slice X1 r.vars.length k1, .slice X2 r.params.length k2, .int .i64 r.body.kind, .string r.body.name, .slice X3 z3 k3] 34) hb2 hri hm2 ⟨hvs, hcs⟩)
      have HVS := zH (show ((w2.alloc (.cells #[.string r.name, .string r.con, .slice X1 r.vars.length k1, .slice X2 r.params.length k2, .int .i64 r.body.kind, .string r.body.name, .slice X3 z3 k3] 34)).alloc (.cells #[.string r.name, .string r.con, .slice X1 r.vars.length k1, .slice X2 r.params.length k2, .int .i64 r.body.kind, .string r.body.name, .slice X3 z3 k3] 34)).ownsRow (w1.heap.size + 1) 34 7 (.slice A q c) q vs from by
       have h1 := hvs.alloc (.cells #[.string r.name, .string r.con, .slice X1 r.vars.length k1, .slice X2 r.params.length k2, .int .i64 r.body.kind, .string r.body.name, .slice X3 z3 k3] 34)
       rw [← HLEN.out] at h1
       exact h1)
      have HNW := zH (show ∀ j u, ([.string r.name, .string r.con, .slice X1 r.vars.length k1, .slice X2 r.params.length k2, .int .i64 r.body.kind, .string r.body.name, .slice X3 z3 k3] : List Value)[j]? = some u → ((w2.alloc (.cells #[.string r.name, .string r.con, .slice X1 r.vars.length k1, .slice X2 r.params.length k2, .int .i64 r.body.kind, .string r.body.name, .slice X3 z3 k3] 34)).alloc (.cells #[.string r.name, .string r.con, .slice X1 r.vars.length k1, .slice X2 r.params.length k2, .int .i64 r.body.kind, .string r.body.name, .slice X3 z3 k3] 34)).cell? ((⟨w2.heap.size + 1, 0, none⟩ : Addr).add j) = some u from by
       have h1 := World.news_of_block (w := (w2.alloc (.cells #[.string r.name, .string r.con, .slice X1 r.vars.length k1, .slice X2 r.params.length k2, .int .i64 r.body.kind, .string r.body.name, .slice X3 z3 k3] 34)).alloc (.cells #[.string r.name, .string r.con, .slice X1 r.vars.length k1, .slice X2 r.params.length k2, .int .i64 r.body.kind, .string r.body.name, .slice X3 z3 k3] 34)) (heap_alloc_new (w2.alloc (.cells #[.string r.name, .string r.con, .slice X1 r.vars.length k1, .slice X2 r.params.length k2, .int .i64 r.body.kind, .string r.body.name, .slice X3 z3 k3] 34)) (.cells #[.string r.name, .string r.con, .slice X1 r.vars.length k1, .slice X2 r.params.length k2, .int .i64 r.body.kind, .string r.body.name, .slice X3 z3 k3] 34))
       simp only [World.size_alloc] at h1
       exact h1)
      have H1C := zH (show ∀ u ∈ ([.string r.name, .string r.con, .slice X1 r.vars.length k1, .slice X2 r.params.length k2, .int .i64 r.body.kind, .string r.body.name, .slice X3 z3 k3] : List Value), u.oneCell' = true from fun u hu => by
       simp at hu
       rcases hu with rfl | rfl | rfl | rfl | rfl | rfl | rfl <;> rfl)
      have C1 := zH (show q + 1 ≤ maxLen by have := HQ2.out; have := HQL.out; unfold maxLen; omega)
      have C2 := zH (show (q + 1) * 128 ≤ 140737488355328 by have := HQ2.out; have := HQL.out; omega)
      have C4 := zH (show w1.heap.size + 1 ≤ ((w2.alloc (.cells #[.string r.name, .string r.con, .slice X1 r.vars.length k1, .slice X2 r.params.length k2, .int .i64 r.body.kind, .string r.body.name, .slice X3 z3 k3] 34)).alloc (.cells #[.string r.name, .string r.con, .slice X1 r.vars.length k1, .slice X2 r.params.length k2, .int .i64 r.body.kind, .string r.body.name, .slice X3 z3 k3] 34)).heap.size by simp; omega)
      clear hrr hrd hri hm2 hb2 hL2 hvs hcs
      generalize r.vars.length = zz1 at *
      generalize r.params.length = zz2 at *
      go_wp2_with (at_builtin; (refine wpList_append_lies _ rfl (.tmp 43) (.tmp 45) 24 rfl (w1.heap.size + 1) 34 i0 (.agg #[.string ⟨#[]⟩, .string ⟨#[]⟩, .slice none 0 0, .slice none 0 0, .int .i64 0, .string ⟨#[]⟩, .slice none 0 0]) 7 128 Tryz.underlying24 HI.out.1 HI.out.2.1 HI.out.2.2.1 HI.out.2.2.2 rfl (by decide) (.slice A q c) q vs rfl HVS.out ⟨w2.heap.size + 1, 0, none⟩ 1 1 [.string r.name, .string r.con, .slice X1 zz1 k1, .slice X2 zz2 k2, .int .i64 r.body.kind, .string r.body.name, .slice X3 z3 k3] rfl rfl HNW.out H1C.out (by decide) C1.out C2.out C4.out _ rfl ?_); intro g cap w3 ho3 hg3 hat3 hlt3; obtain ⟨bs3, h5, h6⟩ := HP.out w3 g cap ho3 hg3 hat3; have H5 := zH h5; have p9 : w3.cell? ⟨w1.heap.size, 0, none⟩ = some (.slice A q c) := (by simp [World.cell?, h6]); have pf9 : w3.frozen? ⟨w1.heap.size, 0, none⟩ = false := (by simp [World.frozen?, h6]); clear ho3 hg3 hat3 h5 h6)
      go_roundw
      case rel => exact ⟨k + 1, _, _, bs3, by go_num, HRN, H5⟩
      case measure => simp [intOf]; omega
    have HD := zH (HR.out.done (by rw [HQ.out]; exact hlt))
    obtain ⟨bs2, hrs, hmn⟩ := HL.out.kids.is
    have hroom := HR.out.room HS.out
    have hpr : PrIs wr (.agg #[.slice A q c]) acc bs2 := ⟨_, rfl, hrs⟩
    have HFP := zH (spec_prtext acc _ bs2 wr hpr hroom.1)
    have HPR := zH hpr
    have HMN := zH hmn
    have hke : k = m := by omega
    have HKE := zH hke
    have hRw := HRB.out wr HL.out.fr
    have HRW := zH hRw
    have HLO := zH (HLOW.out wr HL.out.fr)
    clear hrs hpr hmn hroom hke hRw
    generalize hrt : prStr acc = rt at *
    have HRT := zH hrt
    clear hrt
    go_wp2_with fail
    go_at_call 90
    refine HFP.out.mono ?_
    rintro e w2 ⟨rfl, hb2⟩
    have hL2 := HL.out.go hb2
    have hR2 := (hb2.block _ (Array.getElem?_eq_some_iff.1 HRW.out).1).trans HRW.out
    have hwl2 : w.heap.size < w2.heap.size := (Array.getElem?_eq_some_iff.1 hR2).1
    have hPl2 : w1.heap.size < w2.heap.size := (Array.getElem?_eq_some_iff.1 hL2.box).1
    obtain ⟨p0', pf'⟩ := hL2.cell
    have r0 : w2.cell? ⟨w.heap.size, 0, none⟩ = some (.slice none 0 0) := by rw [World.cell?, hR2]; rfl
    have rf : w2.frozen? ⟨w.heap.size, 0, none⟩ = false := by simp [World.frozen?, hR2]
    have HR2 := zH hR2
    have HLO2 := zH (HLO.out.trans (hb2.mono HLO.out.size))
    have HB2 := zH hb2
    clear hb2 hL2 hR2
    by_cases ht : rt = s
    · have heq9 : (rt.toList == s.toList) = true := by rw [ht]; simp
      have HE := zH (read_good HD.out (by rw [HRT.out]; exact ht))
      clear ht
      go_wp2_with fail
      obtain ⟨Wf, hWf⟩ : ∃ W, W = w2.setCell ⟨w.heap.size, 0, none⟩ (.slice A q c) := ⟨_, rfl⟩
      have hRf : Wf.heap[w.heap.size]? = some (.cells #[.slice A q c] 26 (0, 0)) := by rw [hWf]; exact one_set HR2.out
      have hlf : Below w.heap.size w Wf := by rw [hWf]; exact HLO2.out.setCell (p := ⟨w.heap.size, 0, none⟩) (nR _) _
      have hkf : Keeps wr Wf bs2 := keeps_on (keeps_below HB2.out bs2) (by rw [hWf]; exact keeps_set (fun x hx => by have := (HMN.out.range x hx).1; show x ≠ w.heap.size; omega))
      rw [← hWf]
      have k0 : Wf.cell? ⟨w.heap.size, 0, none⟩ = some (.slice A q c) := by rw [World.cell?, hRf]; rfl
      refine bP (v := .tuple #[.agg #[.slice A q c], .int .i64 (-1)]) (by simp [results, Tryz.results66, go_sem, k0]) rfl ?_
      rw [HE.out]
      exact ⟨_, bs, rfl, by
       have h8 := (HL.out.go HB2.out).kids.keep (Fr.set (S := [w.heap.size]) w2 ⟨w.heap.size, 0, none⟩ (.slice A q c) (by simp)) (by simp; omega)
       rw [← hWf] at h8
       exact h8.mono (by omega), hlf⟩
    have heq9 : (rt.toList == s.toList) = false := toList_ne ht
    have HE := zH (read_bad HD.out (by rw [HRT.out]; exact ht))
    clear ht
    go_wp2_with fail
    obtain ⟨Wf, hWf⟩ : ∃ W, W = w2.setCell ⟨w.heap.size, 0, none⟩ (.slice none 0 0) := ⟨_, rfl⟩
    have hRf : Wf.heap[w.heap.size]? = some (.cells #[.slice none 0 0] 26 (0, 0)) := by rw [hWf]; exact one_set HR2.out
    have hlf : Below w.heap.size w Wf := by rw [hWf]; exact HLO2.out.setCell (p := ⟨w.heap.size, 0, none⟩) (nR _) _
    rw [← hWf]
    have k0 : Wf.cell? ⟨w.heap.size, 0, none⟩ = some (.slice none 0 0) := by rw [World.cell?, hRf]; rfl
    refine bP (v := .tuple #[.agg #[.slice none 0 0], .int .i64 ((m : Nat) : Int)]) (by simp [results, Tryz.results66, go_sem, k0]) rfl ?_
    rw [HE.out, HQ.out]
    exact ⟨_, [], rfl, SKids.nilled _ _, hlf⟩
 have hxe := empty_not hx0
 rw [if_neg hx0] at HLL
 have hln : Strs w1 (some a) (lineL s) := by rw [HLL.out]; exact HST.out
 obtain ⟨q1, hq1⟩ : ∃ q1, q1 = m + 1 := ⟨_, rfl⟩
 have hq : (lineL s).length = q1 := by rw [HLL.out, HM.out, hq1]
 have hq1z : q1 ≤ 1048577 := by omega
 have hq1c : q1 ≤ c1 := by rw [hq1, ← HM.out]; exact HMC.out
 have HLN := zH hln
 have HQ0 := zH hq
 clear hx0 hln hq
 go_wp2_with fail
 rw [← hq1]
 clear hq1
 have hln := HLN.out
 have hq := HQ0.out
 have hlow := HLOW1.out
 have hR1 := HR1.out
 have HLI := zH (fun (Y : World) (hY : Fr [w1.heap.size] (w1.alloc (.cells #[.slice none 0 0] 26)) Y) => show Strs Y (some a) (lineL s) from (hln.fr (P := w1.heap.size) (nR _) ((Fr.alloc (S := [w1.heap.size]) w1 _).trans hY (fun x hx => Or.inl hx))))
 have HRB := zH (fun (Y : World) (hY : Fr [w1.heap.size] (w1.alloc (.cells #[.slice none 0 0] 26)) Y) => show Y.heap[w.heap.size]? = some (.cells #[.slice none 0 0] 26 (0, 0)) from (hY.block w.heap.size (by simp; omega) (by simp; omega)).trans ((Below.heap_alloc w1 _ _ hwl).trans hR1))
 have HQ := zH (show (lineL s).length = q1 from hq)
 have HQ2 := zH (show q1 ≤ 1048577 from by omega)
 have hqi : ((q1 : Nat) : Int) ≤ 1048577 := by omega
 have HL0 := zH (Lp.start w1)
 have HR0 := zH (Read.start (lineL s))
 have HLOW := zH (fun (Y : World) (hY : Fr [w1.heap.size] (w1.alloc (.cells #[.slice none 0 0] 26)) Y) => show Below w.heap.size w Y from hlow.trans ((((Fr.alloc (S := [w1.heap.size]) w1 _).trans hY (fun x hx => Or.inl hx))).below (by simp; omega) (by omega)))
 clear hln hq hR1 hlow
 go_loopw [6] (fun i wr => ∃ (k : Nat) (v : Value) (acc : List Ru) (bs : List Nat), i = .int .i64 (k : Int) ∧ Hid (Read (lineL s) k acc) ∧ Hid (Lp (w1.alloc (.cells #[.slice none 0 0] 26)) w1.heap.size v acc bs wr)) (fun i _ => q1 - (intOf i).toNat)
 case atStart => exact ⟨0, _, [], [], rfl, HR0, HL0⟩
 case round =>
  obtain ⟨k, v, acc, bs, rfl, HR, HL⟩ := hrel
  obtain ⟨A, c, rfl, hqc, hcm⟩ := HL.out.kids.form
  obtain ⟨q, hq⟩ : ∃ q, q = acc.length := ⟨_, rfl⟩
  have HLEN := zH hq
  rw [← hq] at HL hqc
  have hql : q ≤ q1 := by rw [hq, HR.out.len, ← HQ.out]; exact HR.out.le
  have hkl : k ≤ q1 := by rw [← HQ.out]; exact HR.out.le
  obtain ⟨p0, pf⟩ := HL.out.cell
  have hPl : w1.heap.size < wr.heap.size := (Array.getElem?_eq_some_iff.1 HL.out.box).1
  have HQL := zH hql
  clear hq hql
  by_cases hlt : k < q1
  · obtain ⟨y, hy⟩ : ∃ y, (lineL s)[k]? = some y := ⟨_, List.getElem?_eq_getElem (by rw [HQ.out]; exact hlt)⟩
    obtain ⟨a', e', hcx, hax⟩ := HLI.out wr HL.out.fr k y hy
    obtain rfl := Option.some.inj e'
    have hys : y.size ≤ 1048576 := by
     have h8 := lineL_tot s
     have h9 := tot_mem (List.mem_of_getElem? hy)
     have h7 := HQ.out
     have h6 := HS.out
     unfold ssTot at h8
     omega
    have HC := zH (l6rule_any y wr hys)
    have HY := zH hy
    have hk0 : (0 : Int) ≤ (k : Int) := by omega
    have hkn : (k : Int) < ((q1 : Nat) : Int) := by omega
    clear hy hys e'
    go_wp2_with fail
    go_at_call 89
    refine HC.out.mono ?_
    rintro e w2 ⟨v2, r, b2, rfl, hri, hm2, hb2, hrr⟩
    obtain ⟨x1, x2, u, d1, d2, d3, rfl, -, -, -, hd1, hd2, hd3⟩ := hri.ru
    obtain ⟨X1, k1, rfl⟩ := hd1.slice
    obtain ⟨X2, k2, rfl⟩ := hd2.slice
    obtain ⟨X3, z3, k3, rfl⟩ := his_slice0 hd3
    have hL2 := HL.out.go hb2
    have hR2 := HRB.out w2 hL2.fr
    have hwl2 : w.heap.size < w2.heap.size := (Array.getElem?_eq_some_iff.1 hR2).1
    have hPl2 : w1.heap.size < w2.heap.size := (Array.getElem?_eq_some_iff.1 hL2.box).1
    obtain ⟨p0', pf'⟩ := hL2.cell
    have r0 : w2.cell? ⟨w.heap.size, 0, none⟩ = some (.slice none 0 0) := by rw [World.cell?, hR2]; rfl
    have rf : w2.frozen? ⟨w.heap.size, 0, none⟩ = false := by simp [World.frozen?, hR2]
    have HR2 := zH hR2
    have HLO2 := zH (HLOW.out w2 hL2.fr)
    clear hd1 hd2 hd3 hR2
    rcases hrd : readRu y with _ | r2
    · have HE := zH (read_stop (HR.out.stop HY.out hrd))
      clear hrr hrd hri hm2 hb2 hL2
      go_wp2_with fail
      obtain ⟨Wf, hWf⟩ : ∃ W, W = (w2.setCell ⟨w.heap.size, 0, none⟩ (.slice none 0 0)).alloc (.cells #[.string r.name, .string r.con, .slice X1 r.vars.length k1, .slice X2 r.params.length k2, .int .i64 r.body.kind, .string r.body.name, .slice X3 z3 k3] 34) := ⟨_, rfl⟩
      have hRf : Wf.heap[w.heap.size]? = some (.cells #[.slice none 0 0] 26 (0, 0)) := by rw [hWf]; exact (Below.heap_alloc _ _ _ (by simp [World.setCell]; exact hwl2)).trans (one_set HR2.out)
      have hlf : Below w.heap.size w Wf := by rw [hWf]; exact (HLO2.out.setCell (p := ⟨w.heap.size, 0, none⟩) (nR _) _).alloc (by simp [World.setCell]; omega) _
      rw [← hWf]
      have k0 : Wf.cell? ⟨w.heap.size, 0, none⟩ = some (.slice none 0 0) := by rw [World.cell?, hRf]; rfl
      refine bP (v := .tuple #[.agg #[.slice none 0 0], .int .i64 (k : Int)]) (by simp [results, Tryz.results66, go_sem, k0]) rfl ?_
      rw [HE.out]
      exact ⟨_, [], rfl, SKids.nilled _ _, hlf⟩
    obtain rfl : r = r2 := hrr r2 hrd
    have HRN := zH (HR.out.next HY.out hrd)
    obtain ⟨vs, hvs, hcs⟩ := (hL2.kids.keep (Fr.alloc (S := []) w2 (.cells #[.string r.name, .string r.con, .slice X1 r.vars.length k1, .slice X2 r.params.length k2, .int .i64 r.body.kind, .string r.body.name, .slice X3 z3 k3] 34)) (by simp)).row
    have HP := zH (fun (w3 : World) (g cap : Nat) => HL.out.push (q := q) HLEN.out (w3 := w3) (g := g) (cap := cap) (o := .cells #[.string r.name, .string r.con, .slice X1 r.vars.length k1, .slice X2 r.params.length k2, .int .i64 r.body.kind, .string r.body.name, .slice X3 z3 k3] 34) hb2 hri hm2 ⟨hvs, hcs⟩)
    have HVS := zH (show ((w2.alloc (.cells #[.string r.name, .string r.con, .slice X1 r.vars.length k1, .slice X2 r.params.length k2, .int .i64 r.body.kind, .string r.body.name, .slice X3 z3 k3] 34)).alloc (.cells #[.string r.name, .string r.con, .slice X1 r.vars.length k1, .slice X2 r.params.length k2, .int .i64 r.body.kind, .string r.body.name, .slice X3 z3 k3] 34)).ownsRow (w1.heap.size + 1) 34 7 (.slice A q c) q vs from by
     have h1 := hvs.alloc (.cells #[.string r.name, .string r.con, .slice X1 r.vars.length k1, .slice X2 r.params.length k2, .int .i64 r.body.kind, .string r.body.name, .slice X3 z3 k3] 34)
     rw [← HLEN.out] at h1
     exact h1)
    have HNW := zH (show ∀ j u, ([.string r.name, .string r.con, .slice X1 r.vars.length k1, .slice X2 r.params.length k2, .int .i64 r.body.kind, .string r.body.name, .slice X3 z3 k3] : List Value)[j]? = some u → ((w2.alloc (.cells #[.string r.name, .string r.con, .slice X1 r.vars.length k1, .slice X2 r.params.length k2, .int .i64 r.body.kind, .string r.body.name, .slice X3 z3 k3] 34)).alloc (.cells #[.string r.name, .string r.con, .slice X1 r.vars.length k1, .slice X2 r.params.length k2, .int .i64 r.body.kind, .string r.body.name, .slice X3 z3 k3] 34)).cell? ((⟨w2.heap.size + 1, 0, none⟩ : Addr).add j) = some u from by
     have h1 := World.news_of_block (w := (w2.alloc (.cells #[.string r.name, .string r.con, .slice X1 r.vars.length k1, .slice X2 r.params.length k2, .int .i64 r.body.kind, .string r.body.name, .slice X3 z3 k3] 34)).alloc (.cells #[.string r.name, .string r.con, .slice X1 r.vars.length k1, .slice X2 r.params.length k2, .int .i64 r.body.kind, .string r.body.name, .slice X3 z3 k3] 34)) (heap_alloc_new (w2.alloc (.cells #[.string r.name, .string r.con, .slice X1 r.vars.length k1, .slice X2 r.params.length k2, .int .i64 r.body.kind, .string r.body.name, .slice X3 z3 k3] 34)) (.cells #[.string r.name, .string r.con, .slice X1 r.vars.length k1, .slice X2 r.params.length k2, .int .i64 r.body.kind, .string r.body.name, .slice X3 z3 k3] 34))
     simp only [World.size_alloc] at h1
     exact h1)
    have H1C := zH (show ∀ u ∈ ([.string r.name, .string r.con, .slice X1 r.vars.length k1, .slice X2 r.params.length k2, .int .i64 r.body.kind, .string r.body.name, .slice X3 z3 k3] : List Value), u.oneCell' = true from fun u hu => by
     simp at hu
     rcases hu with rfl | rfl | rfl | rfl | rfl | rfl | rfl <;> rfl)
    have C1 := zH (show q + 1 ≤ maxLen by have := HQ2.out; have := HQL.out; unfold maxLen; omega)
    have C2 := zH (show (q + 1) * 128 ≤ 140737488355328 by have := HQ2.out; have := HQL.out; omega)
    have C4 := zH (show w1.heap.size + 1 ≤ ((w2.alloc (.cells #[.string r.name, .string r.con, .slice X1 r.vars.length k1, .slice X2 r.params.length k2, .int .i64 r.body.kind, .string r.body.name, .slice X3 z3 k3] 34)).alloc (.cells #[.string r.name, .string r.con, .slice X1 r.vars.length k1, .slice X2 r.params.length k2, .int .i64 r.body.kind, .string r.body.name, .slice X3 z3 k3] 34)).heap.size by simp; omega)
    clear hrr hrd hri hm2 hb2 hL2 hvs hcs
    generalize r.vars.length = zz1 at *
    generalize r.params.length = zz2 at *
    go_wp2_with (at_builtin; (refine wpList_append_lies _ rfl (.tmp 43) (.tmp 45) 24 rfl (w1.heap.size + 1) 34 i0 (.agg #[.string ⟨#[]⟩, .string ⟨#[]⟩, .slice none 0 0, .slice none 0 0, .int .i64 0, .string ⟨#[]⟩, .slice none 0 0]) 7 128 Tryz.underlying24 HI.out.1 HI.out.2.1 HI.out.2.2.1 HI.out.2.2.2 rfl (by decide) (.slice A q c) q vs rfl HVS.out ⟨w2.heap.size + 1, 0, none⟩ 1 1 [.string r.name, .string r.con, .slice X1 zz1 k1, .slice X2 zz2 k2, .int .i64 r.body.kind, .string r.body.name, .slice X3 z3 k3] rfl rfl HNW.out H1C.out (by decide) C1.out C2.out C4.out _ rfl ?_); intro g cap w3 ho3 hg3 hat3 hlt3; obtain ⟨bs3, h5, h6⟩ := HP.out w3 g cap ho3 hg3 hat3; have H5 := zH h5; have p9 : w3.cell? ⟨w1.heap.size, 0, none⟩ = some (.slice A q c) := (by simp [World.cell?, h6]); have pf9 : w3.frozen? ⟨w1.heap.size, 0, none⟩ = false := (by simp [World.frozen?, h6]); clear ho3 hg3 hat3 h5 h6)
    go_roundw
    case rel => exact ⟨k + 1, _, _, bs3, by go_num, HRN, H5⟩
    case measure => simp [intOf]; omega
  have HD := zH (HR.out.done (by rw [HQ.out]; exact hlt))
  obtain ⟨bs2, hrs, hmn⟩ := HL.out.kids.is
  have hroom := HR.out.room HS.out
  have hpr : PrIs wr (.agg #[.slice A q c]) acc bs2 := ⟨_, rfl, hrs⟩
  have HFP := zH (spec_prtext acc _ bs2 wr hpr hroom.1)
  have HPR := zH hpr
  have HMN := zH hmn
  have hke : k = q1 := by omega
  have HKE := zH hke
  have hRw := HRB.out wr HL.out.fr
  have HRW := zH hRw
  have HLO := zH (HLOW.out wr HL.out.fr)
  clear hrs hpr hmn hroom hke hRw
  generalize hrt : prStr acc = rt at *
  have HRT := zH hrt
  clear hrt
  go_wp2_with fail
  go_at_call 90
  refine HFP.out.mono ?_
  rintro e w2 ⟨rfl, hb2⟩
  have hL2 := HL.out.go hb2
  have hR2 := (hb2.block _ (Array.getElem?_eq_some_iff.1 HRW.out).1).trans HRW.out
  have hwl2 : w.heap.size < w2.heap.size := (Array.getElem?_eq_some_iff.1 hR2).1
  have hPl2 : w1.heap.size < w2.heap.size := (Array.getElem?_eq_some_iff.1 hL2.box).1
  obtain ⟨p0', pf'⟩ := hL2.cell
  have r0 : w2.cell? ⟨w.heap.size, 0, none⟩ = some (.slice none 0 0) := by rw [World.cell?, hR2]; rfl
  have rf : w2.frozen? ⟨w.heap.size, 0, none⟩ = false := by simp [World.frozen?, hR2]
  have HR2 := zH hR2
  have HLO2 := zH (HLO.out.trans (hb2.mono HLO.out.size))
  have HB2 := zH hb2
  clear hb2 hL2 hR2
  by_cases ht : rt = s
  · have heq9 : (rt.toList == s.toList) = true := by rw [ht]; simp
    have HE := zH (read_good HD.out (by rw [HRT.out]; exact ht))
    clear ht
    go_wp2_with fail
    obtain ⟨Wf, hWf⟩ : ∃ W, W = w2.setCell ⟨w.heap.size, 0, none⟩ (.slice A q c) := ⟨_, rfl⟩
    have hRf : Wf.heap[w.heap.size]? = some (.cells #[.slice A q c] 26 (0, 0)) := by rw [hWf]; exact one_set HR2.out
    have hlf : Below w.heap.size w Wf := by rw [hWf]; exact HLO2.out.setCell (p := ⟨w.heap.size, 0, none⟩) (nR _) _
    have hkf : Keeps wr Wf bs2 := keeps_on (keeps_below HB2.out bs2) (by rw [hWf]; exact keeps_set (fun x hx => by have := (HMN.out.range x hx).1; show x ≠ w.heap.size; omega))
    rw [← hWf]
    have k0 : Wf.cell? ⟨w.heap.size, 0, none⟩ = some (.slice A q c) := by rw [World.cell?, hRf]; rfl
    refine bP (v := .tuple #[.agg #[.slice A q c], .int .i64 (-1)]) (by simp [results, Tryz.results66, go_sem, k0]) rfl ?_
    rw [HE.out]
    exact ⟨_, bs, rfl, by
     have h8 := (HL.out.go HB2.out).kids.keep (Fr.set (S := [w.heap.size]) w2 ⟨w.heap.size, 0, none⟩ (.slice A q c) (by simp)) (by simp; omega)
     rw [← hWf] at h8
     exact h8.mono (by omega), hlf⟩
  have heq9 : (rt.toList == s.toList) = false := toList_ne ht
  have HE := zH (read_bad HD.out (by rw [HRT.out]; exact ht))
  clear ht
  go_wp2_with fail
  obtain ⟨Wf, hWf⟩ : ∃ W, W = w2.setCell ⟨w.heap.size, 0, none⟩ (.slice none 0 0) := ⟨_, rfl⟩
  have hRf : Wf.heap[w.heap.size]? = some (.cells #[.slice none 0 0] 26 (0, 0)) := by rw [hWf]; exact one_set HR2.out
  have hlf : Below w.heap.size w Wf := by rw [hWf]; exact HLO2.out.setCell (p := ⟨w.heap.size, 0, none⟩) (nR _) _
  rw [← hWf]
  have k0 : Wf.cell? ⟨w.heap.size, 0, none⟩ = some (.slice none 0 0) := by rw [World.cell?, hRf]; rfl
  refine bP (v := .tuple #[.agg #[.slice none 0 0], .int .i64 ((q1 : Nat) : Int)]) (by simp [results, Tryz.results66, go_sem, k0]) rfl ?_
  rw [HE.out, HQ.out]
  exact ⟨_, [], rfl, SKids.nilled _ _, hlf⟩
end Go.Proofs.YtiaknfnhmoinpaaGreat
