/- The contract of the program's own (*copying).copyOf: a copy in memory of its own, with the variables replaced. Condition: fewer than 2^40 nodes in the result. The contract of the library's slices.Backward over a slice of bindings, for every round that keeps what lay below. No condition. Maps that the program makes for itself, with stamps of their entries: stores by 'm[k] = v' and by an assignment of several. No condition. -/
import Derived.Test.YtbnghkgfbjipdaaMa17
import Derived.Test.YtbnghkgfbjipdaaMa05
import Derived.Test.YtbnghkgfbjipdaaMa03
import Derived.Shelf.Abstract
import Derived.WalkKit
import Derived.OwnWalkIn
import Derived.TacticsInMore
import Derived.LoopNIn
import Derived.LoopIn
import Derived.Shelf.RegionOpen
import Derived.Test.YtbnghkgfbjipdaaMa12
import Derived.WideKeyEntry
namespace Go.Proofs.Ytbnghkgfbjipdaa
open Go Go.RowKit

/-- What copyOf gives. -/
def CopyPost9 (cb : Nat) (R : Ex) (w : World) (r : Ending) (w2 : World) : Prop := ∃ v bs, r = .returned v ∧ ExIs w2 v R bs ∧ Mine w2 w.heap.size bs ∧ Fr [cb] w w2
set_option maxRecDepth 100000 in
set_option maxHeartbeats 8000000 in
theorem own_copyOf (f : ByteArray → Option Ex) (cb mb : Nat) (M : List (Value × Value)) (sh : Option Nat) (e : Ex) (v : Value) (bs : List Nat) (w : World) (hx : ExIs w v e bs) (hFx : ∀ z ∈ bs, FreeB w z)
    (hc : CBox w cb mb 0 sh) (hm : MapIs w mb M) (hv : ValsIs w M f) (hS : exSize (subE f e) ≤ 1099511627776)
    (hsh : ∀ (g o n : Nat) (X : World), Fr [cb] w X → FreeB X g → (Instr.lookup 78 (.map sh) (.agg #[.pointer (some ⟨g, o, none⟩), .int .i64 (n : Int)]) false).run Try.prog X = .ok (.bool false) X) :
    Calls Try.prog 66 #[.pointer (some ⟨cb, 0, none⟩), v] w (CopyPost9 cb (subE f e) w) := by
  obtain ⟨i0, hi, hz0, hz1, hz2⟩ := info_parts Try.infoUn
  have HI := Lib.hid (And.intro hi (And.intro hz0 (And.intro hz1 hz2)))
  clear hi hz0 hz1 hz2
  obtain ⟨u, rfl, hs, hu⟩ := id hx
  obtain ⟨A, c, rfl, hc1, hc2, -⟩ := id hu
  obtain ⟨m, hm0⟩ : ∃ m, m = e.args.length := ⟨_, rfl⟩
  rw [← hm0] at hx hc1 ⊢
  obtain ⟨wo, hwo⟩ : ∃ wo, wo = (w.alloc (.cells #[.int .i64 e.kind, .string e.name, .slice A m c] 26)).alloc (.cells #[.int .i64 0, .string ⟨#[]⟩, .slice none 0 0] 26) := ⟨_, rfl⟩
  have hbo : Below w.heap.size w wo := by rw [hwo]; exact ((Below.refl _ w).alloc (Nat.le_refl _) _).alloc (by simp) _
  have hso : wo.heap.size = w.heap.size + 1 + 1 := by rw [hwo]; simp
  have hnew : wo.heap[w.heap.size]? = some (.cells #[.int .i64 e.kind, .string e.name, .slice A m c] 26 (0, 0)) := by rw [hwo]; exact (Below.heap_alloc _ _ _ (by simp)).trans (heap_alloc_new w _)
  have hrb : wo.heap[w.heap.size + 1]? = some (.cells #[.int .i64 0, .string ⟨#[]⟩, .slice none 0 0] 26 (0, 0)) := by
    have := heap_alloc_new (w.alloc (.cells #[.int .i64 e.kind, .string e.name, .slice A m c] 26)) (.cells #[.int .i64 0, .string ⟨#[]⟩, .slice none 0 0] 26)
    rw [World.size_alloc] at this
    rw [hwo]; exact this
  have hat : ExAt wo w.heap.size 0 e bs := ExAt.mk (u := .slice A m c) (by simp [World.cell?, hnew]) (by simp [World.cell?, hnew]) (by simp [World.cell?, hnew]) (hx.below hbo)
  have hcl := hc.cells.2.2.2.2.2.2
  have hmne : mb ≠ cb := fun h => by
    obtain ⟨es, clock, h1, -⟩ := id hm
    rw [h, show w.heap[cb]? = _ from hc] at h1
    simp at h1
  have HWO := Lib.hid hwo
  have HBO := Lib.hid hbo
  have HSO := Lib.hid hso
  have HVO := Lib.hid (hv.below hbo)
  have HMO := Lib.hid (hm.on (hbo.block _ hm.lt))
  have HAT := Lib.hid hat
  have HFB := Lib.hid (show ∀ z ∈ bs, FreeB wo z from fun z hz => (hFx z hz).on (hbo.block z (hFx z hz).lt))
  clear hFx
  have HCO := Lib.hid (show CBox wo cb mb 0 sh from (hbo.block _ hcl).trans hc)
  have HRB := Lib.hid hrb
  have HSB := Lib.hid hS
  have HSH := Lib.hid hsh
  have HCL := Lib.hid hcl
  have HNE := Lib.hid hmne
  clear hx hc hm hv hS hsh hs hu hc1 hc2 hm0 hwo hbo hso hnew hrb hat hcl hmne
  go_enter Try.func66, Try.ntmps66
  go_wp2_with fail
  rw [← HWO.out]
  have HR0 := Lib.hid (show ((wo.alloc (.cells #[.int .i64 0, .string ⟨#[]⟩, .slice none 0 0] 26)).alloc (.cells #[.pointer (some ⟨w.heap.size, 0, none⟩), .pointer (some ⟨w.heap.size + 1 + 1, 0, none⟩), .int .i64 0] 137)).ownsRow wo.heap.size 137 3 (.slice (some ⟨w.heap.size + 1 + 1 + 1, 0, none⟩) 1 1) 1 [.pointer (some ⟨w.heap.size, 0, none⟩), .pointer (some ⟨w.heap.size + 1 + 1, 0, none⟩), .int .i64 0] by
    rw [← HSO.out]
    have := World.ownsRow_lit (wo.alloc (.cells #[.int .i64 0, .string ⟨#[]⟩, .slice none 0 0] 26)) (base := wo.heap.size) (e := 137) (size := 3) #[.pointer (some ⟨w.heap.size, 0, none⟩), .pointer (some ⟨wo.heap.size, 0, none⟩), .int .i64 0] 1 (by simp) (by unfold maxLen; omega) rfl
    rw [World.size_alloc] at this
    exact this)
  have HST := Lib.hid (show ∃ Ls, Cy wo f cb mb sh (w.heap.size + 1 + 1) (subE f e) (exSize (subE f e)) 0 1 (some ⟨w.heap.size + 1 + 1 + 1, 0, none⟩) 1 Ls ((wo.alloc (.cells #[.int .i64 0, .string ⟨#[]⟩, .slice none 0 0] 26)).alloc (.cells #[.pointer (some ⟨w.heap.size, 0, none⟩), .pointer (some ⟨w.heap.size + 1 + 1, 0, none⟩), .int .i64 0] 137)) ∧ uweigh f (opens Ls) = exSize (subE f e) from by
    have hb2 : Below wo.heap.size wo ((wo.alloc (.cells #[.int .i64 0, .string ⟨#[]⟩, .slice none 0 0] 26)).alloc (.cells #[.pointer (some ⟨w.heap.size, 0, none⟩), .pointer (some ⟨w.heap.size + 1 + 1, 0, none⟩), .int .i64 0] 137)) := ((Below.refl _ wo).alloc (Nat.le_refl _) _).alloc (by simp) _
    have hty : TyN ((wo.alloc (.cells #[.int .i64 0, .string ⟨#[]⟩, .slice none 0 0] 26)).alloc (.cells #[.pointer (some ⟨w.heap.size, 0, none⟩), .pointer (some ⟨w.heap.size + 1 + 1, 0, none⟩), .int .i64 0] 137)) wo.heap.size 3 := ⟨_, (Below.heap_alloc _ _ _ (by simp)).trans (heap_alloc_new wo _), rfl⟩
    rw [HSO.out] at hty
    obtain ⟨z1, z2⟩ := zip_start (w := (wo.alloc (.cells #[.int .i64 0, .string ⟨#[]⟩, .slice none 0 0] 26)).alloc (.cells #[.pointer (some ⟨w.heap.size, 0, none⟩), .pointer (some ⟨w.heap.size + 1 + 1, 0, none⟩), .int .i64 0] 137)) f (n0 := wo.heap.size) (b0 := w.heap.size + 1 + 1) ((⟨(w.heap.size, 0, e, bs), HAT.out, (by have := HSO.out; show w.heap.size < wo.heap.size; omega), HFB.out⟩, false) : Un wo) (Nat.le_of_eq HSO.out) hty
    refine ⟨_, ⟨Fr.of_below hb2, (hb2.block _ (Array.getElem?_eq_some_iff.1 HCO.out).1).trans HCO.out, ?_, rfl, z1, z2, ?_, ?_⟩, ?_⟩
    · exact HR0.out
    · show 0 + 1 + (exSize (subE f e) + 0) = _
      omega
    · show exSize (subE f e) + 0 ≤ _
      omega
    · rfl)
  clear HR0
  obtain ⟨Wi, hWi⟩ : ∃ Wi, Wi = (wo.alloc (.cells #[.int .i64 0, .string ⟨#[]⟩, .slice none 0 0] 26)).alloc (.cells #[.pointer (some ⟨w.heap.size, 0, none⟩), .pointer (some ⟨w.heap.size + 1 + 1, 0, none⟩), .int .i64 0] 137) := ⟨_, rfl⟩
  rw [← hWi]
  rw [← hWi] at HST
  clear hWi
  go_loopg [6] (exSize (subE f e)) (fun gk a wr => ∃ (nodes k : Nat) (AO : Option Addr) (co : Nat) (Ls : List (Lev wo)), a = .slice AO k co ∧ nodes ≤ 1099511627776 ∧ k ≤ 1099511627776 ∧ Hid (gk = uweigh f (opens Ls)) ∧ Hid (Cy wo f cb mb sh (w.heap.size + 1 + 1) (subE f e) (exSize (subE f e)) nodes k AO co Ls wr))
  case atStart =>
    obtain ⟨Ls, h1, h2⟩ := HST.out
    exact ⟨0, 1, _, _, Ls, rfl, by omega, by omega, Lib.hid h2.symm, Lib.hid h1⟩
  case round =>
    clear HST
    obtain ⟨nodes, k, AO, co, Ls, rfl, hnb, hkb, HG, HL⟩ := hrel
    by_cases hk : k = 0
    · rcases zip_norm Ls HL.out.zip HL.out.bot with ⟨-, T, hz, hb, hl, ht⟩ | ⟨b, l, its, x, more, -, -, hop⟩
      rotate_left
      · have := HL.out.len
        rw [hop, List.length_append, List.length_singleton] at this
        omega
      subst hk
      obtain ⟨rs, hra, hrn, hrr, hrt, -⟩ := zip_end hz hb hl ht
      clear hz hb hl ht
      obtain ⟨ru, r0, r1, r2, hri⟩ := hra.is
      obtain ⟨ru', e1, -, RA, rc, e2, -⟩ := id hri
      simp only [Value.agg.injEq, Array.mk.injEq, List.cons.injEq, and_true, true_and] at e1
      subst e1; subst e2
      have hso := HSO.out
      have hos := HL.out.fr.size
      have hcl := HCL.out
      have hbr := (HL.out.fr.block (w.heap.size + 1) (by omega) (by simp; omega)).trans HRB.out
      have z0 : wr.cell? ⟨w.heap.size + 1, 0, none⟩ = some (.int .i64 0) := by simp [World.cell?, hbr]
      have z1 : wr.cell? ⟨w.heap.size + 1, 1, none⟩ = some (.string ⟨#[]⟩) := by simp [World.cell?, hbr]
      have z2 : wr.cell? ⟨w.heap.size + 1, 2, none⟩ = some (.slice none 0 0) := by simp [World.cell?, hbr]
      have zf : ∀ o, wr.frozen? ⟨w.heap.size + 1, o, none⟩ = false := fun o => by simp [World.frozen?, hbr]
      have zl : w.heap.size + 1 < wr.heap.size := (Array.getElem?_eq_some_iff.1 hbr).1
      have hb0 := hrt.lt
      simp only [Nat.zero_add] at r0 r1 r2
      obtain ⟨R, hR⟩ : ∃ R, R = subE f e := ⟨_, rfl⟩
      have HRR := Lib.hid hR
      rw [← hR] at r0 r1 r2 hri
      obtain ⟨RN, hRN⟩ : ∃ n, n = R.args.length := ⟨_, rfl⟩
      rw [← hRN] at r2 hri
      have HEND := Lib.hid (show CopyPost9 cb R w (.returned (.agg #[.int .i64 R.kind, .string R.name, .slice RA RN rc])) (tri wr (w.heap.size + 1) 0 (.int .i64 R.kind) (.string R.name) (.slice RA RN rc)) from by
        have hk : Keeps wr (tri wr (w.heap.size + 1) 0 (.int .i64 R.kind) (.string R.name) (.slice RA RN rc)) rs := ⟨by rw [tri_size]; exact Nat.le_refl _, fun x hx _ => tri_other _ _ _ _ _ _ x (by have := (hrr x hx).1; omega)⟩
        refine ⟨_, rs, rfl, hri.keeps hk, ?_, ?_⟩
        · exact (show Mine wr w.heap.size rs from ⟨hrn, fun x hx => ⟨by have := (hrr x hx).1; omega, (hrr x hx).2.lt⟩, fun x hx => (hrr x hx).2.free⟩).keeps hk
        · exact ((Fr.of_below (S := [cb]) HBO.out).trans HL.out.fr (fun x h => Or.inl h)).trans (T := [w.heap.size + 1]) ⟨rfl, rfl, rfl, by rw [tri_size]; exact Nat.le_refl _, fun i _ hne => tri_other _ _ _ _ _ _ i (by simpa using hne)⟩ (fun x hx => Or.inr (by simp at hx; omega)))
      clear hra hrn hrr hrt hri hbr hR hRN hso hos hcl
      go_wp2_with fail
      refine bodyPost_ret (v := .agg #[.int .i64 R.kind, .string R.name, .slice RA RN rc]) (by simp [results, Try.results66, go_sem, z0, z1, z2]) rfl ?_
      rw [← HRR.out]
      exact HEND.out
    · rcases zip_norm Ls HL.out.zip HL.out.bot with ⟨h, -⟩ | ⟨b, l, its, x, more, hzip, hbot, hop⟩
      · have := HL.out.len
        rw [h] at this
        exact absurd this.symm hk
      obtain ⟨k0, rfl⟩ : ∃ k0, k = k0 + 1 := ⟨k - 1, by omega⟩
      have hk0 : (k0 : Int) ≤ 1099511627776 := by omega
      have hnb2 : (nodes : Int) ≤ 1099511627776 := by omega
      have hrow := HL.out.row
      rw [hop, uflat_one] at hrow
      obtain ⟨g, rfl, hg1, hg2, hco1, hco2, t0, t1, t2, hrow0⟩ := top3 hrow
      have HROW := Lib.hid hrow0
      have HZIP := Lib.hid hzip
      have HBOT := Lib.hid hbot
      have HOP := Lib.hid hop
      obtain ⟨px, hpx⟩ : ∃ z, z = x.1.1.1 := ⟨_, rfl⟩
      obtain ⟨po, hpo⟩ : ∃ z, z = x.1.1.2.1 := ⟨_, rfl⟩
      obtain ⟨xb, hxb⟩ : ∃ z, z = x.2 := ⟨_, rfl⟩
      obtain ⟨tp, htp⟩ : ∃ z, z = its.length := ⟨_, rfl⟩
      have hadr : x.1.adr = ⟨px, po, none⟩ := by rw [hpx, hpo]; rfl
      simp only at t0 t1 t2
      rw [hadr] at t0
      rw [← htp] at t1
      rw [← hxb] at t2
      have HTP := Lib.hid htp
      obtain ⟨PA, pc, pbs, p0, p1, p2, pis, pfs⟩ := x.1.parts
      rw [← hpx, ← hpo] at p0 p1 p2
      have hpxl : px < wo.heap.size := by rw [hpx]; exact x.1.2.2.1
      have hpne : px ≠ cb := by rw [hpx]; exact pt_ne x.1 HCO.out
      obtain ⟨PE, hPE⟩ : ∃ z, z = x.1.ex := ⟨_, rfl⟩
      rw [← hPE] at p0 p1 p2 pis
      obtain ⟨pn, hpn⟩ : ∃ z, z = PE.args.length := ⟨_, rfl⟩
      rw [← hpn] at p2 pis
      have HRES := Lib.hid (show resU f x = resE f PE xb by rw [hPE, hxb]; rfl)
      have hblk := HL.out.fr.block px hpxl (by simpa using hpne)
      have q0 := (World.cell?_of_block (w := wo) (w' := wr) (a := ⟨px, po, none⟩) hblk).trans p0
      have q1 := (World.cell?_of_block (w := wo) (w' := wr) (a := ⟨px, po + 1, none⟩) hblk).trans p1
      have q2 := (World.cell?_of_block (w := wo) (w' := wr) (a := ⟨px, po + 2, none⟩) hblk).trans p2
      have HPIS := Lib.hid pis
      have HPFS := Lib.hid pfs
      clear pfs
      have HPX := Lib.hid hpxl
      clear hrow hrow0 hadr hpx hpo hxb hPE hpn p0 p1 p2 pis hpxl hpne hblk htp hzip hbot hop
      have hk1 : (0 : Int) ≤ (k0 : Int) := by omega
      have HSS := Lib.hid (show ∀ X, Below wr.heap.size wr X → X.cell? ⟨px, po, none⟩ = some (.int .i64 PE.kind) ∧ X.cell? ⟨px, po + 1, none⟩ = some (.string PE.name) ∧ X.cell? ⟨px, po + 2, none⟩ = some (.slice PA pn pc) from fun X hX => by
        have hpl : px < wr.heap.size := Nat.lt_of_lt_of_le HPX.out HL.out.fr.size
        exact ⟨(hX.cell (p := ⟨px, po, none⟩) hpl).trans q0, (hX.cell (p := ⟨px, po + 1, none⟩) hpl).trans q1, (hX.cell (p := ⟨px, po + 2, none⟩) hpl).trans q2⟩)
      obtain ⟨RE, hRE⟩ : ∃ z, z = replE f PE xb := ⟨_, rfl⟩
      obtain ⟨RB, hRB⟩ : ∃ z, z = replB PE xb := ⟨_, rfl⟩
      have HRE := Lib.hid hRE
      have HRB := Lib.hid hRB
      have HCALL := Lib.hid (show ∀ X, Below wr.heap.size wr X → Calls Try.prog 94 #[.pointer (some ⟨cb, 0, none⟩), .agg #[.int .i64 PE.kind, .string PE.name, .slice PA pn pc], .int .i64 (lay xb)] X (ReplP wo RE RB X) from fun X hX => by
        rw [hRE, hRB]
        have hcb : CBox X cb mb (nodes : Int) sh := (hX.block _ (Array.getElem?_eq_some_iff.1 HL.out.box).1).trans HL.out.box
        have hml := HMO.out.lt
        have hmm : MapIs X mb M := HMO.out.on ((hX.block _ (Nat.lt_of_lt_of_le hml HL.out.fr.size)).trans (HL.out.fr.block mb hml (by simpa using HNE.out)))
        exact own_replaced wo f cb mb M PE xb PA pn pc pbs X HPIS.out HPFS.out hcb.cells.1 hmm HVO.out)
      clear q0 q1 q2 hRE hRB
      go_wp2_with fail
      obtain ⟨W1, hW1⟩ : ∃ W1, W1 = wr.alloc (.cells #[.pointer (some ⟨px, po, none⟩), .pointer (some ⟨b, tp * 3, none⟩), .int .i64 (lay xb)] 137) := ⟨_, rfl⟩
      rw [← hW1]
      have HB1 := Lib.hid (show Below wr.heap.size wr W1 by rw [hW1]; exact (Below.refl _ _).alloc (Nat.le_refl _) _)
      have HNX := Lib.hid (show W1.heap[wr.heap.size]? = some (.cells #[.pointer (some ⟨px, po, none⟩), .pointer (some ⟨b, tp * 3, none⟩), .int .i64 (lay xb)] 137 (0, 0)) by rw [hW1]; exact heap_alloc_new wr _)
      have HS := Lib.hid (show ∀ X, Below W1.heap.size W1 X → X.cell? ⟨px, po, none⟩ = some (.int .i64 PE.kind) ∧ X.cell? ⟨px, po + 1, none⟩ = some (.string PE.name) ∧ X.cell? ⟨px, po + 2, none⟩ = some (.slice PA pn pc) ∧ X.cell? ⟨wr.heap.size, 0, none⟩ = some (.pointer (some ⟨px, po, none⟩)) ∧ X.cell? ⟨wr.heap.size, 2, none⟩ = some (.int .i64 (lay xb)) from fun X hX => by
        have hl := (Array.getElem?_eq_some_iff.1 HNX.out).1
        have h := HSS.out X (HB1.out.trans (hX.mono HB1.out.size))
        exact ⟨h.1, h.2.1, h.2.2, (hX.cell (p := ⟨wr.heap.size, 0, none⟩) hl).trans (by simp [World.cell?, HNX.out]), (hX.cell (p := ⟨wr.heap.size, 2, none⟩) hl).trans (by simp [World.cell?, HNX.out])⟩)
      clear hW1
      refine cut_r9 (fun a W => ∃ (b8 : Nat) (RA : Option Addr) (rq rc : Nat) (rbs : List Nat), a = { tmps := #[.pointer (some ⟨cb, 0, none⟩), .agg #[.int .i64 e.kind, .string e.name, .slice A m c], undef, .pointer (some ⟨w.heap.size, 0, none⟩), .pointer (some ⟨w.heap.size + 1, 0, none⟩), .pointer (some ⟨w.heap.size + 1 + 1, 0, none⟩), .slice (some ⟨g, 0, none⟩) k0 co, .pointer (some ⟨wr.heap.size, 0, none⟩), .pointer (some ⟨b8, 0, none⟩), .int .i64 (lay RB), u10, u11, u12, .agg #[.pointer (some ⟨w.heap.size, 0, none⟩), .pointer (some ⟨w.heap.size + 1 + 1, 0, none⟩), .int .i64 0], .slice (some ⟨w.heap.size + 1 + 1 + 1, 0, none⟩) 1 1, .slice (some ⟨g, 0, none⟩) (k0 + 1) co, .int .i64 ((k0 : Int) + 1), .bool true, .slice (some ⟨g, 0, none⟩) (k0 + 1) co, .slice (some ⟨g, 0, none⟩) (k0 + 1) co, .int .i64 ((k0 : Int) + 1), .int .i64 (k0 : Int), .pointer (some ⟨g, k0 * 3, none⟩), .agg #[.pointer (some ⟨px, po, none⟩), .pointer (some ⟨b, tp * 3, none⟩), .int .i64 (lay xb)], .slice (some ⟨g, 0, none⟩) (k0 + 1) co, .slice (some ⟨g, 0, none⟩) (k0 + 1) co, .int .i64 ((k0 : Int) + 1), .int .i64 (k0 : Int), .slice (some ⟨g, 0, none⟩) k0 co, .tuple #[.agg #[.int .i64 RE.kind, .string RE.name, .slice RA rq rc], .int .i64 (lay RB)], .pointer (some ⟨cb, 0, none⟩), .pointer (some ⟨wr.heap.size, 0, none⟩), .pointer (some ⟨px, po, none⟩), .pointer (some ⟨px, po, none⟩), .agg #[.int .i64 PE.kind, .string PE.name, .slice PA pn pc], .pointer (some ⟨wr.heap.size, 2, none⟩), .int .i64 (lay xb), .tuple #[.agg #[.int .i64 RE.kind, .string RE.name, .slice RA rq rc], .int .i64 (lay RB)], .agg #[.int .i64 RE.kind, .string RE.name, .slice RA rq rc], .int .i64 (lay RB), u40, u41, u42, u43, u44, u45, u46, u47, u48, u49, u50, u51, u52, u53, u54, u55, u56, u57, u58, u59, u60, u61, u62, u63, u64, u65, u66, u67, u68, u69, u70, u71, u72, u73, u74, u75, u76, u77, u78, u79, u80, u81, u82, u83, u84, u85, u86, u87, u88, u89, u90, undef], defers := [] } ∧ Below wr.heap.size wr W ∧ W.heap[b8]? = some (.cells #[.int .i64 RE.kind, .string RE.name, .slice RA rq rc] 26 (0, 0)) ∧ (ExIs wo (.agg #[.int .i64 RE.kind, .string RE.name, .slice RA rq rc]) RE rbs ∧ ∀ z ∈ rbs, FreeB wo z) ∧ wr.heap.size ≤ b8 ∧ W.heap[wr.heap.size]? = some (.cells #[.pointer (some ⟨px, po, none⟩), .pointer (some ⟨b, tp * 3, none⟩), .int .i64 (lay xb)] 137 (0, 0))) ?_ ?_
      · go_region_held3 (fun X => X.cell? ⟨px, po, none⟩ = some (.int .i64 PE.kind) ∧ X.cell? ⟨px, po + 1, none⟩ = some (.string PE.name) ∧ X.cell? ⟨px, po + 2, none⟩ = some (.slice PA pn pc) ∧ X.cell? ⟨wr.heap.size, 0, none⟩ = some (.pointer (some ⟨px, po, none⟩)) ∧ X.cell? ⟨wr.heap.size, 2, none⟩ = some (.int .i64 (lay xb)))
          (first
          | exact HS.out _ ((Below.refl _ _).drew)
          | exact HS.out _ (((Below.refl _ _).alloc (Nat.le_refl _) _).drew)
          | exact HS.out _ HB2.out
          | exact HS.out _ (HB2.out.alloc HB2.out.size _)
          | exact HS.out _ (below_tri HB2.out (Nat.le_refl _) 0 _ _ _))
          (first
          | (go_at_call 94; refine (HCALL.out _ (HB1.out.trans ((Below.refl W1.heap.size W1).drew.mono HB1.out.size))).mono ?_; rintro r w2 ⟨RA, rq, rc, rbs, rfl, hri, hfi, hb2⟩; have HB2 := Lib.hid ((Below.refl W1.heap.size W1).drew.trans hb2); have HRI := Lib.hid (And.intro hri hfi); clear hb2 hri hfi)
          | (go_at_call 94; refine (HCALL.out _ (HB1.out.trans ((((Below.refl W1.heap.size W1).alloc (Nat.le_refl _) _).drew).mono HB1.out.size))).mono ?_; rintro r w2 ⟨RA, rq, rc, rbs, rfl, hri, hfi, hb2⟩; have HB2 := Lib.hid ((((Below.refl W1.heap.size W1).alloc (Nat.le_refl _) _).drew).trans (hb2.mono (by simp))); have HRI := Lib.hid (And.intro hri hfi); obtain ⟨r0, r1, r2, rf, rl, HZB⟩ := zero_box9 hb2; clear hb2 hri hfi))
        · exact ⟨_, _, _, _, _, rfl, (HB1.out.trans (HB2.out.mono HB1.out.size)).alloc (Nat.le_trans HB1.out.size HB2.out.size) _, heap_alloc_new _ _, HRI.out, Nat.le_trans HB1.out.size HB2.out.size, (Below.heap_alloc _ _ _ (Nat.lt_of_lt_of_le (Array.getElem?_eq_some_iff.1 HNX.out).1 HB2.out.size)).trans ((HB2.out.block _ (Array.getElem?_eq_some_iff.1 HNX.out).1).trans HNX.out)⟩
        · exact ⟨_, _, _, _, _, rfl, below_tri (HB1.out.trans (HB2.out.mono HB1.out.size)) HB1.out.size 0 _ _ _, tri_box9 HZB.out _ _ _, HRI.out, HB1.out.size, (tri_other _ _ _ _ _ _ _ (by have := (Array.getElem?_eq_some_iff.1 HNX.out).1; omega)).trans ((HB2.out.block _ (Array.getElem?_eq_some_iff.1 HNX.out).1).trans HNX.out)⟩
      rintro _ W2 ⟨b8, RA, rq, rc, rbs, rfl, hb2, hbx, ⟨hri, hfi⟩, hb8, hnx⟩
      have HLW := Lib.hid (show lay RB = lay xb ∨ (lay RB ≠ lay xb) by omega)
      obtain ⟨LB, hLB⟩ : ∃ z, z = lay RB := ⟨_, rfl⟩
      obtain ⟨LX, hLX⟩ : ∃ z, z = lay xb := ⟨_, rfl⟩
      obtain ⟨u', e1, hsz, hsl⟩ := hri
      simp only [Value.agg.injEq, Array.mk.injEq, List.cons.injEq, and_true, true_and] at e1
      subst e1
      obtain ⟨hrq, hkids⟩ := hsl.pts hfi
      obtain ⟨ks, hks, hka⟩ : ∃ ks : List (Pt wo), ks.map Pt.ex = RE.args ∧ ∀ (i : Nat) (k : Pt wo), ks[i]? = some k → ∃ g o, RA = some ⟨g, o, none⟩ ∧ k.adr = ⟨g, o + i * 3, none⟩ := by
        rcases hkids with h0 | ⟨g, o, rfl, -, -, ks, e1, e2⟩
        · exact ⟨[], by rw [h0]; rfl, fun i k h => by simp at h⟩
        · exact ⟨ks, e1, fun i k h => ⟨g, o, rfl, e2 i k h⟩⟩
      have hkl : ks.length = rq := by rw [hrq, ← hks, List.length_map]
      obtain ⟨us, hus⟩ : ∃ us : List (Un wo), us = ks.map (fun p => (p, RB)) := ⟨_, rfl⟩
      have hul : us.length = rq := by rw [hus, List.length_map, hkl]
      have hres : resU f x = .mk RE.kind RE.name (us.map (resU f)) := by
        rw [HRES.out, res_is f PE xb, ← HRE.out, ← HRB.out, ← hks, hus, List.map_map, List.map_map]
        rfl
      have hua : ∀ (i : Nat) (u : Un wo), us[i]? = some u → ∃ g o, RA = some ⟨g, o, none⟩ ∧ u.1.adr = ⟨g, o + i * 3, none⟩ ∧ u.2 = RB := fun i u hu => by
        rw [hus, List.getElem?_map] at hu
        cases hk : ks[i]? with
        | none => rw [hk] at hu; cases hu
        | some p =>
          rw [hk] at hu
          simp only [Option.map_some, Option.some.injEq] at hu
          obtain ⟨g, o, h1, h2⟩ := hka i p hk
          rw [← hu]
          exact ⟨g, o, h1, h2, rfl⟩
      obtain ⟨hopw, hopr⟩ : uweigh f (opens Ls) = uweigh f (opens ((⟨b, l, its⟩ : Lev wo) :: more)) + exSize (resU f x) ∧ (opens ((⟨b, l, its⟩ : Lev wo) :: more)).length = k0 := by
        refine ⟨by rw [HOP.out, uweigh_app]; show _ + (exSize (resU f x) + 0) = _; omega, ?_⟩
        have := HL.out.len
        rw [HOP.out, List.length_append, List.length_singleton] at this
        omega
      have hrqb : nodes + rq ≤ 1099511627776 ∧ k0 + rq ≤ 1099511627776 ∧ k0 ≤ uweigh f (opens ((⟨b, l, its⟩ : Lev wo) :: more)) := by
        have h1 := HL.out.sum
        have h2 := HL.out.le
        have h3 := uweigh_len f (opens ((⟨b, l, its⟩ : Lev wo) :: more))
        have h4 : exSize (resU f x) = exSizes (us.map (resU f)) + 1 := by rw [hres, exSize]
        have h5 := sizes_len (us.map (resU f))
        rw [List.length_map, hul] at h5
        have h6 := HSB.out
        rw [hopr] at h3
        rw [hopw] at h1 h2
        refine ⟨?_, ?_, h3⟩ <;> omega
      have HUA := Lib.hid hua
      have HUL := Lib.hid hul
      have HRS := Lib.hid hres
      have HSZ := Lib.hid hsz
      have HOW := Lib.hid hopw
      have HRQ := Lib.hid hrqb
      have hrq2 : (rq : Int) ≤ 1099511627776 := by omega
      have hnr2 : (nodes : Int) + (rq : Int) ≤ 1099511627776 := by omega
      have hcl := HCL.out
      have hcl2 : cb < wo.heap.size := Nat.lt_of_lt_of_le HCL.out HBO.out.size
      have HC2 := Lib.hid (show CBox W2 cb mb (nodes : Int) sh from (hb2.block _ (Array.getElem?_eq_some_iff.1 HL.out.box).1).trans HL.out.box)
      have HWW := Lib.hid (show ∀ W3, (W3 = W2 ∨ W3 = W2.setCell ⟨cb, 4, none⟩ (.map none)) → Fr [cb] wr W3 ∧ CBox W3 cb mb (nodes : Int) sh ∧ W3.heap[b8]? = some (.cells #[.int .i64 RE.kind, .string RE.name, .slice RA rq rc] 26 (0, 0)) ∧ W3.heap[wr.heap.size]? = some (.cells #[.pointer (some ⟨px, po, none⟩), .pointer (some ⟨b, tp * 3, none⟩), .int .i64 (lay xb)] 137 (0, 0)) from fun W3 hW => by
        have hs := HL.out.fr.size
        rcases hW with rfl | rfl
        · exact ⟨Fr.of_below hb2, HC2.out, hbx, hnx⟩
        · exact ⟨(Fr.of_below (S := [cb]) hb2).trans (T := [cb]) (Fr.set _ _ _ (by simp)) (fun x h => Or.inl h), HC2.out.set4, (Below.heap_setCell _ _ _ _ (by simp; omega)).trans hbx, (Below.heap_setCell _ _ _ _ (by simp; omega)).trans hnx⟩)
      obtain ⟨-, c1, -, -, c4, cf, cl2⟩ := HC2.out.cells
      have n1 : W2.cell? ⟨wr.heap.size, 1, none⟩ = some (.pointer (some ⟨b, tp * 3, none⟩)) := by simp [World.cell?, hnx]
      have n2 : W2.cell? ⟨wr.heap.size, 2, none⟩ = some (.int .i64 LX) := by simp [World.cell?, hnx, hLX]
      have x2 : W2.cell? ⟨b8, 2, none⟩ = some (.slice RA rq rc) := by simp [World.cell?, hbx]
      have hb8l : b8 < W2.heap.size := (Array.getElem?_eq_some_iff.1 hbx).1
      have hnl : wr.heap.size < W2.heap.size := (Array.getElem?_eq_some_iff.1 hnx).1
      have hcb8 : cb ≠ b8 := by have := HL.out.fr.size; omega
      have hcbn : cb ≠ wr.heap.size := by have := HL.out.fr.size; omega
      have HLXB := Lib.hid (And.intro hLB hLX)
      rw [← hLB]
      have HFG := Lib.hid (show ∀ g o, RA = some ⟨g, o, none⟩ → 0 < rq → FreeB wo g from fun g o hA h0 => by
        rcases hkids with h1 | ⟨g2, o2, e2, -, h2, -⟩
        · rw [hrq, h1] at h0; simp at h0
        · rw [e2] at hA; cases hA; exact h2)
      clear HLW hsl hfi hrq hkids hks hka hkl hus hul hres hua hopw hopr hrqb hsz hb2 hbx hnx hLB hLX
      obtain ⟨NZ, hNZ⟩ : ∃ z, z = (nodes : Int) := ⟨_, rfl⟩
      rw [← hNZ] at c1
      have hcase : LB = LX ∨ (LB ≠ LX ∧ NZ < 8388608) ∨ (LB ≠ LX ∧ 8388608 ≤ NZ) := by omega
      clear hNZ
      by_cases hr0 : rq = 0
      · subst hr0
        have HARG := Lib.hid (show ∀ W3, (W3 = W2 ∨ W3 = W2.setCell ⟨cb, 4, none⟩ (.map none)) → Calls Try.prog 97 #[.pointer (some ⟨cb, 0, none⟩), .slice RA 0 rc, .int .i64 LB] W3 (fun r w4 => r = .returned (.tuple #[.slice none 0 0, .bool false]) ∧ Hid (Fr [cb] wr w4 ∧ CBox w4 cb mb (nodes : Int) sh ∧ w4.heap[b8]? = some (.cells #[.int .i64 RE.kind, .string RE.name, .slice RA 0 rc] 26 (0, 0)) ∧ w4.heap[wr.heap.size]? = some (.cells #[.pointer (some ⟨px, po, none⟩), .pointer (some ⟨b, tp * 3, none⟩), .int .i64 (lay xb)] 137 (0, 0))) ∧ ∃ y0 y1 y2, w4.cell? ⟨b, tp * 3, none⟩ = some y0 ∧ w4.cell? ⟨b, tp * 3 + 1, none⟩ = some y1 ∧ w4.cell? ⟨b, tp * 3 + 2, none⟩ = some y2 ∧ (∀ o, w4.frozen? ⟨b, o, none⟩ = false) ∧ b < w4.heap.size ∧ w4.cell? ⟨b8, 0, none⟩ = some (.int .i64 RE.kind) ∧ w4.cell? ⟨b8, 1, none⟩ = some (.string RE.name) ∧ w4.cell? ⟨wr.heap.size, 1, none⟩ = some (.pointer (some ⟨b, tp * 3, none⟩)) ∧ b8 < w4.heap.size ∧ wr.heap.size < w4.heap.size) from fun W3 hW => by
          rw [HLXB.out.1]
          obtain ⟨f1, f2, f3, f4⟩ := HWW.out W3 hW
          refine (own_argsNone cb RA rc RB W3).mono ?_
          rintro r w4 ⟨rfl, h4⟩
          have g1 : Fr [cb] wr w4 := f1.trans (Fr.of_below (S := [cb]) h4) (fun x h => Or.inl h)
          have g3 := (h4.block _ (Array.getElem?_eq_some_iff.1 f3).1).trans f3
          have g4 := (h4.block _ (Array.getElem?_eq_some_iff.1 f4).1).trans f4
          obtain ⟨ht, hp, -⟩ := zip_ty HZIP.out
          rw [← HTP.out] at hp
          obtain ⟨y0, y1, y2, s0, s1, s2, sf, sl⟩ := mid_cells g1 HL.out.box ht hp
          exact ⟨rfl, Lib.hid ⟨g1, (h4.block _ (Array.getElem?_eq_some_iff.1 f2).1).trans f2, g3, g4⟩, y0, y1, y2, s0, s1, s2, sf, sl, by simp [World.cell?, g3], by simp [World.cell?, g3], by simp [World.cell?, g4], (Array.getElem?_eq_some_iff.1 g3).1, (Array.getElem?_eq_some_iff.1 g4).1⟩)
        rcases hcase with hc | ⟨hc, hn8⟩ | ⟨hc, hn8⟩
        all_goals
          first
          | (have hne : (LB != LX) = true := by simp [hc])
          | (have hne : (LB != LX) = false := by simp [hc])
          clear hc
          go_wp2_with (go_at_call 97; refine (HARG.out _ (by first | exact Or.inl rfl | exact Or.inr rfl)).mono ?_; rintro r w4 ⟨rfl, HM4, y0, y1, y2, s0, s1, s2, sf, sl, z0, z1, z2, zl, zm⟩)
          go_roundg (uweigh f (opens ((⟨b, l, its⟩ : Lev wo) :: more)))
          case measure =>
            have h1 := HG.out
            have h2 := HOW.out
            have h3 := exSize_pos (resU f x)
            omega
          case rel =>
            refine ⟨nodes, k0, _, _, _, rfl, hnb, by omega, Lib.hid rfl, Lib.hid ?_⟩
            rw [HTP.out]
            exact cy_leaf HL.out HZIP.out HBOT.out HOP.out HROW.out HM4.out.1 HM4.out.2.1 hcl2 (by rw [HRS.out, List.eq_nil_of_length_eq_zero HUL.out]; rfl) HSZ.out
      · obtain ⟨ux, hux⟩ : ∃ u, us[0]? = some u := ⟨_, List.getElem?_eq_getElem (by rw [HUL.out]; omega)⟩
        obtain ⟨ga, oa, rfl, hga, -⟩ := HUA.out 0 ux hux
        have hr1 : 0 < rq := by omega
        have HGA := Lib.hid (show FreeB wo ga ∧ ga ≠ cb from ⟨HFG.out ga oa rfl hr1, by
          have h1 := congrArg Addr.block hga
          have h2 := pt_ne ux.1 HCO.out
          intro h3
          exact h2 (h1.trans h3)⟩)
        clear hux hga
        have HARG := Lib.hid (show ∀ W3, (W3 = W2 ∨ W3 = W2.setCell ⟨cb, 4, none⟩ (.map none)) → Calls Try.prog 97 #[.pointer (some ⟨cb, 0, none⟩), .slice (some ⟨ga, oa, none⟩) rq rc, .int .i64 LB] W3 (fun r w4 => ∃ b2, r = .returned (.tuple #[.slice (some ⟨b2, 0, none⟩) rq rq, .bool true]) ∧ Hid (Fr [cb] wr w4 ∧ CBox w4 cb mb ((nodes : Int) + us.length) sh ∧ w4.heap[b8]? = some (.cells #[.int .i64 RE.kind, .string RE.name, .slice (some ⟨ga, oa, none⟩) rq rc] 26 (0, 0)) ∧ wr.heap.size ≤ b2 ∧ TyN w4 b2 (us.length * 3)) ∧ ∃ y0 y1 y2, w4.cell? ⟨b, tp * 3, none⟩ = some y0 ∧ w4.cell? ⟨b, tp * 3 + 1, none⟩ = some y1 ∧ w4.cell? ⟨b, tp * 3 + 2, none⟩ = some y2 ∧ (∀ o, w4.frozen? ⟨b, o, none⟩ = false) ∧ b < w4.heap.size ∧ w4.cell? ⟨b8, 0, none⟩ = some (.int .i64 RE.kind) ∧ w4.cell? ⟨b8, 1, none⟩ = some (.string RE.name) ∧ w4.cell? ⟨wr.heap.size, 1, none⟩ = some (.pointer (some ⟨b, tp * 3, none⟩)) ∧ b8 < w4.heap.size ∧ wr.heap.size < w4.heap.size) from fun W3 hW => by
          rw [HLXB.out.1]
          obtain ⟨f1, f2, f3, f4⟩ := HWW.out W3 hW
          have hsz3 := HL.out.fr.size
          refine (own_argsFor cb mb (nodes : Int) sh ga oa rq rc RB W3 f2 hr1 (by omega) (by omega) (by omega) (fun X hX => HSH.out ga oa rq X ((((Fr.of_below (S := [cb]) HBO.out).trans HL.out.fr (fun x h => Or.inl h)).trans f1 (fun x h => Or.inl h)).trans hX (fun x h => Or.inl h)) (HGA.out.1.on (((HL.out.fr.trans f1 (fun x h => Or.inl h)).trans hX (fun x h => Or.inl h)).block ga HGA.out.1.lt (by simpa using HGA.out.2))))).mono ?_
          rintro r w4 ⟨b2, rfl, h4, h5, h6, h7⟩
          have g1 : Fr [cb] wr w4 := f1.trans h7 (fun x h => Or.inl h)
          have g3 := (h7.block b8 (Array.getElem?_eq_some_iff.1 f3).1 (by simp; omega)).trans f3
          have g4 := (h7.block wr.heap.size (Array.getElem?_eq_some_iff.1 f4).1 (by simp; omega)).trans f4
          obtain ⟨ht, hp, -⟩ := zip_ty HZIP.out
          rw [← HTP.out] at hp
          obtain ⟨y0, y1, y2, s0, s1, s2, sf, sl⟩ := mid_cells g1 HL.out.box ht hp
          exact ⟨b2, rfl, Lib.hid ⟨g1, by rw [HUL.out]; exact h6, g3, Nat.le_trans f1.size h4, by rw [HUL.out]; exact h5⟩, y0, y1, y2, s0, s1, s2, sf, sl, by simp [World.cell?, g3], by simp [World.cell?, g3], by simp [World.cell?, g4], (Array.getElem?_eq_some_iff.1 g3).1, (Array.getElem?_eq_some_iff.1 g4).1⟩)
        rcases hcase with hc | ⟨hc, hn8⟩ | ⟨hc, hn8⟩
        all_goals
          first
          | (have hne : (LB != LX) = true := by simp [hc])
          | (have hne : (LB != LX) = false := by simp [hc])
          clear hc
          go_wp2_with (go_at_call 97; refine (HARG.out _ (by first | exact Or.inl rfl | exact Or.inr rfl)).mono ?_; rintro r w4 ⟨b2, rfl, HM4, y0, y1, y2, s0, s1, s2, sf, sl, z0, z1, z2, zl, zm⟩)
          have HLJ0 := Lib.hid (show Lj wo f cb mb sh ((nodes : Int) + us.length) k0 0 (some ⟨g, 0, none⟩) co (⟨b, l, its⟩ :: more) ⟨b2, us.map (resU f), us⟩ b8 #[.int .i64 RE.kind, .string RE.name, .slice (some ⟨ga, oa, none⟩) rq rc] (tri w4 b (tp * 3) (.int .i64 RE.kind) (.string RE.name) (.slice (some ⟨b2, 0, none⟩) rq rq)) from by
            have h := cy_push HL.out HZIP.out HROW.out HM4.out.1 HM4.out.2.1 hcl2 HRS.out HSZ.out HM4.out.2.2.2.1 HM4.out.2.2.2.2 (by rw [HUL.out]; omega) HM4.out.2.2.1 hb8
            rw [HUL.out, ← HTP.out] at h
            rw [HUL.out]
            exact h)
          clear n1 n2 x2 c1 c4 cf hne hb8l hnl s0 s1 s2 sf sl z0 z1 z2 zl zm t0 t1 t2
          go_loopw [6, 75] (fun a i wr2 => ∃ (j : Nat) (AO2 : Option Addr) (co2 : Nat), j ≤ rq ∧ i = .int .i64 (j : Int) ∧ a = .slice AO2 (k0 + j) co2 ∧ Hid (Lj wo f cb mb sh ((nodes : Int) + us.length) k0 j AO2 co2 (⟨b, l, its⟩ :: more) ⟨b2, us.map (resU f), us⟩ b8 #[.int .i64 RE.kind, .string RE.name, .slice (some ⟨ga, oa, none⟩) rq rc] wr2)) (fun _ i _ => rq - (intOf i).toNat)
          case atStart => exact ⟨0, _, _, Nat.zero_le _, rfl, rfl, HLJ0⟩
          case round =>
            clear HLJ0
            obtain ⟨j, AO2, co2, hj, rfl, rfl, HLJ⟩ := hrel
            have hbx := HLJ.out.bx
            have b2' : wr.cell? ⟨b8, 2, none⟩ = some (.slice (some ⟨ga, oa, none⟩) rq rc) := by simp [World.cell?, hbx]
            have hbl : b8 < wr.heap.size := (Array.getElem?_eq_some_iff.1 hbx).1
            clear hbx
            by_cases hlt : j < rq
            · obtain ⟨uj, huj⟩ : ∃ u, us[j]? = some u := ⟨_, List.getElem?_eq_getElem (by rw [HUL.out]; exact hlt)⟩
              obtain ⟨ga', oa', e9, hadr, hlay⟩ := HUA.out j uj huj
              cases e9
              have hj0 : (0 : Int) ≤ (j : Int) := by omega
              have hj1 : (j : Int) < (rq : Int) := by omega
              have HUJ := Lib.hid huj
              have HUC := Lib.hid (show ucells (b2, j, uj) = [.pointer (some ⟨ga, oa + j * 3, none⟩), .pointer (some ⟨b2, j * 3, none⟩), .int .i64 LB] by unfold ucells; rw [hadr, hlay, ← HLXB.out.1])
              clear huj hadr hlay
              have CM := Lib.hid (show k0 + j + 1 ≤ maxLen by have := HRQ.out; unfold maxLen; omega)
              have CB := Lib.hid (show (k0 + j + 1) * 24 ≤ 140737488355328 by have := HRQ.out; omega)
              have HSJ := Lib.hid (show ∀ X, Below wr.heap.size wr X → X.cell? ⟨b8, 2, none⟩ = some (.slice (some ⟨ga, oa, none⟩) rq rc) from fun X hX => (hX.cell (p := ⟨b8, 2, none⟩) hbl).trans b2')
              have HRJ := Lib.hid (show (wr.drew.alloc (.cells #[.pointer (some ⟨ga, oa + j * 3, none⟩), .pointer (some ⟨b2, j * 3, none⟩), .int .i64 LB] 137)).ownsRow wo.heap.size 137 3 (.slice AO2 (k0 + j) co2) (k0 + j) _ from World.ownsRow.alloc (w := wr.drew) HLJ.out.row _)
              have CS := Lib.hid (show wo.heap.size ≤ (wr.drew.alloc (.cells #[.pointer (some ⟨ga, oa + j * 3, none⟩), .pointer (some ⟨b2, j * 3, none⟩), .int .i64 LB] 137)).heap.size by have := HLJ.out.fr.size; simp; omega)
              go_wp2_with fail
              go_region_held3 (fun X => X.cell? ⟨b8, 2, none⟩ = some (.slice (some ⟨ga, oa, none⟩) rq rc))
                (first
                | exact HSJ.out _ ((Below.refl _ _).drew)
                | exact HSJ.out _ ((Below.refl _ _).drew.alloc (Nat.le_refl _) _)
                | exact HX5.out)
                (first
                | (refine step_append_lies _ (by rfl) _ _ _ (by rfl) wo.heap.size 137 i0 _ 3 24 Try.underlying138 HI.out.1 HI.out.2.1 HI.out.2.2.1 HI.out.2.2.2 rfl (by decide) (.slice AO2 (k0 + j) co2) (k0 + j) _ (by rfl) HRJ.out ⟨wr.heap.size, 0, none⟩ 1 1 [.pointer (some ⟨ga, oa + j * 3, none⟩), .pointer (some ⟨b2, j * 3, none⟩), .int .i64 LB] (by rfl) (by rfl) (World.news_of_block (heap_alloc_new wr.drew _)) (un_leaf _ _ _) (by decide) CM.out CB.out CS.out (wr.heap.size + 1) (by simp) ?_; intro g9 cap9 w5 ho9 hg9 hat9 hlt9; have HLN := Lib.hid (show Lj wo f cb mb sh ((nodes : Int) + us.length) k0 (j + 1) (some ⟨g9, 0, none⟩) cap9 (⟨b, l, its⟩ :: more) ⟨b2, us.map (resU f), us⟩ b8 #[.int .i64 RE.kind, .string RE.name, .slice (some ⟨ga, oa, none⟩) rq rc] w5 from HLJ.out.step HUJ.out hcl2 ((Below.refl _ _).drew.alloc (Nat.le_refl _) _) (by rw [HUC.out]; exact ho9) hg9); have HX5 := Lib.hid (show w5.cell? ⟨b8, 2, none⟩ = some (.slice (some ⟨ga, oa, none⟩) rq rc) by simp [World.cell?, HLN.out.bx]); clear ho9 hg9 hat9 hlt9))
              go_wp2_with fail
              go_roundw
              case rel => exact ⟨j + 1, _, _, by omega, by go_num, by rw [← Nat.add_assoc], HLN⟩
              case measure => simp [intOf]; omega
            · obtain rfl : j = rq := by omega
              have HCN := Lib.hid (cy_next HL.out HBOT.out HOP.out HRS.out (by rw [HUL.out]; have h := HLJ.out; rw [HUL.out] at h; exact h))
              go_wp2_with fail
              go_roundg (uweigh f (opens ((⟨b2, us.map (resU f), us⟩ : Lev wo) :: ⟨b, l, its⟩ :: more)))
              case measure =>
                have h1 := HG.out
                have h2 := HCN.out.2
                omega
              case rel =>
                refine ⟨nodes + j, k0 + j, _, _, _, rfl, by have := HRQ.out; omega, by have := HRQ.out; omega, Lib.hid rfl, Lib.hid ?_⟩
                have h := HCN.out.1
                rw [HUL.out] at h
                exact h
end Go.Proofs.Ytbnghkgfbjipdaa

namespace Go.Proofs.Ytbnghkgfbjipdaa
open Go Go.RowKit Go.Shelf
attribute [local go_sem] Oper.semAt_some

/-- What a range over a slice of bindings hands out: the index, the binding, its value's arguments, its blocks. -/
abbrev Bw (wo : World) : Type := { x : Nat × Bi × Value × List Nat // BiIs wo (.agg #[.string x.2.1.name, .int .i64 x.2.1.val.kind, .string x.2.1.val.name, x.2.2.1]) x.2.1 x.2.2.2 }
def Bw.num {wo : World} (x : Bw wo) : Nat := x.1.1
def Bw.bi {wo : World} (x : Bw wo) : Bi := x.1.2.1
def Bw.val {wo : World} (x : Bw wo) : Value := .agg #[.string x.1.2.1.name, .int .i64 x.1.2.1.val.kind, .string x.1.2.1.val.name, x.1.2.2.1]
/-- The bindings with their numbers, from k on. -/
def bnumd : Nat → List Bi → List (Nat × Bi)
  | _, [] => []
  | k, r :: l => (k, r) :: bnumd (k + 1) l
theorem bnumd_get : ∀ (l : List Bi) (k j : Nat) (r : Bi), l[j]? = some r → (bnumd k l)[j]? = some (k + j, r) := by
  intro l
  induction l with
  | nil => intro k j r h; simp at h
  | cons x t ih =>
    intro k j r h
    cases j with
    | zero => simp at h; rw [h]; rfl
    | succ j => rw [bnumd, List.getElem?_cons_succ, ih (k + 1) j r (by simpa using h)]; congr 2; omega
theorem bnumd_len : ∀ (l : List Bi) (k : Nat), (bnumd k l).length = l.length := by
  intro l
  induction l with
  | nil => intro k; rfl
  | cons x t ih => intro k; rw [bnumd, List.length_cons, List.length_cons, ih]
def Bw.pair {wo : World} (x : Bw wo) : Nat × Bi := (x.num, x.bi)
theorem bmap_push {wo : World} (L : List Bi) (k : Nat) (pre : List (Bw wo)) (x : Bw wo) (h : pre.map Bw.pair = ((bnumd 0 L).drop (k + 1)).reverse) (hx : L[k]? = some x.bi) (hk : x.num = k) : (pre ++ [x]).map Bw.pair = ((bnumd 0 L).drop k).reverse := by
  have hg := bnumd_get L 0 k x.bi hx
  have hl : k < (bnumd 0 L).length := (List.getElem?_eq_some_iff.1 hg).1
  rw [List.drop_eq_getElem_cons hl, List.reverse_cons, List.map_append, h, (List.getElem?_eq_some_iff.1 hg).2, List.map_cons, List.map_nil, Bw.pair, hk, Nat.zero_add]

theorem bisAt_snoc {w : World} {g o : Nat} (e : Bi) : ∀ (l : List Bi) (j : Nat) (bs : List Nat), BisAt w g o j (l ++ [e]) bs → ∃ b1 b2, bs = b1 ++ b2 ∧ BisAt w g o j l b1 ∧ BiAt w g (o + (j + l.length) * 4) e b2 := by
  intro l
  induction l with
  | nil =>
    intro j bs h
    obtain ⟨b1, b2, rfl, h1, h2⟩ := h
    obtain rfl : b2 = [] := h2
    exact ⟨[], b1, by simp, rfl, h1⟩
  | cons x r ih =>
    intro j bs h
    obtain ⟨b1, b2, rfl, h1, h2⟩ := h
    obtain ⟨b3, b4, rfl, h3, h4⟩ := ih (j + 1) b2 h2
    refine ⟨b1 ++ b3, b4, by simp, ⟨b1, b3, rfl, h1, h3⟩, ?_⟩
    rw [show j + (x :: r).length = j + 1 + r.length by simp; omega]
    exact h4
def Bw.bs {wo : World} (x : Bw wo) : List Nat := x.1.2.2.2
/-- The blocks of what was handed out, and of what is still to come. -/
def KidJ (wo : World) (A : Option Addr) (L : List Bi) (bs : List Nat) (k : Nat) (pre : List (Bw wo)) : Prop :=
  (L = [] ∧ bs = [] ∧ pre = []) ∨ ∃ g o fr, A = some ⟨g, o, none⟩ ∧ g < wo.heap.size ∧ BisAt wo g o 0 (L.take k) fr ∧ bs = g :: (fr ++ pre.reverse.flatMap Bw.bs)
/-- The blocks of all of xs, last first, behind the block in which they stand. -/
def KidW {wo : World} (bs : List Nat) (xs : List (Bw wo)) : Prop := (xs = [] ∧ bs = []) ∨ ∃ g, bs = g :: xs.reverse.flatMap Bw.bs
theorem kidj_start {wo : World} {A : Option Addr} {m c : Nat} {L : List Bi} {bs : List Nat} (h : BlIs wo (.slice A m c) L bs) (hm : m = L.length) : KidJ wo A L bs m [] := by
  obtain ⟨A', c', e, h1, h2, h3⟩ := h
  cases e
  rcases h3 with ⟨rfl, rfl⟩ | ⟨g, o, bs', rfl, hg, rfl, h4⟩
  · exact Or.inl ⟨rfl, rfl, rfl⟩
  · exact Or.inr ⟨g, o, bs', rfl, hg, by rw [List.take_length]; exact h4, by simp⟩
theorem kidj_get {wo : World} {A : Option Addr} {L : List Bi} {bs : List Nat} {k : Nat} {pre : List (Bw wo)} (h : KidJ wo A L bs (k + 1) pre) (hk : k < L.length) :
    ∃ g o r u b, BindAt wo A L k g o r u b ∧ ∀ x : Bw wo, x.bs = b → KidJ wo A L bs k (pre ++ [x]) := by
  rcases h with ⟨rfl, -, -⟩ | ⟨g, o, fr, rfl, hg, h4, rfl⟩
  · simp at hk
  · rw [List.take_succ_eq_append_getElem hk] at h4
    obtain ⟨b1, b2, rfl, h5, h6⟩ := bisAt_snoc _ _ _ _ h4
    rw [List.length_take, Nat.min_eq_left (by omega), Nat.zero_add] at h6
    obtain ⟨u, h7, h8⟩ := h6
    exact ⟨g, o, _, u, b2, ⟨rfl, hg, List.getElem?_eq_getElem hk, List.getElem_mem hk, h7, h8⟩, fun x hx => Or.inr ⟨g, o, b1, rfl, hg, h5, by simp [hx]⟩⟩
theorem kidj_done {wo : World} {A : Option Addr} {L : List Bi} {bs : List Nat} {pre : List (Bw wo)} (h : KidJ wo A L bs 0 pre) : KidW bs pre := by
  rcases h with ⟨-, rfl, rfl⟩ | ⟨g, o, fr, -, -, h4, rfl⟩
  · exact Or.inl ⟨rfl, rfl⟩
  · obtain rfl : fr = [] := h4
    exact Or.inr ⟨g, by simp⟩

set_option maxRecDepth 100000 in
set_option maxHeartbeats 2000000 in
theorem bback_in (F : Fence) (n : Nat) (hF : F.fn 115) (hro : F.round = none) (hn : 1 ≤ n) (l Bs : Nat) (wo : World) (A : Option Addr) (m c : Nat) (L : List Bi) (bs : List Nat) (hsl : BlIs wo (.slice A m c) L bs)
    (J Jx : List (Bw wo) → List Nat → World → Prop)
    (hY : ∀ pre x M W1, J pre M W1 → (∀ k ∈ M, k < W1.heap.size) → pre.length < L.length → YieldAt F (n - 1) Try.prog l #[.int .i64 (x.1.1 : Int), x.val] W1 fun e W2 =>
      (e = .returned (.bool true) ∧ J (pre ++ [x]) M W2 ∧ Kept wo.heap.size M W1 W2) ∨ (e = .returned (.bool false) ∧ Jx (pre ++ [x]) M W2 ∧ Kept wo.heap.size M W1 W2))
    (W : World) (hBs : W.cell? ⟨Bs, 0, none⟩ = some (.slice A m c)) (hW : Below wo.heap.size wo W) (h0 : J [] [Bs] W) :
    CallsIn F n Try.prog 115 #[.func (.yield l) #[] #[], .pointer (some ⟨Bs, 0, none⟩)] W fun e W2 => (∃ v, e = .returned v) ∧
      ((∃ (xs : List (Bw wo)) (M : List Nat), (xs.map Bw.pair = (bnumd 0 L).reverse ∧ KidW bs xs) ∧ J xs M W2) ∨ (∃ (pre : List (Bw wo)) (M : List Nat), True ∧ Jx pre M W2)) := by
  obtain ⟨hm, hmc, hc⟩ := hsl.len
  have hm3 : (m : Int) ≤ 9223372036854775807 := by omega
  have HS := Lib.hid hsl
  have HM := Lib.hid hm
  have HY := Lib.hid hY
  have HW := Lib.hid hW
  clear hsl hm hY hW
  refine callsIn_of_wp Try.func115 rfl hF ?_ hro
  simp only [Try.ntmps115, List.size_toArray, List.length_cons, List.length_nil, Nat.reduceAdd, Nat.reduceSub, Array.replicate_succ, Array.replicate_zero, List.push_toArray, List.append_toArray, List.nil_append, List.cons_append]
  gi_wp2
  gi_loopw [3] (fun i wr => ∃ (z : Int), i = .int .i64 z ∧ -1 ≤ z ∧ z < m ∧ Hid (∃ (k : Nat) (pre : List (Bw wo)), z = (k : Int) - 1 ∧ J pre [Bs] wr ∧ pre.map Bw.pair = ((bnumd 0 L).drop k).reverse ∧ KidJ wo A L bs k pre) ∧ wr.cell? ⟨Bs, 0, none⟩ = some (.slice A m c) ∧ Hid (Below wo.heap.size wo wr))
    (fun i _ => (intOf i + 1).toNat)
  case atStart =>
    exact ⟨(m : Int) - 1, rfl, by omega, by omega, Lib.hid ⟨m, [], rfl, h0, by rw [HM.out, ← bnumd_len L 0]; simp, kidj_start HS.out HM.out⟩, hBs, HW⟩
  case round =>
    obtain ⟨z, rfl, hz0, hz1, HJ, hbx, HB⟩ := hrel
    by_cases hlt : 0 ≤ z
    · obtain ⟨k1, pre, hk, hJs, hpre, hkid⟩ := HJ.out
      obtain ⟨k, rfl⟩ : ∃ k, k1 = k + 1 := ⟨k1 - 1, by omega⟩
      obtain rfl : z = (k : Int) := by omega
      have hkL : k < L.length := by rw [← HM.out]; omega
      obtain ⟨g, o, e1, u, b1', hra, hkn⟩ := kidj_get hkid hkL
      obtain ⟨rfl, hbl', hget, hmem, hcs, his⟩ := hra
      have hcw := hcs.of (w' := wr) (fun mm _ _ => HB.out.cell (p := ⟨g, mm, none⟩) hbl')
      obtain ⟨c0, c1, c2, c3⟩ := hcw
      clear hcs
      have hlen : pre.length < L.length := by
        have h : (pre.map Bw.pair).length = ((bnumd 0 L).drop (k + 1)).reverse.length := by rw [hpre]
        simp [bnumd_len] at h
        omega
      obtain ⟨fn, tmps, assign, body, hy, hR⟩ := HY.out pre ⟨(k, e1, u, b1'), his⟩ [Bs] wr hJs (by
        intro k hk
        rw [List.mem_singleton] at hk
        subst hk
        obtain ⟨o, ho, -⟩ := cells_of_cell hbx
        exact (Array.getElem?_eq_some_iff.1 ho).1) hlen
      dsimp only [Bw.val] at hy
      have HPX := Lib.hid (bmap_push L k pre ⟨(k, e1, u, b1'), his⟩ hpre hget rfl)
      have HKN := Lib.hid (hkn ⟨(k, e1, u, b1'), his⟩ rfl)
      have HR := Lib.hid hR
      clear hR hJs hpre hget hmem hk HJ hkL hkid hkn
      gi_wp2
      refine HR.out.mono ?_
      rintro e W3 (⟨rfl, hJ3, hk3, hkm3⟩ | ⟨rfl, hJx3, -⟩)
      · have HJ3 := Lib.hid hJ3
        have HB3 := Lib.hid (HB.out.trans hk3)
        have hbx3 : W3.cell? ⟨Bs, 0, none⟩ = some (.slice (some ⟨g, o, none⟩) m c) := (World.cell?_of_block (w := wr) (hkm3 Bs (by simp))).trans hbx
        clear hJ3 hk3 hkm3
        gi_wp2
        go_roundw
        case rel => exact ⟨(k : Int) - 1, by first | rfl | go_num, by omega, by omega, Lib.hid ⟨k, _, rfl, HJ3.out, HPX.out, HKN.out⟩, hbx3, HB3⟩
        case measure => first | (simp [intOf]; done) | (simp [intOf]; omega)
      · have HJ3 := Lib.hid hJx3
        clear hJx3
        gi_wp2
        refine bodyPost_ret (results_none rfl _ _ _) rfl ?_
        exact ⟨⟨_, rfl⟩, .inr ⟨_, _, trivial, HJ3.out⟩⟩
    · obtain rfl : z = -1 := by omega
      gi_wp2
      go_end0
      obtain ⟨k1, pre, hk, hJs, hpre, hkid⟩ := HJ.out
      obtain rfl : k1 = 0 := by omega
      exact ⟨⟨_, rfl⟩, .inl ⟨pre, ⟨by simpa using hpre, kidj_done hkid⟩, _, hJs⟩⟩

set_option maxHeartbeats 1000000 in
theorem bbackward_in (F : Fence) (n : Nat) (hF : F.fn 93) (hro : F.round = none) (A : Option Addr) (m c : Nat) (w : World) :
    CallsIn F n Try.prog 93 #[.slice A m c] w fun e w2 => e = .returned (.func (.func 115) #[] #[.pointer (some ⟨w.heap.size, 0, none⟩)]) ∧ w2 = w.alloc (.cells #[.slice A m c] 29) := by
  refine callsIn_of_wp Try.func93 rfl hF ?_ hro
  simp only [Try.ntmps93, List.size_toArray, List.length_cons, List.length_nil, Nat.reduceAdd, Nat.reduceSub, Array.replicate_succ, Array.replicate_zero, List.push_toArray, List.append_toArray, List.nil_append, List.cons_append]
  gi_wp2
  go_ret
  exact ⟨rfl, rfl⟩
end Go.Proofs.Ytbnghkgfbjipdaa

namespace Go.Proofs.Ytbnghkgfbjipdaa
open Go Go.RowKit Go.ChangeMaps Go.WideMaps Go.WideElems

/-- Block b of w is a map with the entries L, each key once, each entry with a stamp of its own. -/
def MapSt (w : World) (b : Nat) (L : List (Value × Value)) : Prop :=
  ∃ es clock, w.heap[b]? = some (.map es clock) ∧ es.toList.map (fun e => (e.key, e.val)) = L ∧ MapKept.Stamped es clock
theorem MapSt.is {w : World} {b : Nat} {L : List (Value × Value)} (h : MapSt w b L) : MapIs w b L := by
  obtain ⟨es, clock, hb, hl, hs⟩ := h
  exact ⟨es, clock, hb, hl, by rw [← hl, List.map_map]; exact hs.2.2⟩
theorem MapSt.nodup {w : World} {b : Nat} {L : List (Value × Value)} (h : MapSt w b L) : (L.map Prod.fst).Nodup := by
  obtain ⟨_, _, _, _, h⟩ := h.is
  exact h
theorem MapSt.on {w w2 : World} {b : Nat} {L : List (Value × Value)} (h : MapSt w b L) (hk : w2.heap[b]? = w.heap[b]?) : MapSt w2 b L := by
  obtain ⟨es, clock, hb, r⟩ := h
  exact ⟨es, clock, hk.trans hb, r⟩
theorem MapSt.made (w : World) : MapSt (w.alloc (.map #[] 0)) w.heap.size [] := ⟨#[], 0, (MapKept.heap_alloc w _).1, rfl, by simp [MapKept.Stamped]⟩

section
variable {P : Program} {w : World} {k e t : TypeId} {K : Value → Prop} {b : Nat} {L : List (Value × Value)}
theorem MapSt.update (h : MapSt w b L) (hK : KeyT P k w K) (ht : P.underlying t = some (.map k e)) {key val : Value} (hkey : K key) (hL : ∀ x ∈ L, K x.1) :
    ∃ w' L2, (Instr.mapUpdate t (.map (some b)) key val).run P w = .ok () w' ∧ MapSt w' b L2 ∧ Put L key val L2 ∧ w.grownBy w' (some b) := by
  obtain ⟨es, clock, hb, rfl, hst⟩ := h
  obtain ⟨s1, s2, hn⟩ := hst
  have hes : ∀ e ∈ es.toList, K e.key := fun e he => hL _ (List.mem_map_of_mem he)
  have grown : ∀ o : Obj, w.grownBy (setBlock w b o) (some b) := fun o => ⟨rfl, rfl, rfl, by simp [setBlock], fun i _ hi => heap_setBlock_other hb _ (fun e => hi (by rw [e]))⟩
  rcases hK.find key es.toList hkey hes with ⟨h1, h2⟩ | ⟨j, e0, h1, h2, h3⟩
  · have hne : ∀ x ∈ es.toList.map (fun e => (e.key, e.val)), x.1 ≠ key := fun x hx => by
      obtain ⟨e1, he1, rfl⟩ := List.mem_map.1 hx
      exact h2 e1 he1
    refine ⟨setBlock w b (.map (es.push ⟨key, val, clock⟩) (clock + 1)), es.toList.map (fun e => (e.key, e.val)) ++ [(key, val)], ?_, ⟨_, _, heap_setBlock_same hb _, by simp, ?_, ?_, ?_⟩, Or.inl ⟨hne, rfl⟩, grown _⟩
    · simp [Instr.mapUpdate, run_underlying ht, MapKept.run_getObj_map hb, hK.check false key hkey, h1, MapKept.run_setObj_map _ hb, Result.andThen, setBlock]
    · intro x hx
      rw [Array.toList_push] at hx
      rcases List.mem_append.1 hx with hx | hx
      · have := s1 x hx; omega
      · rw [List.mem_singleton] at hx; subst hx; exact Nat.lt_succ_self _
    · rw [Array.toList_push, List.map_append, List.nodup_append]
      refine ⟨s2, by simp, fun a ha c hc e => ?_⟩
      simp only [List.map_cons, List.map_nil, List.mem_singleton] at hc
      obtain ⟨x, hx, rfl⟩ := List.mem_map.1 ha
      have := s1 x hx
      omega
    · rw [Array.toList_push, List.map_append, List.nodup_append]
      refine ⟨hn, by simp, fun a ha c hc e => ?_⟩
      simp only [List.map_cons, List.map_nil, List.mem_singleton] at hc
      obtain ⟨x, hx, rfl⟩ := List.mem_map.1 ha
      exact h2 x hx (e.trans hc)
  · have hj : es[j]? = some e0 := by simpa using h2
    have hlist : (es.modify j (fun e' => { e' with key := key, val := val })).toList = es.toList.set j { e0 with key := key, val := val } := by rw [Array.toList_modify, modify_eq_set _ _ _ _ h2]
    obtain ⟨A, B, hAB, hA⟩ : ∃ A B, es.toList = A ++ e0 :: B ∧ A.length = j := by
      have hl := (List.getElem?_eq_some_iff.1 h2).1
      refine ⟨es.toList.take j, es.toList.drop (j + 1), ?_, by rw [List.length_take]; omega⟩
      rw [← (List.getElem?_eq_some_iff.1 h2).2, ← List.drop_eq_getElem_cons hl, List.take_append_drop]
    have hset : es.toList.set j { e0 with key := key, val := val } = A ++ { e0 with key := key, val := val } :: B := by
      rw [hAB, List.set_append_right _ _ (by omega), hA, Nat.sub_self, List.set_cons_zero]
    refine ⟨setBlock w b (.map (es.modify j (fun e' => { e' with key := key, val := val })) clock), A.map (fun e => (e.key, e.val)) ++ (key, val) :: B.map (fun e => (e.key, e.val)), ?_, ⟨_, _, heap_setBlock_same hb _, by rw [hlist, hset]; simp, ?_, ?_, ?_⟩, Or.inr ⟨A.map (fun e => (e.key, e.val)), e0.val, B.map (fun e => (e.key, e.val)), by rw [hAB]; simp [h3], rfl⟩, grown _⟩
    · simp [Instr.mapUpdate, run_underlying ht, MapKept.run_getObj_map hb, hK.check false key hkey, h1, hj, h3, hK.stays key hkey, MapKept.run_setObj_map _ hb, Result.andThen, setBlock]
    · intro x hx
      rw [hlist, hset] at hx
      rcases List.mem_append.1 hx with hx | hx
      · exact s1 x (by rw [hAB]; simp [hx])
      · rcases List.mem_cons.1 hx with rfl | hx
        · exact s1 e0 (by rw [hAB]; simp)
        · exact s1 x (by rw [hAB]; simp [hx])
    · rw [hlist, hset]
      rw [hAB] at s2
      simpa using s2
    · rw [hlist, hset]
      rw [hAB] at hn
      simpa [h3] using hn
/-- The entry of a key that is there, and the store at it, in an assignment of several. -/
theorem MapSt.entry (h : MapSt w b L) (hK : KeyT P k w K) (ht : P.underlying t = some (.map k e)) {key v0 : Value} (hkey : K key) (hL : ∀ x ∈ L, K x.1) (hv : (key, v0) ∈ L) :
    ∃ st : Nat, (Instr.mapEntry t (.map (some b)) key).run P w = .ok (.tuple #[v0, .int .i64 (st : Int)]) w ∧
      ∀ val, ∃ w' L2, (Instr.entryStore t (.map (some b)) (.int .i64 (st : Int)) val).run P w = .ok () w' ∧ MapSt w' b L2 ∧ Put L key val L2 ∧ w.grownBy w' (some b) := by
  obtain ⟨es, clock, hb, rfl, hst⟩ := id h
  obtain ⟨s1, s2, hn⟩ := hst
  have hes : ∀ e ∈ es.toList, K e.key := fun e he => hL _ (List.mem_map_of_mem he)
  obtain ⟨x0, hx0, hx1⟩ := List.mem_map.1 hv
  rcases hK.find key es.toList hkey hes with ⟨h1, h2⟩ | ⟨j, e0, h1, h2, h3⟩
  · exact absurd (Prod.mk.inj hx1).1 (h2 x0 hx0)
  · have hj : es[j]? = some e0 := by simpa using h2
    have hv0 : v0 = e0.val := (Prod.mk.inj (nodup_one _ h.nodup _ hv _ (List.mem_map_of_mem (List.mem_of_getElem? h2)) h3.symm)).2
    have hsame : es.modify j (fun e => { e with key := key }) = es := by
      apply Array.ext'
      rw [Array.toList_modify, modify_eq_set _ _ _ _ h2]
      have : ({ e0 with key := key } : MapEntry) = e0 := by rw [← h3]
      rw [this]
      exact set_self _ _ _ h2
    have hblk : setBlock w b (.map es clock) = w := by
      unfold setBlock
      have hbl := (Array.getElem?_eq_some_iff.1 hb).1
      have : w.heap.setIfInBounds b (.map es clock) = w.heap := by
        apply Array.ext'
        rw [Array.toList_setIfInBounds]
        exact set_self _ _ _ (by simpa using hb)
      cases w
      simp only at this ⊢
      rw [this]
    have hidx : es.findIdx? (fun e => ((e.born : Nat) : Int) == ((e0.born : Nat) : Int)) = some j := by
      rw [findIdx_arr]
      exact findIdx_born s2 h2
    refine ⟨e0.born, ?_, fun val => ?_⟩
    · rw [hv0]
      have := hblk
      unfold setBlock at this
      simp [Instr.mapEntry, run_underlying ht, MapKept.run_getObj_map hb, hK.check false key hkey, h1, hj, h3, hK.stays key hkey, hsame, MapKept.run_setObj_map _ hb, Result.andThen, this, goInt]
    · obtain ⟨w', L2, hrun, r1, r2, r3⟩ := h.update (val := val) hK ht hkey hL
      refine ⟨w', L2, ?_, r1, r2, r3⟩
      rw [← hrun]
      have hmod : es.modify j (fun e => { e with val := val }) = es.modify j (fun e' => { e' with key := key, val := val }) := by
        apply Array.ext'
        rw [Array.toList_modify, Array.toList_modify, modify_eq_set _ _ _ _ h2, modify_eq_set _ _ _ _ h2, ← h3]
      simp [Instr.entryStore, Instr.mapUpdate, run_underlying ht, MapKept.run_getObj_map hb, asInt, asIntOf, hK.check false key hkey, h1, hj, h3, hK.stays key hkey, hidx, hmod, MapKept.run_setObj_map _ hb, Result.andThen]
theorem st_put {o : Oper} (hg : o.guard = none) {ops : Array Oper} {rest : List Oper} {a : Act} {Q : Exit → Act → World → Prop} (m x v : Operand) (t : TypeId) (hop : o.op = Op.mapUpdate t m x v) (k e : TypeId) (ht : P.underlying t = some (.map k e)) (K : Value → Prop) (hK : KeyT P k w K) (b : Nat) (L : List (Value × Value)) (hm : a.eval m = .map (some b)) (h : MapSt w b L) (key val : Value) (hx : a.eval x = key) (hv : a.eval v = val) (hkey : K key) (hL : ∀ x ∈ L, K x.1)
    (hQ : ∀ w' L2, MapSt w' b L2 → Put L key val L2 → w.grownBy w' (some b) → wpList P ops Q rest (a.put o.dst undef) w') : wpList P ops Q (o :: rest) a w := by
  refine wpList_plain hg fun K' hK' => ?_
  obtain ⟨w', L2, hrun, r1, r2, r3⟩ := h.update (val := val) hK ht hkey hL
  unfold Oper.wp
  simp [execOp, hop, hm, hx, hv, hrun, Result.andThen]
  exact hK' _ _ (hQ w' L2 r1 r2 r3)
end
end Go.Proofs.Ytbnghkgfbjipdaa
