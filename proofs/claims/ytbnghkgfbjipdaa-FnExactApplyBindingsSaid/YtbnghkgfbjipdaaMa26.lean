/- The contracts of the program's own ApplyBindings, copyExpr and FindBinding. Conditions: no string shares the memory of the arguments; where the result has more than 2097152 nodes, no two parts of the arguments share memory. The blocks of an expression's memory in which something lies; the size of an applied expression. No condition. -/
import Derived.Test.YtbnghkgfbjipdaaMa18
import Derived.Test.YtbnghkgfbjipdaaMa25
import Derived.Test.YtbnghkgfbjipdaaMa11
import Derived.Test.YtbnghkgfbjipdaaMa03
namespace Go.Proofs.Ytbnghkgfbjipdaa
open Go Go.RowKit

/-- A result in memory of its own. -/
def Fresh (R : Ex) (w : World) (r : Ending) (w2 : World) : Prop := ∃ v bs, r = .returned v ∧ ExIs w2 v R bs ∧ Mine w2 w.heap.size bs ∧ Below w.heap.size w w2
/-- A result that is laid into a box below it. -/
theorem fresh_box {R : Ex} {w w5 : World} {A5 : Option Addr} {c5 q rb B : Nat} {b5 : List Nat} (hx : ExIs w5 (.agg #[.int .i64 R.kind, .string R.name, .slice A5 q c5]) R b5) (hm : Mine w5 B b5) (hb : Below w.heap.size w w5) (h1 : w.heap.size ≤ rb) (h2 : rb < B) :
    ExIs (tri w5 rb 0 (.int .i64 R.kind) (.string R.name) (.slice A5 q c5)) (.agg #[.int .i64 R.kind, .string R.name, .slice A5 q c5]) R b5 ∧ Mine (tri w5 rb 0 (.int .i64 R.kind) (.string R.name) (.slice A5 q c5)) w.heap.size b5 ∧ Below w.heap.size w (tri w5 rb 0 (.int .i64 R.kind) (.string R.name) (.slice A5 q c5)) := by
  have hk : Keeps w5 (tri w5 rb 0 (.int .i64 R.kind) (.string R.name) (.slice A5 q c5)) b5 := ⟨by rw [tri_size]; exact Nat.le_refl _, fun x hx _ => tri_other _ _ _ _ _ _ x (by have := (hm.range x hx).1; omega)⟩
  have hm6 : Mine w5 w.heap.size b5 := ⟨hm.nodup, fun x hx => ⟨by have := (hm.range x hx).1; omega, (hm.range x hx).2⟩, hm.free⟩
  exact ⟨hx.keeps hk, hm6.keeps hk, below_tri hb h1 _ _ _ _⟩
theorem box_zero {w5 : World} {rb : Nat} {x0 x1 x2 : Value} (hra : w5.heap[rb]? = some (.cells #[x0, x1, x2] 26 (0, 0))) : w5.cell? ⟨rb, 0, none⟩ = some x0 ∧ w5.cell? ⟨rb, 1, none⟩ = some x1 ∧ w5.cell? ⟨rb, 2, none⟩ = some x2 ∧ (∀ o, w5.frozen? ⟨rb, o, none⟩ = false) ∧ rb < w5.heap.size :=
  ⟨by simp [World.cell?, hra], by simp [World.cell?, hra], by simp [World.cell?, hra], fun o => by simp [World.frozen?, hra], (Array.getElem?_eq_some_iff.1 hra).1⟩
theorem two_boxes (w : World) (y0 y1 y2 : Value) : ∀ wa, wa = (w.alloc (.cells #[y0, y1, y2] 26)).alloc (.cells #[.int .i64 0, .string ⟨#[]⟩, .slice none 0 0] 26) → Below w.heap.size w wa ∧ wa.heap[w.heap.size + 1]? = some (.cells #[.int .i64 0, .string ⟨#[]⟩, .slice none 0 0] 26 (0, 0)) ∧ wa.heap.size = w.heap.size + 1 + 1 := by
  rintro wa rfl
  refine ⟨((Below.refl _ w).alloc (Nat.le_refl _) _).alloc (by simp) _, ?_, by simp⟩
  have := heap_alloc_new (w.alloc (.cells #[y0, y1, y2] 26)) (.cells #[.int .i64 0, .string ⟨#[]⟩, .slice none 0 0] 26)
  rw [World.size_alloc] at this
  exact this
theorem CBox.set2 {w : World} {cb mb : Nat} {N : Int} {sh : Option Nat} (h : CBox w cb mb N sh) (sb : Nat) : CBox (w.setCell ⟨cb, 2, none⟩ (.map (some sb))) cb mb N (some sb) := by
  unfold CBox at h ⊢
  simp [World.setCell, Array.getElem?_modify, h]
set_option maxRecDepth 100000 in
set_option maxHeartbeats 4000000 in
theorem own_apply (e : Ex) (l : List Bi) (v v2 : Value) (bs b2 : List Nat) (w : World) (hx : ExIs w v e bs) (hl : BlIs w v2 l b2) (hfe : ∀ z ∈ bs, FreeB w z) (hfl : ∀ z ∈ b2, FreeB w z) (hS : exSize (subE (valOf l) e) ≤ 1099511627776) (hbig : 2097152 < exSize (subE (valOf l) e) → (bs ++ b2).Nodup ∧ exSize e + exSizes (l.map Bi.val) + 1 ≤ 1099511627776) (he : exSize e ≤ 1099511627776) (hb : ∀ r ∈ l, exSize r.val ≤ 1099511627776) (hn : l.length ≤ 1099511627776) :
    Calls Try.prog 18 #[v, v2] w (Fresh (subE (valOf l) e) w) := by
  have hf : ∀ s e1, valOf l s = some e1 → exSize e1 ≤ 1099511627776 := by
    intro s e1 h
    clear hl hS hn hbig
    induction l with
    | nil => cases h
    | cons r t ih =>
      rw [valOf] at h
      by_cases hr : r.name = s
      · rw [if_pos hr] at h
        cases h
        exact hb r (by simp)
      · rw [if_neg hr] at h
        exact ih (fun r hr => hb r (by simp [hr])) h
  obtain ⟨u, rfl, hs, hu⟩ := id hx
  obtain ⟨A, c, rfl, -⟩ := id hu
  obtain ⟨A2, c2, rfl, -⟩ := id hl
  obtain ⟨wa, hwa⟩ : ∃ wa, wa = (w.alloc (.cells #[.int .i64 e.kind, .string e.name, .slice A e.args.length c] 26)).alloc (.cells #[.int .i64 0, .string ⟨#[]⟩, .slice none 0 0] 26) := ⟨_, rfl⟩
  obtain ⟨hba, hea, hra, hsa⟩ : Below w.heap.size w wa ∧ wa.heap[w.heap.size]? = some (.cells #[.int .i64 e.kind, .string e.name, .slice A e.args.length c] 26 (0, 0)) ∧ wa.heap[w.heap.size + 1]? = some (.cells #[.int .i64 0, .string ⟨#[]⟩, .slice none 0 0] 26 (0, 0)) ∧ wa.heap.size = w.heap.size + 1 + 1 := by
    rw [hwa]
    refine ⟨((Below.refl _ w).alloc (Nat.le_refl _) _).alloc (by simp) _, (Below.heap_alloc _ _ _ (by simp)).trans (heap_alloc_new w _), ?_, by simp⟩
    have := heap_alloc_new (w.alloc (.cells #[.int .i64 e.kind, .string e.name, .slice A e.args.length c] 26)) (.cells #[.int .i64 0, .string ⟨#[]⟩, .slice none 0 0] 26)
    rw [World.size_alloc] at this
    exact this
  have HWA := Lib.hid hwa
  have HBA := Lib.hid hba
  have HEA := Lib.hid hea
  have HRA := Lib.hid hra
  have HSA := Lib.hid hsa
  have HC := Lib.hid (own_vals l _ b2 wa (hl.below hba) hn)
  have HX := Lib.hid (hx.below hba)
  have HFE := Lib.hid (And.intro hfe hfl)
  have HBIG := Lib.hid hbig
  have HS := Lib.hid hS
  have HE := Lib.hid he
  have HF := Lib.hid hf
  clear hx hl hfe hfl hbig hS he hf hb hn hs hu hwa hba hea hra hsa
  generalize e.args.length = m at *
  generalize l.length = k at *
  go_enter Try.func18, Try.ntmps18
  go_wp2_with fail
  rw [← HWA.out]
  go_at_call 63
  refine HC.out.mono ?_
  rintro r w1 ⟨mb, M, xs, rfl, hm, hK, hxs, hkd, hF, -, hb1⟩
  have hfx : ∀ x ∈ xs, ∀ z ∈ x.bs, FreeB wa z := fun x hx z hz => by
    have hz2 : z ∈ b2 := by
      rcases hkd with ⟨h, -⟩ | ⟨g, h⟩
      · have : xs = [] := by simpa using h
        rw [this] at hx; cases hx
      · rw [List.reverse_reverse] at h
        rw [h]; exact List.mem_cons_of_mem _ (List.mem_flatMap.2 ⟨x, hx, hz⟩)
    exact (HFE.out.2 z hz2).on (HBA.out.block z (HFE.out.2 z hz2).lt)
  have HVA := Lib.hid (vals_is hK hxs hF hfx)
  have HV := Lib.hid (HVA.out.below hb1)
  have HIT := Lib.hid (show b2.Nodup → _ from fun h => vals_items hm.nodup hxs hkd hF h)
  have HM := Lib.hid hm
  have HB1 := Lib.hid hb1
  clear hm hK hxs hF hb1 hfx hkd
  have HBW := Lib.hid (HBA.out.trans (HB1.out.mono HBA.out.size))
  have h1s := HB1.out.size
  have hsa := HSA.out
  have he1 := (HB1.out.block _ (by omega : w.heap.size < wa.heap.size)).trans HEA.out
  have k0 : w1.cell? ⟨w.heap.size, 0, none⟩ = some (.int .i64 e.kind) := by simp [World.cell?, he1]
  have k1 : w1.cell? ⟨w.heap.size, 1, none⟩ = some (.string e.name) := by simp [World.cell?, he1]
  have k2 : w1.cell? ⟨w.heap.size, 2, none⟩ = some (.slice A m c) := by simp [World.cell?, he1]
  have kl : w.heap.size < w1.heap.size := by omega
  have HE1 := Lib.hid he1
  obtain ⟨wc, hwc⟩ : ∃ wc, wc = w1.alloc (.cells #[.map (some mb), .int .i64 0, .map none, .map none, .map none] 82) := ⟨_, rfl⟩
  have HBC := Lib.hid (show Below w1.heap.size w1 wc by rw [hwc]; exact (Below.refl _ _).alloc (Nat.le_refl _) _)
  have HCB := Lib.hid (show CBox wc w1.heap.size mb 0 none by rw [hwc]; exact heap_alloc_new w1 _)
  have HWC := Lib.hid hwc
  have HVC := Lib.hid (HV.out.below HBC.out)
  have HFC := Lib.hid (show ∀ z ∈ bs, FreeB wc z from fun z hz => by
    have h5 := HFE.out.1 z hz
    exact h5.on ((HBC.out.block z (by have := h5.lt; have := HBA.out.size; have := HB1.out.size; omega)).trans ((HB1.out.block z (by have := h5.lt; have := HBA.out.size; omega)).trans (HBA.out.block z h5.lt))))
  have HMC := Lib.hid (HM.out.on (HBC.out.block _ HM.out.is.lt))
  have HXC := Lib.hid (HX.out.below (HB1.out.trans (HBC.out.mono HB1.out.size)))
  clear he1 h1s hsa hwc
  go_wp2_with fail
  rw [← HWC.out]
  go_at_call 64
  refine (own_large (valOf l) w1.heap.size mb M e _ bs wc HXC.out HFC.out HCB.out.cells.1 HMC.out.is HVC.out HE.out HF.out).mono ?_
  rintro r w3 ⟨bb, rfl, himp, hb3⟩
  have HBB := Lib.hid himp
  have HB3 := Lib.hid hb3
  have hcl := HBC.out.size
  have hss := HB1.out.size
  have hsa := HSA.out
  have he3 := (hb3.block _ (by omega : w.heap.size < wc.heap.size)).trans ((HBC.out.block _ (by omega)).trans HE1.out)
  have k0 : w3.cell? ⟨w.heap.size, 0, none⟩ = some (.int .i64 e.kind) := by simp [World.cell?, he3]
  have k1 : w3.cell? ⟨w.heap.size, 1, none⟩ = some (.string e.name) := by simp [World.cell?, he3]
  have k2 : w3.cell? ⟨w.heap.size, 2, none⟩ = some (.slice A m c) := by simp [World.cell?, he3]
  have kl3 := hb3.size
  have HC3 := Lib.hid (show CBox w3 w1.heap.size mb 0 none from (hb3.block _ HCB.out.cells.2.2.2.2.2.2).trans HCB.out)
  have HV3 := Lib.hid (HVC.out.below hb3)
  have HM3 := Lib.hid (HMC.out.on (hb3.block _ HMC.out.is.lt))
  have HX3 := Lib.hid (HXC.out.below hb3)
  have HF3 := Lib.hid (show ∀ z ∈ bs, FreeB w3 z from fun z hz => (HFC.out z hz).on (hb3.block z (HFC.out z hz).lt))
  have HW3 := Lib.hid (HBW.out.trans ((HBC.out.trans (hb3.mono HBC.out.size)).mono HBW.out.size))
  clear himp hb3 he3 hcl hss hsa kl3
  cases bb with
  | false =>
    go_wp2_with fail
    go_at_call 66
    refine (own_copyOf (valOf l) w1.heap.size mb M none e _ bs w3 HX3.out HF3.out HC3.out HM3.out.is HV3.out HS.out (fun g o n X _ _ => nil_shared ⟨g, o, none⟩ (n : Int) X)).mono ?_
    rintro r w5 ⟨v5, b5, rfl, hx5, hm5, hf5⟩
    obtain ⟨R, hR⟩ : ∃ R, R = subE (valOf l) e := ⟨_, rfl⟩
    have HR := Lib.hid hR
    rw [← hR] at hx5
    obtain ⟨u5, rfl, hsz5, hu5⟩ := id hx5
    obtain ⟨A5, c5, rfl, -⟩ := id hu5
    have hcl := HBC.out.size
    have hss := HB1.out.size
    have hsa := HSA.out
    have h3s := HB3.out.size
    have hra := (hf5.block (w.heap.size + 1) (by omega) (by simp; omega)).trans ((HB3.out.block _ (by omega)).trans ((HBC.out.block _ (by omega)).trans ((HB1.out.block _ (by omega)).trans HRA.out)))
    have z0 : w5.cell? ⟨w.heap.size + 1, 0, none⟩ = some (.int .i64 0) := by simp [World.cell?, hra]
    have z1 : w5.cell? ⟨w.heap.size + 1, 1, none⟩ = some (.string ⟨#[]⟩) := by simp [World.cell?, hra]
    have z2 : w5.cell? ⟨w.heap.size + 1, 2, none⟩ = some (.slice none 0 0) := by simp [World.cell?, hra]
    have zf : ∀ o, w5.frozen? ⟨w.heap.size + 1, o, none⟩ = false := fun o => by simp [World.frozen?, hra]
    have zl : w.heap.size + 1 < w5.heap.size := (Array.getElem?_eq_some_iff.1 hra).1
    have HEND := Lib.hid (show Fresh R w (.returned (.agg #[.int .i64 R.kind, .string R.name, .slice A5 R.args.length c5])) (tri w5 (w.heap.size + 1) 0 (.int .i64 R.kind) (.string R.name) (.slice A5 R.args.length c5)) from by
      have hk : Keeps w5 (tri w5 (w.heap.size + 1) 0 (.int .i64 R.kind) (.string R.name) (.slice A5 R.args.length c5)) b5 := ⟨by rw [tri_size]; exact Nat.le_refl _, fun x hx _ => tri_other _ _ _ _ _ _ x (by have := (hm5.range x hx).1; omega)⟩
      have hm6 : Mine w5 w.heap.size b5 := ⟨hm5.nodup, fun x hx => ⟨by have := (hm5.range x hx).1; omega, (hm5.range x hx).2⟩, hm5.free⟩
      refine ⟨_, b5, rfl, hx5.keeps hk, hm6.keeps hk, below_tri (HW3.out.trans ⟨hf5.os, hf5.tape, hf5.output, hf5.size, fun i hi => hf5.block i (by omega) (by simp; omega)⟩) (by omega) _ _ _ _⟩)
    generalize R.args.length = q at *
    clear hR hx5 hu5 hsz5 hm5 hf5 hra hcl hss hsa h3s
    go_wp2_with fail
    refine bodyPost_ret (v := .agg #[.int .i64 R.kind, .string R.name, .slice A5 q c5]) (by simp [results, Try.results18, go_sem, z0, z1, z2]) rfl ?_
    rw [← HR.out]
    exact HEND.out
  | true =>
    obtain ⟨hnd, hsum⟩ := HBIG.out (HBB.out rfl)
    have hnd2 := List.nodup_append.1 hnd
    obtain ⟨ys, hy1, hy2, hy3, hy4⟩ := HIT.out hnd2.2.1
    have hbw : Below wa.heap.size wa w3 := HB1.out.trans ((HBC.out.trans (HB3.out.mono HBC.out.size)).mono HB1.out.size)
    have hcbl : wa.heap.size ≤ w1.heap.size := HB1.out.size
    have hlt : ∀ z, FreeB w z → z < wa.heap.size ∧ FreeB w3 z := fun z hz => by
      have h5 := hz.lt
      have h6 := HBA.out.size
      exact ⟨by omega, hz.on ((hbw.block z (by omega)).trans (HBA.out.block z h5))⟩
    have hez : ExIs w3 (.agg #[.int .i64 e.kind, .string e.name, .slice A m c]) e bs := HX3.out
    have HSHP := Lib.hid (own_shared w1.heap.size mb M w3 (ys.map (up hbw)) (⟨(0, e, .slice A m c, bs), hez⟩ : It w3) (by rw [hy1, List.map_map]; rfl) HC3.out.cells.1 HM3.out (by
        rw [List.map_append, List.map_map, exSizes_append, List.map_cons, List.map_nil, exSizes, exSizes]
        have h7 : exSizes (ys.map (It.ex ∘ up hbw)) = exSizes (ys.map It.ex) := rfl
        show exSizes (ys.map (It.ex ∘ up hbw)) + (exSize e + 0) + 1 ≤ 1099511627776
        rw [h7]
        omega) (by
        rw [List.flatMap_append, bs_up]
        show (ys.flatMap It.bs ++ (bs ++ [])).Nodup
        rw [List.append_nil, List.nodup_append]
        exact ⟨hy2, hnd2.1, fun x hx z hz e0 => by
          obtain ⟨y, hy, hxy⟩ := List.mem_flatMap.1 hx
          exact hnd2.2.2 z hz x (hy3 y hy x hxy) e0.symm⟩) (by
        refine List.Sublist.nodup (heads_sub _) ?_
        rw [List.flatMap_append, bs_up]
        show (ys.flatMap It.bs ++ (bs ++ [])).Nodup
        rw [List.append_nil, List.nodup_append]
        exact ⟨hy2, hnd2.1, fun x hx z hz e0 => by
          obtain ⟨y, hy, hxy⟩ := List.mem_flatMap.1 hx
          exact hnd2.2.2 z hz x (hy3 y hy x hxy) e0.symm⟩) (by
        intro y hy x hx
        rcases List.mem_append.1 hy with hy | hy
        · obtain ⟨y0, hy0, rfl⟩ := List.mem_map.1 hy
          exact (hlt x (HFE.out.2 x (hy3 y0 hy0 x hx))).2
        · rw [List.mem_singleton] at hy; subst hy
          exact (hlt x (HFE.out.1 x hx)).2) (by
        intro y hy x hx
        rcases List.mem_append.1 hy with hy | hy
        · obtain ⟨y0, hy0, rfl⟩ := List.mem_map.1 hy
          have := (hlt x (HFE.out.2 x (hy3 y0 hy0 x hx))).1; omega
        · rw [List.mem_singleton] at hy; subst hy
          have := (hlt x (HFE.out.1 x hx)).1; omega))
    have HSP := Lib.hid (show Calls Try.prog 65 #[.pointer (some ⟨w1.heap.size, 0, none⟩), .agg #[.int .i64 e.kind, .string e.name, .slice A m c]] w3 _ from HSHP.out)
    clear hnd hsum hnd2 hy1 hy2 hy3 hy4 hbw hcbl hlt hez HSHP
    have hcc := HC3.out.cells
    have hk5 := hcc.2.2.2.2.2.2
    clear hcc
    go_wp2_with fail
    refine HSP.out.mono ?_
    rintro r w4 ⟨sb, SM, rfl, hms, hsb, hSM, hb4⟩
    have hcl4 := HBC.out.size
    have hss4 := HB1.out.size
    have hsa4 := HSA.out
    have h3s4 := HB3.out.size
    have he4 := (hb4.block w.heap.size (by omega)).trans ((HB3.out.block _ (by omega)).trans ((HBC.out.block _ (by omega)).trans HE1.out))
    have hc4 : CBox w4 w1.heap.size mb 0 none := (hb4.block _ hk5).trans HC3.out
    obtain ⟨Z, hZ⟩ : ∃ Z, Z = w4.setCell ⟨w1.heap.size, 2, none⟩ (.map (some sb)) := ⟨_, rfl⟩
    have hfz : Fr [w1.heap.size] w3 Z := by rw [hZ]; exact (Fr.of_below hb4).trans (Fr.set (S := [w1.heap.size]) w4 _ _ (by simp)) (fun x h => Or.inl h)
    have hcz : CBox Z w1.heap.size mb 0 (some sb) := by rw [hZ]; exact hc4.set2 sb
    have hzo : ∀ j, j ≠ w1.heap.size → Z.heap[j]? = w4.heap[j]? := fun j hj => by rw [hZ]; exact Below.heap_setCell _ _ _ _ hj
    have hzs : Z.heap.size = w4.heap.size := by rw [hZ]; simp [World.setCell]
    have hne : ∀ j, FreeB w j → j ≠ w1.heap.size := fun j hj => by have := hj.lt; have := HBA.out.size; omega
    have hexz : ExIs Z (.agg #[.int .i64 e.kind, .string e.name, .slice A m c]) e bs := HX3.out.keeps ⟨hfz.size, fun j hj hl => hfz.block j hl (by simpa using hne j (HFE.out.1 j hj))⟩
    have hfz1 : ∀ z ∈ bs, FreeB Z z := fun z hz => (HF3.out z hz).on (hfz.block z (HF3.out z hz).lt (by simpa using hne z (HFE.out.1 z hz)))
    have hmne : mb ≠ w1.heap.size := by have := HM.out.is.lt; omega
    have hmz : MapSt Z mb M := HM3.out.on (hfz.block _ HM3.out.is.lt (by simpa using hmne))
    have hvz : ValsIs Z M (valOf l) := HVA.out.below ((HB1.out.trans ((HBC.out.trans (HB3.out.mono HBC.out.size)).mono HB1.out.size)).trans (hfz.below (fun x hx => by simp at hx; omega) (by omega)))
    have hsz : MapIs Z sb SM := hms.on (hzo sb (by omega))
    have HCO := Lib.hid (show Calls Try.prog 66 #[.pointer (some ⟨w1.heap.size, 0, none⟩), .agg #[.int .i64 e.kind, .string e.name, .slice A m c]] Z (CopyPost9 w1.heap.size (subE (valOf l) e) Z) from own_copyOf (valOf l) w1.heap.size mb M (some sb) e _ bs Z hexz hfz1 hcz hmz.is hvz HS.out (fun g o n X hX hg => by
      have h7 := hsz.on (hX.block sb hsz.lt (by simp; omega))
      have h8 : ∀ x ∈ SM, PlaceK X x.1 := fun x hx => by
        obtain ⟨p, rfl, hp1, hp2⟩ := hSM x hx
        have h9 := hp1.on (hzo _ hp2)
        exact ⟨p.1, (p.2 : Int), rfl, h9.on (hX.block _ h9.lt (by simpa using hp2))⟩
      obtain ⟨v, has, hrun, hit⟩ := h7.look (placeT X) Try.underlying78 (zeroB X) (key := .agg #[.pointer (some ⟨g, o, none⟩), .int .i64 (n : Int)]) ⟨_, _, rfl, hg⟩ h8
      have hr2 := hrun false
      simp only [if_false, Bool.false_eq_true] at hr2
      rw [hr2]
      rcases hit with ⟨h10, -⟩ | ⟨-, rfl, -⟩
      · obtain ⟨p, e0, -⟩ := hSM _ h10
        rw [(Prod.mk.inj e0).2]
      · rfl))
    have k0 : w4.cell? ⟨w.heap.size, 0, none⟩ = some (.int .i64 e.kind) := by simp [World.cell?, he4]
    have k1 : w4.cell? ⟨w.heap.size, 1, none⟩ = some (.string e.name) := by simp [World.cell?, he4]
    have k2 : w4.cell? ⟨w.heap.size, 2, none⟩ = some (.slice A m c) := by simp [World.cell?, he4]
    have kf := hc4.cells.2.2.2.2.2.1 2
    have kc2 := hc4.cells.2.2.1
    have kl4 := hc4.cells.2.2.2.2.2.2
    have kne : w.heap.size ≠ w1.heap.size := by omega
    have HFZ := Lib.hid hfz
    have HZ := Lib.hid hZ
    have HZS := Lib.hid (show w3.heap.size ≤ Z.heap.size by rw [hzs]; exact hb4.size)
    clear hms hsb hSM hb4 hcl4 hss4 hsa4 h3s4 he4 hc4 hZ hfz hcz hzo hzs hne hexz hfz1 hmne hmz hvz hsz
    go_wp2_with fail
    rw [← HZ.out]
    refine HCO.out.mono ?_
    rintro r w5 ⟨v5, b5, rfl, hx5, hm6, hf6⟩
    have hm5 : Mine w5 w3.heap.size b5 := ⟨hm6.nodup, fun x hx => ⟨Nat.le_trans HZS.out (hm6.range x hx).1, (hm6.range x hx).2⟩, hm6.free⟩
    have hf5 : Fr [w1.heap.size] w3 w5 := HFZ.out.trans hf6 (fun x h => Or.inl h)
    clear hm6 hf6
    obtain ⟨R, hR⟩ : ∃ R, R = subE (valOf l) e := ⟨_, rfl⟩
    have HR := Lib.hid hR
    rw [← hR] at hx5
    obtain ⟨u5, rfl, hsz5, hu5⟩ := id hx5
    obtain ⟨A5, c5, rfl, -⟩ := id hu5
    have hcl := HBC.out.size
    have hss := HB1.out.size
    have hsa := HSA.out
    have h3s := HB3.out.size
    have hra := (hf5.block (w.heap.size + 1) (by omega) (by simp; omega)).trans ((HB3.out.block _ (by omega)).trans ((HBC.out.block _ (by omega)).trans ((HB1.out.block _ (by omega)).trans HRA.out)))
    have z0 : w5.cell? ⟨w.heap.size + 1, 0, none⟩ = some (.int .i64 0) := by simp [World.cell?, hra]
    have z1 : w5.cell? ⟨w.heap.size + 1, 1, none⟩ = some (.string ⟨#[]⟩) := by simp [World.cell?, hra]
    have z2 : w5.cell? ⟨w.heap.size + 1, 2, none⟩ = some (.slice none 0 0) := by simp [World.cell?, hra]
    have zf : ∀ o, w5.frozen? ⟨w.heap.size + 1, o, none⟩ = false := fun o => by simp [World.frozen?, hra]
    have zl : w.heap.size + 1 < w5.heap.size := (Array.getElem?_eq_some_iff.1 hra).1
    have HEND := Lib.hid (show Fresh R w (.returned (.agg #[.int .i64 R.kind, .string R.name, .slice A5 R.args.length c5])) (tri w5 (w.heap.size + 1) 0 (.int .i64 R.kind) (.string R.name) (.slice A5 R.args.length c5)) from by
      have hk : Keeps w5 (tri w5 (w.heap.size + 1) 0 (.int .i64 R.kind) (.string R.name) (.slice A5 R.args.length c5)) b5 := ⟨by rw [tri_size]; exact Nat.le_refl _, fun x hx _ => tri_other _ _ _ _ _ _ x (by have := (hm5.range x hx).1; omega)⟩
      have hm6 : Mine w5 w.heap.size b5 := ⟨hm5.nodup, fun x hx => ⟨by have := (hm5.range x hx).1; omega, (hm5.range x hx).2⟩, hm5.free⟩
      refine ⟨_, b5, rfl, hx5.keeps hk, hm6.keeps hk, below_tri (HW3.out.trans ⟨hf5.os, hf5.tape, hf5.output, hf5.size, fun i hi => hf5.block i (by omega) (by simp; omega)⟩) (by omega) _ _ _ _⟩)
    generalize R.args.length = q at *
    clear hR hx5 hu5 hsz5 hm5 hf5 hra hcl hss hsa h3s
    go_wp2_with fail
    refine bodyPost_ret (v := .agg #[.int .i64 R.kind, .string R.name, .slice A5 q c5]) (by simp [results, Try.results18, go_sem, z0, z1, z2]) rfl ?_
    rw [← HR.out]
    exact HEND.out
set_option maxHeartbeats 2000000 in
theorem own_copyx (e : Ex) (v : Value) (bs : List Nat) (w : World) (hx : ExIs w v e bs) (hfe : ∀ z ∈ bs, FreeB w z) (hS : exSize e ≤ 2097152) : Calls Try.prog 72 #[v] w (Fresh e w) := by
  obtain ⟨u, rfl, hs, hu⟩ := id hx
  obtain ⟨A, c, rfl, -⟩ := id hu
  have HA := Lib.hid (show ∀ W, Below w.heap.size w W → Calls Try.prog 18 #[.agg #[.int .i64 e.kind, .string e.name, .slice A e.args.length c], .slice none 0 0] W (Fresh e W) from fun W hW => by
    have h := own_apply e [] _ (.slice none 0 0) bs [] W (hx.below hW) ⟨none, 0, rfl, by decide, by decide, Or.inl ⟨rfl, rfl⟩⟩ (fun z hz => (hfe z hz).on (hW.block z (hfe z hz).lt)) (fun z hz => by cases hz) (by rw [sub_nil]; omega) (fun h => by rw [sub_nil] at h; omega) (by omega) (fun r hr => by cases hr) (by decide)
    rw [sub_nil] at h
    exact h)
  generalize e.args.length = q at *
  clear hx hfe hS hs hu
  obtain ⟨wa, hwa⟩ : ∃ wa, wa = (w.alloc (.cells #[.int .i64 e.kind, .string e.name, .slice A q c] 26)).alloc (.cells #[.int .i64 0, .string ⟨#[]⟩, .slice none 0 0] 26) := ⟨_, rfl⟩
  have HWA := Lib.hid hwa
  have H2 := Lib.hid (two_boxes w _ _ _ wa hwa)
  clear hwa
  go_enter Try.func72, Try.ntmps72
  go_wp2_with fail
  rw [← HWA.out]
  refine (HA.out wa H2.out.1).mono ?_
  rintro r w5 ⟨v5, b5, rfl, hx5, hm5, hb5⟩
  obtain ⟨u5, rfl, hsz5, hu5⟩ := id hx5
  obtain ⟨A5, c5, rfl, -⟩ := id hu5
  obtain ⟨z0, z1, z2, zf, zl⟩ := box_zero ((hb5.block _ (by have := H2.out.2.2; omega)).trans H2.out.2.1)
  have HEND := Lib.hid (fresh_box (rb := w.heap.size + 1) hx5 hm5 (H2.out.1.trans (hb5.mono H2.out.1.size)) (by omega) (by have := H2.out.2.2; omega))
  generalize e.args.length = q5 at *
  clear hx5 hu5 hsz5 hm5 hb5
  go_wp2_with fail
  refine bodyPost_ret (v := .agg #[.int .i64 e.kind, .string e.name, .slice A5 q5 c5]) (by simp [results, Try.results72, go_sem, z0, z1, z2]) rfl ?_
  exact ⟨_, b5, rfl, HEND.out⟩
theorem BlIs.get3 {w : World} {A : Option Addr} {n c : Nat} {l : List Bi} {bs : List Nat} (h : BlIs w (.slice A n c) l bs) (k : Nat) (hk : k < l.length) : ∃ g o r u b, BindAt w A l k g o r u b ∧ ∀ x ∈ b, x ∈ bs := by
  obtain ⟨A', c', e, h1, h2, h4⟩ := h
  cases e
  rcases h4 with ⟨rfl, -⟩ | ⟨g, o, bs', rfl, h5, rfl, h6⟩
  · simp at hk
  · have hg : l[k]? = some l[k] := List.getElem?_eq_getElem hk
    obtain ⟨b1, ⟨u, h7, h8⟩, h9⟩ := h6.get l 0 bs' k _ hg
    rw [Nat.zero_add] at h7
    exact ⟨g, o, l[k], u, b1, ⟨rfl, h5, hg, List.getElem_mem hk, h7, h8⟩, fun x hx => List.mem_cons_of_mem _ (h9 x hx)⟩
set_option maxHeartbeats 4000000 in
theorem own_findb (l : List Bi) (v : Value) (bs : List Nat) (s : ByteArray) (w : World) (hv : BlIs w v l bs) (hfl : ∀ z ∈ bs, FreeB w z) (hn : ∀ r ∈ l, exSize r.val ≤ 2097152) :
    Calls Try.prog 25 #[v, .string s] w (fun r w2 => ∃ v bs, r = .returned (.tuple #[v, .bool (valOf l s).isSome]) ∧ ExIs w2 v ((valOf l s).getD zeroX) bs ∧ Mine w2 w.heap.size bs ∧ Below w.heap.size w w2) := by
  obtain ⟨A, c, rfl, hc1, hc2, -⟩ := id hv
  have HU := Lib.hid hv
  obtain ⟨m, hm⟩ : ∃ m, m = l.length := ⟨_, rfl⟩
  rw [← hm] at hc1 HU ⊢
  have HM := Lib.hid hm
  have HN := Lib.hid hn
  have HFL := Lib.hid hfl
  have HF := Lib.hid (show valOf l s = valOf (l.drop 0) s from rfl)
  have hm2 : (m : Int) ≤ 9223372036854775807 := by omega
  clear hv hm hn hfl
  go_enter Try.func25, Try.ntmps25
  go_wp2_with fail
  obtain ⟨W0, hW0⟩ : ∃ W0, W0 = w.alloc (.cells #[.int .i64 0, .string ⟨#[]⟩, .slice none 0 0] 26) := ⟨_, rfl⟩
  rw [← hW0]
  have HW0 := Lib.hid (show Below w.heap.size w W0 ∧ W0.heap[w.heap.size]? = some (.cells #[.int .i64 0, .string ⟨#[]⟩, .slice none 0 0] 26 (0, 0)) by
    rw [hW0]
    exact ⟨(Below.refl _ w).alloc (Nat.le_refl _) _, heap_alloc_new w _⟩)
  clear hW0
  go_loopw [10] (fun i wr => ∃ (k : Nat), k ≤ m ∧ i = .int .i64 (k : Int) ∧ Hid (Below w.heap.size w wr ∧ wr.heap[w.heap.size]? = some (.cells #[.int .i64 0, .string ⟨#[]⟩, .slice none 0 0] 26 (0, 0))) ∧ Hid (valOf l s = valOf (l.drop k) s)) (fun i _ => m - (intOf i).toNat)
  case atStart => exact ⟨0, Nat.zero_le _, rfl, HW0, HF⟩
  case round =>
    clear HW0
    obtain ⟨k, hk, rfl, HB, HK⟩ := hrel
    by_cases hlt : k < m
    · obtain ⟨g, o, r, u, b1, hA, hsb⟩ := (HU.out.below HB.out.1).get3 k (by rw [← HM.out]; exact hlt)
      have HFB := Lib.hid (show ∀ z ∈ b1, FreeB wr z from fun z hz => (HFL.out z (hsb z hz)).on (HB.out.1.block z (HFL.out z (hsb z hz)).lt))
      clear hsb
      obtain rfl := hA.eq
      obtain ⟨c0, c1, c2, c3⟩ := hA.cells
      have HG := Lib.hid (valOf_here s hA.get)
      obtain ⟨u', e0, -, hi⟩ := hA.is
      obtain rfl : u = u' := by simpa using e0
      obtain ⟨u2, e2, -, A2, cc, e3, -⟩ := id hi
      simp only [Value.agg.injEq, Array.mk.injEq, List.cons.injEq, and_true, true_and] at e2
      subst e2; subst e3
      have HCP := Lib.hid (show ∀ W, Below wr.heap.size wr W → Calls Try.prog 72 #[.agg #[.int .i64 r.val.kind, .string r.val.name, .slice A2 r.val.args.length cc]] W (Fresh r.val W) from fun W hW => own_copyx r.val _ _ W (hi.below hW) (fun z hz => (HFB.out z hz).on (hW.block z (HFB.out z hz).lt)) (HN.out r hA.mem))
      have HBN := Lib.hid (show ∀ o, Below wr.heap.size wr (wr.alloc o) from fun o => (Below.refl _ _).alloc (Nat.le_refl _) o)
      have hgl := hA.lt
      clear hA hi
      have hk0 : (0 : Int) ≤ (k : Int) := by omega
      have hkm : (k : Int) < (m : Int) := by omega
      by_cases hx : r.name = s
      · have hbe := beq_yes hx
        have HE := Lib.hid (show valOf l s = some r.val by rw [HK.out, HG.out, if_pos hx])
        clear hx
        go_wp2_with fail
        go_at_call 72
        refine (HCP.out _ (HBN.out _)).mono ?_
        rintro r9 w5 ⟨v5, b5, rfl, hx5, hm5, hb5⟩
        obtain ⟨u5, rfl, hsz5, hu5⟩ := id hx5
        obtain ⟨A5, c5, rfl, -⟩ := id hu5
        have hzl := (Array.getElem?_eq_some_iff.1 HB.out.2).1
        have hbb := (HBN.out _).trans (hb5.mono (HBN.out _).size)
        obtain ⟨z0, z1, z2, zf, zl⟩ := box_zero ((hbb.block _ hzl).trans HB.out.2)
        have HEND := Lib.hid (fresh_box (rb := w.heap.size) hx5 hm5 (HB.out.1.trans (hbb.mono HB.out.1.size)) (Nat.le_refl _) (by have := (HBN.out (.cells #[.string r.name, .int .i64 r.val.kind, .string r.val.name, .slice A2 r.val.args.length cc] 74)).size; simp; omega))
        generalize r.val.args.length = q5 at *
        clear hx5 hu5 hsz5 hm5 hb5 hzl hbb
        go_wp2_with fail
        refine bodyPost_ret (v := .tuple #[.agg #[.int .i64 r.val.kind, .string r.val.name, .slice A5 q5 c5], .bool true]) (by simp [results, Try.results25, go_sem, z0, z1, z2]) rfl ?_
        rw [HE.out]
        exact ⟨_, b5, rfl, HEND.out⟩
      · have hbe := beq_no hx
        have HE := Lib.hid (show valOf l s = valOf (l.drop (k + 1)) s by rw [HK.out, HG.out, if_neg hx])
        have HBS := Lib.hid (show ∀ o, Below w.heap.size w (wr.alloc o) ∧ (wr.alloc o).heap[w.heap.size]? = some (.cells #[.int .i64 0, .string ⟨#[]⟩, .slice none 0 0] 26 (0, 0)) from fun o => ⟨HB.out.1.trans ((HBN.out o).mono HB.out.1.size), ((HBN.out o).block _ (Array.getElem?_eq_some_iff.1 HB.out.2).1).trans HB.out.2⟩)
        clear hx
        go_wp2_with fail
        go_roundw
        case rel => exact ⟨k + 1, by omega, by go_num, Lib.hid (HBS.out _), HE⟩
        case measure => simp [intOf]; omega
    · have HE := Lib.hid (show valOf l s = none by rw [HK.out, List.drop_eq_nil_of_le (by rw [← HM.out]; omega)]; rfl)
      obtain ⟨z0, z1, z2, zf, zl⟩ := box_zero HB.out.2
      go_wp2_with fail
      refine bodyPost_ret (v := .tuple #[.agg #[.int .i64 0, .string ⟨#[]⟩, .slice none 0 0], .bool false]) (by simp [results, Try.results25, go_sem, z0, z1, z2]) rfl ?_
      rw [HE.out]
      exact ⟨_, [], rfl, ⟨_, rfl, by decide, none, 0, rfl, by decide, by decide, Or.inl ⟨rfl, rfl⟩⟩, ⟨List.nodup_nil, (fun x hx => by cases hx), (fun x hx => by cases hx)⟩, below_tri HB.out.1 (Nat.le_refl _) 0 _ _ _⟩
end Go.Proofs.Ytbnghkgfbjipdaa

namespace Go.Proofs.Ytbnghkgfbjipdaa
open Go Go.RowKit

def Tch (w : World) (z : Nat) : Prop := ∃ o x, w.cell? ⟨z, o, none⟩ = some x
theorem Ex.at_touch {w : World} {g o : Nat} {e : Ex} {bs : List Nat} (h : ExAt w g o e bs) : Tch w g := by
  obtain ⟨u, h1, -⟩ := h.is
  exact ⟨o, _, h1⟩
/-- A list of places: only those where something lies. -/
theorem trim_list {w : World} {l : List Ex} {A : Option Addr} {bs : List Nat} (ih : ∀ (w : World) (g o j : Nat) (bs : List Nat), ExsAt w g o j l bs → ∃ cs, cs.Sublist bs ∧ ExsAt w g o j l cs ∧ ∀ z ∈ cs, Tch w z)
    (h : (l = [] ∧ bs = []) ∨ ∃ g' o' bs', A = some ⟨g', o', none⟩ ∧ g' < w.heap.size ∧ bs = g' :: bs' ∧ ExsAt w g' o' 0 l bs') :
    ∃ cs, cs.Sublist bs ∧ ((l = [] ∧ cs = []) ∨ ∃ g' o' bs', A = some ⟨g', o', none⟩ ∧ g' < w.heap.size ∧ cs = g' :: bs' ∧ ExsAt w g' o' 0 l bs') ∧ ∀ z ∈ cs, Tch w z := by
  rcases h with ⟨rfl, rfl⟩ | ⟨g, o, bs', rfl, hg, rfl, h⟩
  · exact ⟨[], List.Sublist.refl _, Or.inl ⟨rfl, rfl⟩, fun z hz => by cases hz⟩
  · cases l with
    | nil => exact ⟨[], List.nil_sublist _, Or.inl ⟨rfl, rfl⟩, fun z hz => by cases hz⟩
    | cons e r =>
      obtain ⟨cs, hc, h2, h3⟩ := ih _ _ _ _ _ h
      have ht : Tch w g := by
        rw [ExsAt] at h
        obtain ⟨b1, b2, -, h, -⟩ := h
        exact Ex.at_touch h
      exact ⟨g :: cs, hc.cons_cons _, Or.inr ⟨g, o, cs, rfl, hg, rfl, h2⟩, fun z hz => by
        rcases List.mem_cons.1 hz with rfl | hz
        · exact ht
        · exact h3 z hz⟩
theorem trim_both (n : Nat) : (∀ (e : Ex), exSize e ≤ n → ∀ (w : World) (g o : Nat) (bs : List Nat), ExAt w g o e bs → ∃ cs, cs.Sublist bs ∧ ExAt w g o e cs ∧ ∀ z ∈ cs, Tch w z) ∧
    (∀ (l : List Ex), exSizes l ≤ n → ∀ (w : World) (g o j : Nat) (bs : List Nat), ExsAt w g o j l bs → ∃ cs, cs.Sublist bs ∧ ExsAt w g o j l cs ∧ ∀ z ∈ cs, Tch w z) := by
  induction n with
  | zero =>
    refine ⟨fun e h => by have := exSize_pos e; omega, fun l h w g o j bs hx => ?_⟩
    cases l with
    | nil => rw [ExsAt] at hx; subst hx; exact ⟨[], List.Sublist.refl _, by rw [ExsAt], fun z hz => by cases hz⟩
    | cons e r => rw [exSizes] at h; have := exSize_pos e; omega
  | succ n ih =>
    have h1 : ∀ (e : Ex), exSize e ≤ n + 1 → ∀ (w : World) (g o : Nat) (bs : List Nat), ExAt w g o e bs → ∃ cs, cs.Sublist bs ∧ ExAt w g o e cs ∧ ∀ z ∈ cs, Tch w z := by
      intro e he w g o bs h
      cases e with
      | mk k s l =>
        rw [exSize] at he
        rw [ExAt] at h
        obtain ⟨a1, a2, a3, A, c, a4, a5, a6, a7⟩ := h
        obtain ⟨cs, b1, b2, b3⟩ := trim_list (ih.2 l (by omega)) a7
        refine ⟨cs, b1, ?_, b3⟩
        rw [ExAt]
        exact ⟨a1, a2, a3, A, c, a4, a5, a6, b2⟩
    refine ⟨h1, fun l => ?_⟩
    induction l with
    | nil => intro _ w g o j bs hx; rw [ExsAt] at hx; subst hx; exact ⟨[], List.Sublist.refl _, by rw [ExsAt], fun z hz => by cases hz⟩
    | cons e r ihl =>
      intro hs w g o j bs hx
      rw [exSizes] at hs
      rw [ExsAt] at hx
      obtain ⟨b1, b2, rfl, x1, x2⟩ := hx
      obtain ⟨c1, d1, e1, f1⟩ := h1 e (by omega) _ _ _ _ x1
      obtain ⟨c2, d2, e2, f2⟩ := ihl (by omega) _ _ _ _ _ x2
      refine ⟨c1 ++ c2, d1.append d2, ?_, fun z hz => (List.mem_append.1 hz).elim (f1 z) (f2 z)⟩
      rw [ExsAt]
      exact ⟨c1, c2, rfl, e1, e2⟩
theorem ExIs.trim {w : World} {v : Value} {e : Ex} {bs : List Nat} (h : ExIs w v e bs) : ∃ cs, cs.Sublist bs ∧ ExIs w v e cs ∧ ∀ z ∈ cs, Tch w z := by
  obtain ⟨u, rfl, hs, A, c, rfl, h1, h2, h3⟩ := h
  obtain ⟨cs, b1, b2, b3⟩ := trim_list ((trim_both (exSizes e.args)).2 e.args (Nat.le_refl _)) h3
  exact ⟨cs, b1, ⟨_, rfl, hs, A, c, rfl, h1, h2, b2⟩, b3⟩
theorem BiAt.trim {w : World} {g o : Nat} {r : Bi} {bs : List Nat} (h : BiAt w g o r bs) : ∃ cs, cs.Sublist bs ∧ BiAt w g o r cs ∧ ∀ z ∈ cs, Tch w z := by
  obtain ⟨u, h1, u2, h2, h3, h4⟩ := h
  obtain ⟨cs, b1, b2, b3⟩ := h4.trim
  exact ⟨cs, b1, ⟨u, h1, u2, h2, h3, b2⟩, b3⟩
theorem BisAt.trim {w : World} {g o : Nat} : ∀ (l : List Bi) (j : Nat) (bs : List Nat), BisAt w g o j l bs → ∃ cs, cs.Sublist bs ∧ BisAt w g o j l cs ∧ ∀ z ∈ cs, Tch w z := by
  intro l
  induction l with
  | nil => intro j bs h; rw [BisAt] at h; subst h; exact ⟨[], List.Sublist.refl _, by rw [BisAt], fun z hz => by cases hz⟩
  | cons r t ih =>
    intro j bs h
    rw [BisAt] at h
    obtain ⟨b1, b2, rfl, h1, h2⟩ := h
    obtain ⟨c1, d1, e1, f1⟩ := h1.trim
    obtain ⟨c2, d2, e2, f2⟩ := ih _ _ h2
    refine ⟨c1 ++ c2, d1.append d2, ?_, fun z hz => (List.mem_append.1 hz).elim (f1 z) (f2 z)⟩
    rw [BisAt]
    exact ⟨c1, c2, rfl, e1, e2⟩
theorem BlIs.trim {w : World} {v : Value} {l : List Bi} {bs : List Nat} (h : BlIs w v l bs) : ∃ cs, cs.Sublist bs ∧ BlIs w v l cs ∧ ∀ z ∈ cs, Tch w z := by
  obtain ⟨A, c, rfl, h1, h2, h3⟩ := h
  rcases h3 with ⟨rfl, rfl⟩ | ⟨g, o, bs', rfl, hg, rfl, h⟩
  · exact ⟨[], List.Sublist.refl _, ⟨A, c, rfl, h1, h2, Or.inl ⟨rfl, rfl⟩⟩, fun z hz => by cases hz⟩
  · cases l with
    | nil => exact ⟨[], List.nil_sublist _, ⟨_, c, rfl, h1, h2, Or.inl ⟨rfl, rfl⟩⟩, fun z hz => by cases hz⟩
    | cons r t =>
      obtain ⟨cs, d1, d2, d3⟩ := BisAt.trim _ _ _ h
      have ht : Tch w g := by
        rw [BisAt] at h
        obtain ⟨b1, b2, -, ⟨u, hc, -⟩, -⟩ := h
        exact ⟨_, _, hc.1⟩
      exact ⟨g :: cs, d1.cons_cons _, ⟨_, c, rfl, h1, h2, Or.inr ⟨g, o, cs, rfl, hg, rfl, d2⟩⟩, fun z hz => by
        rcases List.mem_cons.1 hz with rfl | hz
        · exact ht
        · exact d3 z hz⟩
theorem Tch.free {w : World} {z : Nat} (h : Tch w z) (hf : ∀ o, w.frozen? ⟨z, o, none⟩ = false) : FreeB w z := by
  obtain ⟨o, x, h⟩ := h
  exact FreeB.of_cell h hf
/-- What an applied expression has at most. -/
theorem sub_size_le (f : ByteArray → Option Ex) (N : Nat) (hN : 1 ≤ N) (hf : ∀ s e1, f s = some e1 → exSize e1 ≤ N) (n : Nat) : (∀ e : Ex, exSize e ≤ n → exSize (subE f e) ≤ exSize e * N) ∧ (∀ l : List Ex, exSizes l ≤ n → exSizes (subEs f l) ≤ exSizes l * N) := by
  induction n with
  | zero =>
    refine ⟨fun e h => by have := exSize_pos e; omega, fun l h => ?_⟩
    cases l with
    | nil => simp [subEs, exSizes]
    | cons e r => rw [exSizes] at h; have := exSize_pos e; omega
  | succ n ih =>
    have h1 : ∀ e : Ex, exSize e ≤ n + 1 → exSize (subE f e) ≤ exSize e * N := by
      intro e he
      cases e with
      | mk k s l =>
        have hle : exSize (.mk k s l) ≤ exSize (.mk k s l) * N := Nat.le_mul_of_pos_right _ hN
        rw [subE]
        split
        · cases hv : f s with
          | none => simpa using hle
          | some e1 =>
            have h2 := hf s e1 hv
            have h3 : N ≤ exSize (.mk k s l) * N := Nat.le_mul_of_pos_left _ (exSize_pos _)
            simp only [Option.getD_some]
            omega
        · rw [exSize] at he
          have h2 := ih.2 l (by omega)
          rw [exSize, exSize, Nat.add_mul]
          omega
    refine ⟨h1, fun l => ?_⟩
    induction l with
    | nil => intro _; simp [subEs, exSizes]
    | cons e r ihl =>
      intro hs
      rw [exSizes] at hs
      have a := h1 e (by omega)
      have b := ihl (by omega)
      rw [subEs, exSizes, exSizes, Nat.add_mul]
      omega
theorem valOf_memA {l : List Bi} {s : ByteArray} {e : Ex} (h : valOf l s = some e) : ∃ r ∈ l, r.val = e := by
  induction l with
  | nil => cases h
  | cons r t ih =>
    rw [valOf] at h
    by_cases hr : r.name = s
    · rw [if_pos hr] at h
      cases h
      exact ⟨r, by simp, rfl⟩
    · rw [if_neg hr] at h
      obtain ⟨x, hx, hv⟩ := ih h
      exact ⟨x, by simp [hx], hv⟩
theorem bisTot_memA {l : List Bi} {r : Bi} (h : r ∈ l) : biTot r + 1 ≤ bisTot l := by
  induction l with
  | nil => cases h
  | cons x t ih =>
    rw [bisTot]
    rcases List.mem_cons.1 h with rfl | h
    · omega
    · have := ih h; omega
theorem vals_tot : ∀ l : List Bi, exSizes (l.map Bi.val) ≤ bisTot l := by
  intro l
  induction l with
  | nil => simp [exSizes]
  | cons r t ih =>
    have h5 := (tot_size (exSize r.val)).1 r.val (Nat.le_refl _)
    rw [List.map_cons, exSizes, bisTot]
    unfold biTot
    omega
theorem val_sizeA {l : List Bi} {r : Bi} (h : r ∈ l) : exSize r.val ≤ bisTot l := by
  have h3 := bisTot_memA h
  have h5 := (tot_size (exSize r.val)).1 r.val (Nat.le_refl _)
  unfold biTot at h3
  omega
theorem sub_small {e : Ex} {l : List Bi} (h : exTot e + bisTot l ≤ 1048576) : exSize (subE (valOf l) e) ≤ 1099511627776 := by
  have h5 := (tot_size (exSize e)).1 e (Nat.le_refl _)
  have h1 := (sub_size_le (valOf l) (bisTot l + 1) (by omega) (fun s e1 hs => by
    obtain ⟨r, hr, rfl⟩ := valOf_memA hs
    have := val_sizeA hr
    omega) (exSize e)).1 e (Nat.le_refl _)
  have h2 : exSize e * (bisTot l + 1) ≤ (exTot e + 1) * (bisTot l + 1) := Nat.mul_le_mul_right _ h5
  have h3 : (exTot e + 1) * (bisTot l + 1) ≤ 1048577 * (bisTot l + 1) := Nat.mul_le_mul_right _ (by omega)
  have h4 : exTot e + 1 ≤ 1048577 - bisTot l := by omega
  have h6 : (exTot e + 1) * (bisTot l + 1) ≤ (1048577 - bisTot l) * (bisTot l + 1) := Nat.mul_le_mul_right _ h4
  have h7 : (1048577 - bisTot l) * (bisTot l + 1) ≤ 1099511627776 := by
    obtain ⟨b, hb⟩ : ∃ b, b = bisTot l := ⟨_, rfl⟩
    rw [← hb] at h ⊢
    by_cases hc : b ≤ 524288
    · have a1 : (1048577 - b) * (b + 1) ≤ 1048577 * 524289 := Nat.mul_le_mul (by omega) (by omega)
      omega
    · have a1 : (1048577 - b) * (b + 1) ≤ 524289 * 1048577 := Nat.mul_le_mul (by omega) (by omega)
      omega
  omega
/-- own_apply, at arguments that own their memory and share nothing. -/
theorem apply_mine (e : Ex) (l : List Bi) (v v2 : Value) (bs b2 : List Nat) (w : World) (hx : ExIs w v e bs) (hl : BlIs w v2 l b2) (hm : Mine w 0 (bs ++ b2)) (ht : exTot e + bisTot l ≤ 1048576) :
    Calls Try.prog 18 #[v, v2] w (Fresh (subE (valOf l) e) w) := by
  obtain ⟨c1, s1, x1, t1⟩ := hx.trim
  obtain ⟨c2, s2, x2, t2⟩ := hl.trim
  have h5 := (tot_size (exSize e)).1 e (Nat.le_refl _)
  have hv := vals_tot l
  have hl0 := bisTot_ge l
  refine own_apply e l v v2 c1 c2 w x1 x2 (fun z hz => (t1 z hz).free (hm.free z (by simp [s1.subset hz]))) (fun z hz => (t2 z hz).free (hm.free z (by simp [s2.subset hz]))) (sub_small ht)
    (fun _ => ⟨(s1.append s2).nodup hm.nodup, by omega⟩) (by omega) (fun r hr => by have := val_sizeA hr; omega) (by omega)
end Go.Proofs.Ytbnghkgfbjipdaa
