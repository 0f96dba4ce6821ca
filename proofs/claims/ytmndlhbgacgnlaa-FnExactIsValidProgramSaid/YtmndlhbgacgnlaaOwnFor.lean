/- The contract of the program's own IsExprFor. Conditions: fewer than 2^40 nodes in the expression and in each body, fewer than 2^40 rules and parameters; no string shares the memory of the program. -/
import Derived.Test.YtmndlhbgacgnlaaOwnMet
import Derived.Test.YtmndlhbgacgnlaaOwnValid
namespace Go.Proofs.Ytmndlhbgacgnlaa
open Go Go.RowKit Go.Shelf
attribute [local go_sem] Oper.semAt_some

theorem own_met (l : List Ru) (e : Ex) (v : Value) (bs : List Nat) (mb mb2 : Nat) (M1 M2 : List (Value × Value)) (wq : World) (xs : List (Rt wq)) (G : List Cn) (w : World) (hv : ExIs w v e bs) (hb : exSize e ≤ 1099511627776) (hp : ∀ r ∈ l, r.params.length ≤ 1099511627776)
    (h1 : MapIs w mb M1 ∧ (∀ x ∈ M1, StrK x.1) ∧ xs.map Rt.pair = numd 0 l ∧ Firsts rname Rt.val xs M1) (h2 : MapIs w mb2 M2 ∧ (∀ x ∈ M2, StrK x.1) ∧ Firsts ckey cval G M2 ∧ ∀ q, G.find? q = (consAll l).find? q) :
    Calls Try.prog 85 #[.agg #[.map (some mb), .map (some mb2)], v] w (RetPost (.bool (fitE l e e)) w) :=
  callsIn_wide.1 (met_in Fence.wide 9 rfl rfl (fun _ => trivial) (Nat.le_refl _) l e v bs mb mb2 M1 M2 wq xs G w hv hb hp h1.1 h1.2.1 h1.2.2.1 h1.2.2.2 h2.1 h2.2.1 h2.2.2.1 h2.2.2.2)
theorem for_cells {w W : World} {A A2 : Option Addr} {m c m2 c2 : Nat} {k : Int} {s : ByteArray} (hb : Below ((w.alloc (.cells #[.slice A m c] 53)).alloc (.cells #[.int .i64 k, .string s, .slice A2 m2 c2] 26)).heap.size ((w.alloc (.cells #[.slice A m c] 53)).alloc (.cells #[.int .i64 k, .string s, .slice A2 m2 c2] 26)) W) :
    W.cell? ⟨w.heap.size, 0, none⟩ = some (.slice A m c) ∧ W.cell? ⟨w.heap.size + 1, 0, none⟩ = some (.int .i64 k) ∧ W.cell? ⟨w.heap.size + 1, 1, none⟩ = some (.string s) ∧ W.cell? ⟨w.heap.size + 1, 2, none⟩ = some (.slice A2 m2 c2) := by
  have h1 : W.heap[w.heap.size]? = some (.cells #[.slice A m c] 53 (0, 0)) := (hb.block _ (by simp; omega)).trans ((Below.heap_alloc _ _ _ (by simp)).trans (World.alloc_heap_new w _))
  have h2 : W.heap[w.heap.size + 1]? = some (.cells #[.int .i64 k, .string s, .slice A2 m2 c2] 26 (0, 0)) := by
    have h9 := World.alloc_heap_new (w.alloc (.cells #[.slice A m c] 53)) (.cells #[.int .i64 k, .string s, .slice A2 m2 c2] 26)
    rw [World.size_alloc] at h9
    exact (hb.block _ (by simp)).trans h9
  exact ⟨by simp [World.cell?, h1], by simp [World.cell?, h2], by simp [World.cell?, h2], by simp [World.cell?, h2]⟩

set_option maxRecDepth 100000 in
set_option maxHeartbeats 2000000 in
theorem own_for (l : List Ru) (e : Ex) (v v2 : Value) (bs b2 : List Nat) (w : World) (hv : PrIs w v l bs) (hv2 : ExIs w v2 e b2) (hfr : Thawed w (bs ++ b2)) (hb : ∀ r ∈ l, exSize r.body ≤ 1099511627776) (hlb : l.length ≤ 1099511627776) (hp : ∀ r ∈ l, r.params.length ≤ 1099511627776) (he : exSize e ≤ 1099511627776) :
    Calls Try.prog 43 #[v, v2] w (RetPost (.bool (exFor l e)) w) := by
  have HV := Lib.hid (fun (W : World) (hW : Below w.heap.size w W) => own_valid e v2 b2 W (hv2.below hW) he)
  have HD := Lib.hid (fun (W : World) (hW : Below w.heap.size w W) => own_dem l v bs W (hv.below hW) ((show Thawed w bs from fun x hx => hfr x (by simp [hx])).below hW) hb hlb)
  have HM := Lib.hid (fun (mb mb2 : Nat) (M1 M2 : List (Value × Value)) (wq : World) (xs : List (Rt wq)) (G : List Cn) (W : World) (hW : Below w.heap.size w W) => own_met l e v2 b2 mb mb2 M1 M2 wq xs G W (hv2.below hW) he hp)
  have HE := Lib.hid (show exFor l e = (exValid e && fitE l e e) from rfl)
  obtain ⟨u, rfl, hu⟩ := id hv
  obtain ⟨A, c, rfl, hc1, hc2, -⟩ := id hu
  obtain ⟨u2, rfl, hs2, hu2⟩ := id hv2
  obtain ⟨A2, c2, rfl, -⟩ := id hu2
  generalize hR : exFor l e = R at *
  generalize hva : exValid e = va at *
  generalize fitE l e e = f at *
  obtain ⟨m, hm⟩ : ∃ m, m = l.length := ⟨_, rfl⟩
  obtain ⟨m2, hm2⟩ : ∃ m2, m2 = e.args.length := ⟨_, rfl⟩
  rw [← hm] at HD ⊢
  rw [← hm2] at HV HM ⊢
  have HBX := Lib.hid (fun (W : World) (hb : Below ((w.alloc (.cells #[.slice A m c] 53)).alloc (.cells #[.int .i64 e.kind, .string e.name, .slice A2 m2 c2] 26)).heap.size ((w.alloc (.cells #[.slice A m c] 53)).alloc (.cells #[.int .i64 e.kind, .string e.name, .slice A2 m2 c2] 26)) W) => for_cells hb)
  have HB0 := Lib.hid (((Below.refl _ w).alloc (Nat.le_refl _) (.cells #[.slice A m c] 53)).alloc (by simp) (.cells #[.int .i64 e.kind, .string e.name, .slice A2 m2 c2] 26))
  clear hv hv2 hu hu2 hs2 hfr hb hlb hp he hm hm2 hR hva hc1
  go_enter Try.func43, Try.ntmps43
  go_wp2_with fail
  obtain ⟨W0, hW0⟩ : ∃ W0, W0 = (w.alloc (.cells #[.slice A m c] 53)).alloc (.cells #[.int .i64 e.kind, .string e.name, .slice A2 m2 c2] 26) := ⟨_, rfl⟩
  rw [← hW0] at HBX HB0 ⊢
  obtain ⟨x0, x1, x2, x3⟩ := HBX.out W0 (Below.refl _ _)
  have HDR := Lib.hid (Below.drew (Below.refl W0.heap.size W0))
  clear hW0
  cases va
  · go_region_law
      (first
      | (go_simp; go_at_call 15; refine (HV.out W0.drew (HB0.out.trans (HDR.out.mono HB0.out.size))).mono ?_; rintro r w1 ⟨rfl, hb1⟩; have HB1 := Lib.hid (HDR.out.trans hb1); clear hb1; obtain ⟨y0, y1, y2, y3⟩ := HBX.out w1 HB1.out))
    all_goals
      go_wp2_with fail
      go_ret
      exact ⟨by rw [HE.out]; rfl, HB0.out.trans (HB1.out.mono HB0.out.size)⟩
  · go_region_law
      (first
      | (go_simp; go_at_call 15; refine (HV.out W0.drew (HB0.out.trans (HDR.out.mono HB0.out.size))).mono ?_; rintro r w1 ⟨rfl, hb1⟩; have HB1 := Lib.hid (HDR.out.trans hb1); clear hb1; obtain ⟨y0, y1, y2, y3⟩ := HBX.out w1 HB1.out)
      | (go_simp; go_at_call 84; refine (HD.out w1 (HB0.out.trans (HB1.out.mono HB0.out.size))).mono ?_; rintro r w2 ⟨mb, mb2, M1, M2, wq, xs, G, rfl, hq1, hq2, hb2⟩; have HQ1 := Lib.hid hq1; have HQ2 := Lib.hid hq2; have HB2 := Lib.hid (HB1.out.trans (hb2.mono HB1.out.size)); clear hb2 hq1 hq2; obtain ⟨z0, z1, z2, z3⟩ := HBX.out w2 HB2.out)
      | (go_simp; go_at_call 85; refine (HM.out mb mb2 M1 M2 wq xs G w2 (HB0.out.trans (HB2.out.mono HB0.out.size)) HQ1.out HQ2.out).mono ?_; rintro r w3 ⟨rfl, hb3⟩; have HB3 := Lib.hid (HB2.out.trans (hb3.mono HB2.out.size)); clear hb3))
    all_goals
      go_wp2_with fail
      go_ret
      exact ⟨by rw [HE.out]; rfl, HB0.out.trans (HB3.out.mono HB0.out.size)⟩
end Go.Proofs.Ytmndlhbgacgnlaa
