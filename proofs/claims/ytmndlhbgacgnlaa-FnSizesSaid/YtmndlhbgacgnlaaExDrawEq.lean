/- The contract of the model's draw DrawEqualExpr. Condition: the code is at most 1048576 bytes long. -/
import Derived.Test.YtmndlhbgacgnlaaExCopy2
namespace Go.Proofs.Ytmndlhbgacgnlaa
open Go Go.RowKit

def DrawXXPost (w : World) (r : Ending) (w' : World) : Prop := ∃ v e bs v2 e2 bs2, r = .returned (.tuple #[v, v2]) ∧ ExF w' v e bs ∧ ExF w' v2 e2 bs2 ∧ (exTot e ≤ 200 ∧ exSize e ≤ 80) ∧ exTot e2 ≤ 200 ∧ Below w.heap.size w w'

theorem Only.drew1 {g : Nat} {a b : World} (h : Only g a b) : Only g a b.drew := ⟨h.os, h.tape, h.output, h.size, h.block⟩
theorem Box.same {W W2 : World} {b : Nat} {v0 v1 v2 : Value} (h : Box W b v0 v1 v2) (hb : W2.heap[b]? = W.heap[b]?) : Box W2 b v0 v1 v2 := hb.trans h
theorem set3_far {W : World} {b c : Nat} (h : c ≠ b) (v0 v1 v2 : Value) : (set3 W b v0 v1 v2).heap[c]? = W.heap[c]? := by
  unfold set3
  rw [Below.heap_setCell _ _ _ _ (by simpa using h), Below.heap_setCell _ _ _ _ (by simpa using h), Below.heap_setCell _ _ _ _ (by simpa using h)]
theorem cell3_far {W : World} {b c : Nat} (h : c ≠ b) (v0 v1 v2 : Value) : (((W.setCell ⟨b, 0, none⟩ v0).setCell ⟨b, 1, none⟩ v1).setCell ⟨b, 2, none⟩ v2).heap[c]? = W.heap[c]? := set3_far h v0 v1 v2
/-- The first expression in its box, and the two results' boxes. -/
structure Vq (w : World) (b : Nat) (e : Ex) (u : Value) (bs : List Nat) (W : World) : Prop where
  low : Below (w.heap.size + 1 + 1) ((w.alloc (.cells #[.int .i64 0, .string ⟨#[]⟩, .slice none 0 0] 26)).alloc (.cells #[.int .i64 0, .string ⟨#[]⟩, .slice none 0 0] 26)) W
  box : Box W b (.int .i64 e.kind) (.string e.name) u
  is : ExF W (.agg #[.int .i64 e.kind, .string e.name, u]) e bs
  hb : w.heap.size + 1 < b
  lo : ∀ x ∈ bs, w.heap.size + 1 < x
theorem Vq.res {w : World} {b : Nat} {e : Ex} {u : Value} {bs : List Nat} {W : World} (h : Vq w b e u bs W) : Box W w.heap.size (.int .i64 0) (.string ⟨#[]⟩) (.slice none 0 0) ∧ Box W (w.heap.size + 1) (.int .i64 0) (.string ⟨#[]⟩) (.slice none 0 0) := by
  refine ⟨(h.low.block _ (by omega)).trans (Row.alloc (Row.new w 26 [.int .i64 0, .string ⟨#[]⟩, .slice none 0 0]) _), (h.low.block _ (by omega)).trans ?_⟩
  have := Row.new (w.alloc (.cells #[.int .i64 0, .string ⟨#[]⟩, .slice none 0 0] 26)) 26 [.int .i64 0, .string ⟨#[]⟩, .slice none 0 0]
  have hz : (w.alloc (.cells #[.int .i64 0, .string ⟨#[]⟩, .slice none 0 0] 26)).heap.size = w.heap.size + 1 := by simp
  rw [hz] at this
  exact this
theorem Vq.only {w : World} {b : Nat} {e : Ex} {u : Value} {bs : List Nat} {W W2 : World} {g : Nat} (h : Vq w b e u bs W) (hg : w.heap.size + 1 < g) (hbg : b ≠ g) (hn : g ∉ bs) (ho : Only g W W2) : Vq w b e u bs W2 :=
  ⟨h.low.trans (ho.below hg (Nat.le_trans (by simp) h.low.size)), Row.only h.box ho hbg, h.is.only ho hn, h.hb, h.lo⟩
theorem Vq.below {w : World} {b : Nat} {e : Ex} {u : Value} {bs : List Nat} {W W2 : World} (h : Vq w b e u bs W) (hb : Below W.heap.size W W2) : Vq w b e u bs W2 :=
  ⟨h.low.trans (hb.mono (Nat.le_trans (by simp) h.low.size)), (hb.block _ h.box.lt).trans h.box, h.is.below hb, h.hb, h.lo⟩
theorem Vq.cells {w : World} {b : Nat} {e : Ex} {u : Value} {bs : List Nat} {W : World} (h : Vq w b e u bs W) (W2 : World) (hb : W2.heap[b]? = W.heap[b]?) :
    W2.cell? ⟨b, 0, none⟩ = some (.int .i64 e.kind) ∧ W2.cell? ⟨b, 1, none⟩ = some (.string e.name) ∧ W2.cell? ⟨b, 2, none⟩ = some u :=
  ⟨(h.box.same hb).facts.1, (h.box.same hb).facts.2.1, (h.box.same hb).facts.2.2.1⟩
theorem Vq.fin {w : World} {b : Nat} {e e2 : Ex} {u u2 : Value} {bs b2 : List Nat} {W : World} (h : Vq w b e u bs W) (h2 : ExF W (.agg #[.int .i64 e2.kind, .string e2.name, u2]) e2 b2) (hlo : ∀ x ∈ b2, w.heap.size + 1 < x) (ht : exTot e ≤ 200 ∧ exSize e ≤ 80) (ht2 : exTot e2 ≤ 200) :
    DrawXXPost w (.returned (.tuple #[.agg #[.int .i64 e.kind, .string e.name, u], .agg #[.int .i64 e2.kind, .string e2.name, u2]])) (set3 (set3 W w.heap.size (.int .i64 e.kind) (.string e.name) u) (w.heap.size + 1) (.int .i64 e2.kind) (.string e2.name) u2) := by
  have n0 : w.heap.size ∉ bs := fun hx => by have := h.lo _ hx; omega
  have n1 : w.heap.size + 1 ∉ bs := fun hx => by have := h.lo _ hx; omega
  have m0 : w.heap.size ∉ b2 := fun hx => by have := hlo _ hx; omega
  have m1 : w.heap.size + 1 ∉ b2 := fun hx => by have := hlo _ hx; omega
  refine ⟨_, e, bs, _, e2, b2, rfl, h.is.keeps (keeps_on (set3_keeps n0 _ _ _) (set3_keeps n1 _ _ _)), h2.keeps (keeps_on (set3_keeps m0 _ _ _) (set3_keeps m1 _ _ _)), ht, ht2, ?_⟩
  exact set3_low (set3_low ((((Below.refl w.heap.size w).alloc (Nat.le_refl _) (.cells #[.int .i64 0, .string ⟨#[]⟩, .slice none 0 0] 26)).alloc (by simp) (.cells #[.int .i64 0, .string ⟨#[]⟩, .slice none 0 0] 26)).trans (h.low.mono (by omega))) (Nat.le_refl _) _ _ _) (by omega) _ _ _

theorem block_eq {w3 w5 : World} {b : Nat} (h : w5.heap[b]? = w3.drew.heap[b]?) : w5.heap[b]? = w3.heap[b]? := h
theorem ne_some {b g : Nat} (h : b ≠ g) : some b ≠ some g := fun e => h (Option.some.inj e)
theorem high_of {w w3 : World} {bs : List Nat} (h : w.heap.size + 1 + 1 ≤ w3.heap.size) (hb : ∀ x ∈ bs, w3.drew.heap.size < x) : ∀ x ∈ bs, w.heap.size + 1 < x := fun x hx => by
  have h2 : w3.heap.size < x := hb x hx
  omega
theorem high_of' {w w3 : World} {bs : List Nat} (h : w.heap.size + 1 + 1 ≤ w3.heap.size) (hb : ∀ x ∈ bs, w3.drew.heap.size ≤ x) : ∀ x ∈ bs, w.heap.size + 1 < x := fun x hx => by
  have h2 : w3.heap.size ≤ x := hb x hx
  omega
set_option maxHeartbeats 1000000 in
theorem draw_equal (A : Option Addr) (zs : List Int) (cap : Nat) (w : World) (hs : Bytes w w.heap.size A zs) (hn : zs.length ≤ 1048576) :
    Calls Try.prog 23 #[.slice A zs.length cap] w (DrawXXPost w) := by
  have HW0 := Lib.hid (((Below.refl w.heap.size w).alloc (Nat.le_refl _) (.cells #[.int .i64 0, .string ⟨#[]⟩, .slice none 0 0] 26)).alloc (by simp) (.cells #[.int .i64 0, .string ⟨#[]⟩, .slice none 0 0] 26))
  have HS := Lib.hid (show Bytes ((w.alloc (.cells #[.int .i64 0, .string ⟨#[]⟩, .slice none 0 0] 26)).alloc (.cells #[.int .i64 0, .string ⟨#[]⟩, .slice none 0 0] 26)) (w.heap.size + 1 + 1) A zs from fun i z hz => by
    obtain ⟨a, h1, h2, h3, h4, h5⟩ := (hs.below HW0.out) i z hz
    exact ⟨a, h1, h2, h3, h4, by omega⟩)
  have HNW := Lib.hid (new_any (w.heap.size + 1 + 1) A zs cap _ HS.out (by simp) hn)
  have HN := Lib.hid hn
  clear hs hn
  go_enter Try.func23, Try.ntmps23
  go_wp2_with fail
  go_at_call 53
  refine HNW.out.mono ?_
  rintro r w1 ⟨g, rfl, hc1, hg, hb1⟩
  have hs1 := HS.out.below hb1
  have hgl := hc1.lt
  have HB1 := Lib.hid hb1
  have HC := Lib.hid (fun (lim : Int) (W : World) (hc : Cur W g A zs.length cap) (ho : Only g w1 W) (h0 : 1 ≤ lim) (h1 : lim ≤ 256) => once_any (w.heap.size + 1 + 1) g A zs cap lim W (hs1.only ho hg (by omega)) hg hc HN.out h0 h1)
  have HD := Lib.hid (fun (W : World) (hc : Cur W g A zs.length cap) (ho : Only g w1 W) => bent_sz (w.heap.size + 1 + 1) g A zs cap W (hs1.only ho hg (by omega)) hg hc HN.out)
  have HC1 := Lib.hid hc1
  clear hc1 hs1 hb1 HNW
  go_wp2_with fail
  go_at_call 54
  refine (HD.out w1 HC1.out (Only.refl g w1)).mono ?_
  rintro r w2 ⟨_, e, bs, rfl, his, hge, ht, hc2, ho2⟩
  obtain ⟨⟨_, rfl, -, A2, c2, rfl, -⟩, -⟩ := id his
  have hz2 := ho2.size
  have HT := Lib.hid ht
  have HV := Lib.hid (show Vq w w2.heap.size e (.slice A2 e.args.length c2) bs (w2.alloc (.cells #[.int .i64 e.kind, .string e.name, .slice A2 e.args.length c2] 26)) from
    ⟨(HB1.out.trans (ho2.below (by omega) (by omega))).alloc (by omega) _, Row.new w2 _ [.int .i64 e.kind, .string e.name, .slice A2 e.args.length c2], his.below ((Below.refl _ _).alloc (Nat.le_refl _) _), by omega, fun x hx => by have := hge x hx; omega⟩)
  have hgb : w2.heap.size ≠ g := by omega
  have hgn : g ∉ bs := fun hx => by have := hge _ hx; omega
  have HO2 := Lib.hid (And.intro (hc2.alloc (.cells #[.int .i64 e.kind, .string e.name, .slice A2 e.args.length c2] 26)) (ho2.alloc (.cells #[.int .i64 e.kind, .string e.name, .slice A2 e.args.length c2] 26)))
  clear his hge ht hc2 ho2 HC1
  go_wp2_with fail
  go_at_call 55
  refine (HC.out 2 _ HO2.out.1 HO2.out.2 (by decide) (by decide)).mono ?_
  rintro r w3 ⟨x, rfl, hc3, ho3⟩
  have HO3 := Lib.hid (And.intro hc3 (HO2.out.2.trans ho3))
  have HV3 := Lib.hid (HV.out.only (by omega) hgb hgn ho3)
  clear hc3 ho3 HV HO2 HC
  have hlo2 := Nat.le_trans (show w.heap.size + 1 + 1 ≤ w2.heap.size by omega) (Nat.le_of_lt HV3.out.box.lt)
  have hwa : w.heap.size ≠ w2.heap.size := by omega
  have hwb : w.heap.size + 1 ≠ w2.heap.size := by omega
  have hwc : w2.heap.size ≠ w.heap.size := by omega
  have hwd : w2.heap.size ≠ w.heap.size + 1 := by omega
  have hwe : w.heap.size + 1 ≠ w.heap.size := by omega
  have hwf : w.heap.size ≠ w.heap.size + 1 := by omega
  have HCE := Lib.hid (fun (W : World) (hb : W.heap[w2.heap.size]? = w3.heap[w2.heap.size]?) => HV3.out.cells W hb)
  have HQ0 := Lib.hid (show w3.drew.heap[w2.heap.size]? = w3.heap[w2.heap.size]? from rfl)
  have HSZ := Lib.hid (show exSize e ≤ 1099511627776 by have := (tot_size (exSize e)).1 e (Nat.le_refl _); have := HT.out.1; omega)
  have hg1 : w.heap.size + 1 < g := by omega
  have HCY := Lib.hid (fun (W : World) (hb : Below w3.heap.size w3 W) => copy2_any (exSize e) e _ bs W (Nat.le_refl _) (HV3.out.is.below hb).1 HSZ.out)
  cases x
  · go_wp2_with fail
    go_region_held3 (fun X => X.cell? ⟨w2.heap.size, 0, none⟩ = some (.int .i64 e.kind) ∧ X.cell? ⟨w2.heap.size, 1, none⟩ = some (.string e.name) ∧ X.cell? ⟨w2.heap.size, 2, none⟩ = some (.slice A2 e.args.length c2))
      (first
      | with_reducible exact HCE.out _ HQ0.out
      | with_reducible exact HCE.out _ HQ.out
      | with_reducible exact HCE.out _ ((cell3_far hwc _ _ _).trans HQ.out)
      | with_reducible exact HCE.out _ ((cell3_far hwd _ _ _).trans ((cell3_far hwc _ _ _).trans HQ.out)))
      (first
      | (go_at_call 54; refine (HD.out w3.drew HO3.out.1 HO3.out.2.drew1).mono ?_; rintro r w5 ⟨_, e5, bs5, rfl, his5, hge5, ht5, hc5, ho5⟩; have HQ := Lib.hid (block_eq (ho5.block w2.heap.size HV3.out.box.lt (ne_some hgb))); have HV5 := Lib.hid (Vq.only (HV3.out.below (Below.refl _ _).drew) hg1 hgb hgn ho5); have HT5 := Lib.hid ht5; have HG5 := Lib.hid (high_of hlo2 hge5); clear ht5 hge5 hc5 ho5; obtain ⟨⟨_, rfl, -, A5, c5, rfl, -⟩, -⟩ := id his5; obtain ⟨s0, s1, s2, sf⟩ := HV5.out.res.1.facts; obtain ⟨t0, t1, t2, tf⟩ := HV5.out.res.2.facts; have HI5 := Lib.hid his5; clear his5))
    all_goals
      go_wp2_with fail
      refine bodyPost_ret (v := .tuple #[.agg #[.int .i64 e.kind, .string e.name, .slice A2 e.args.length c2], .agg #[.int .i64 e5.kind, .string e5.name, .slice A5 e5.args.length c5]]) (by simp [results, Try.results23, go_sem, s0, s1, s2, t0, t1, t2]) rfl ?_
      exact Vq.fin HV5.out HI5.out HG5.out ⟨by have := HT.out.1; omega, HT.out.2⟩ (by have := HT5.out.1; omega)
  · go_wp2_with fail
    go_region_held3 (fun X => X.cell? ⟨w2.heap.size, 0, none⟩ = some (.int .i64 e.kind) ∧ X.cell? ⟨w2.heap.size, 1, none⟩ = some (.string e.name) ∧ X.cell? ⟨w2.heap.size, 2, none⟩ = some (.slice A2 e.args.length c2))
      (first
      | with_reducible exact HCE.out _ HQ0.out
      | with_reducible exact HCE.out _ HQ.out
      | with_reducible exact HCE.out _ ((cell3_far hwc _ _ _).trans HQ.out)
      | with_reducible exact HCE.out _ ((cell3_far hwd _ _ _).trans ((cell3_far hwc _ _ _).trans HQ.out)))
      (first
      | (go_at_call 67; refine (HCY.out w3.drew (Below.refl _ _).drew).mono ?_; rintro r w5 ⟨_, bs5, rfl, his5, hge5, hb5⟩; have HQ := Lib.hid (block_eq (hb5.block w2.heap.size HV3.out.box.lt)); have HV5 := Lib.hid (Vq.below (HV3.out.below (Below.refl _ _).drew) hb5); have HT5 := Lib.hid HT.out; have HG5 := Lib.hid (high_of' hlo2 hge5); clear hge5 hb5; obtain ⟨⟨_, rfl, -, A5, c5, rfl, -⟩, -⟩ := id his5; obtain ⟨s0, s1, s2, sf⟩ := HV5.out.res.1.facts; obtain ⟨t0, t1, t2, tf⟩ := HV5.out.res.2.facts; have HI5 := Lib.hid his5; clear his5))
    all_goals
      go_wp2_with fail
      refine bodyPost_ret (v := .tuple #[.agg #[.int .i64 e.kind, .string e.name, .slice A2 e.args.length c2], .agg #[.int .i64 e.kind, .string e.name, .slice A5 e.args.length c5]]) (by simp [results, Try.results23, go_sem, s0, s1, s2, t0, t1, t2]) rfl ?_
      exact Vq.fin HV5.out HI5.out HG5.out ⟨by have := HT.out.1; omega, HT.out.2⟩ (by have := HT5.out.1; omega)
end Go.Proofs.Ytmndlhbgacgnlaa
