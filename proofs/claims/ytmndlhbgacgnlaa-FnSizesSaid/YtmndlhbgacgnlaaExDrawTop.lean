/- The contracts of the model's draws DrawIsValidExpr and DrawIsData. Condition: the code is at most 1048576 bytes long. -/
import Derived.Test.YtmndlhbgacgnlaaExBent
namespace Go.Proofs.Ytmndlhbgacgnlaa
open Go Go.RowKit

/-- What a draw of one expression gives. -/
def DrawXPost (w : World) (r : Ending) (w' : World) : Prop := ∃ v e bs, r = .returned v ∧ ExIs w' v e bs ∧ exTot e ≤ 200 ∧ Below w.heap.size w w'

/-- The expression in its box, and the result's box. -/
structure Ve (w : World) (b : Nat) (e : Ex) (u : Value) (bs : List Nat) (W : World) : Prop where
  low : Below (w.heap.size + 1) (w.alloc (.cells #[.int .i64 0, .string ⟨#[]⟩, .slice none 0 0] 26)) W
  box : Box W b (.int .i64 e.kind) (.string e.name) u
  is : ExIs W (.agg #[.int .i64 e.kind, .string e.name, u]) e bs
  hb : w.heap.size < b
  no : b ∉ bs ∧ w.heap.size ∉ bs
theorem Ve.res {w : World} {b : Nat} {e : Ex} {u : Value} {bs : List Nat} {W : World} (h : Ve w b e u bs W) : Box W w.heap.size (.int .i64 0) (.string ⟨#[]⟩) (.slice none 0 0) :=
  (h.low.block w.heap.size (by omega)).trans (Row.new w 26 [.int .i64 0, .string ⟨#[]⟩, .slice none 0 0])
theorem Ve.only {w : World} {b : Nat} {e : Ex} {u : Value} {bs : List Nat} {W W2 : World} {g : Nat} (h : Ve w b e u bs W) (hg : w.heap.size < g) (hbg : b ≠ g) (hn : g ∉ bs) (ho : Only g W W2) : Ve w b e u bs W2 :=
  ⟨h.low.trans (ho.below hg (Nat.le_trans (by simp) h.low.size)), Row.only h.box ho hbg, h.is.only ho hn, h.hb, h.no⟩
theorem set3_keeps {W : World} {b : Nat} {bs : List Nat} (hb : b ∉ bs) (v0 v1 v2 : Value) : Keeps W (set3 W b v0 v1 v2) bs := by
  have hne : ∀ x ∈ bs, x ≠ b := fun x hx e => hb (by rw [e] at hx; exact hx)
  unfold set3
  exact keeps_on (keeps_on (keeps_set (fun x hx => hne x hx)) (keeps_set (fun x hx => hne x hx))) (keeps_set (fun x hx => hne x hx))
theorem set3_low {B b : Nat} {w W : World} (h : Below B w W) (hb : B ≤ b) (v0 v1 v2 : Value) : Below B w (set3 W b v0 v1 v2) := ((h.setCell hb v0).setCell hb v1).setCell hb v2
theorem set3_box {W : World} {b : Nat} {u0 u1 u2 v0 v1 v2 : Value} (h : Box W b u0 u1 u2) : Box (set3 W b v0 v1 v2) b v0 v1 v2 := by
  unfold Box Row set3 at *
  rw [row_set (row_set (row_set h 0 v0) 1 v1) 2 v2]
  simp
theorem Ve.wrap {w : World} {b : Nat} {e : Ex} {u : Value} {bs : List Nat} {W : World} (h : Ve w b e u bs W) :
    Ve w b (.mk 2 ⟨#[83]⟩ [e]) (.slice (some ⟨W.heap.size, 0, none⟩) 1 1) (W.heap.size :: bs) ((set3 W b (.int .i64 2) (.string ⟨#[83]⟩) (.slice (some ⟨W.heap.size, 0, none⟩) 1 1)).alloc (.cells #[.int .i64 e.kind, .string e.name, u] 26)) := by
  have hW := h.box.lt
  have hr := h.res.lt
  have hb := h.hb
  have hbx := set3_box (v0 := .int .i64 2) (v1 := .string ⟨#[83]⟩) (v2 := .slice (some ⟨W.heap.size, 0, none⟩) 1 1) h.box
  have hlo := set3_low h.low (show w.heap.size + 1 ≤ b by omega) (.int .i64 2) (.string ⟨#[83]⟩) (.slice (some ⟨W.heap.size, 0, none⟩) 1 1)
  have hz : (set3 W b (.int .i64 2) (.string ⟨#[83]⟩) (.slice (some ⟨W.heap.size, 0, none⟩) 1 1)).heap.size = W.heap.size := by simp [set3, World.setCell]
  have hi := h.is.keeps (set3_keeps h.no.1 (.int .i64 2) (.string ⟨#[83]⟩) (.slice (some ⟨W.heap.size, 0, none⟩) 1 1))
  generalize set3 W b (.int .i64 2) (.string ⟨#[83]⟩) (.slice (some ⟨W.heap.size, 0, none⟩) 1 1) = W2 at *
  rw [← hz] at hW hr hbx ⊢
  have hn := one_is (k := 2) (s := ⟨#[83]⟩) (by decide) (Row.new W2 26 [.int .i64 e.kind, .string e.name, u]) (hi.below ((Below.refl _ _).alloc (Nat.le_refl _) _))
  refine ⟨hlo.alloc (Nat.le_trans (by simp) hlo.size) _, Row.alloc hbx _, hn, h.hb, fun hx => ?_, fun hx => ?_⟩
  · rcases List.mem_cons.1 hx with hx | hx
    · omega
    · exact h.no.1 hx
  · rcases List.mem_cons.1 hx with hx | hx
    · omega
    · exact h.no.2 hx
theorem Ve.fin {w : World} {b : Nat} {e : Ex} {u : Value} {bs : List Nat} {W : World} (h : Ve w b e u bs W) (ht : exTot e ≤ 200) : DrawXPost w (.returned (.agg #[.int .i64 e.kind, .string e.name, u])) (set3 W w.heap.size (.int .i64 e.kind) (.string e.name) u) :=
  ⟨_, e, bs, rfl, h.is.keeps (set3_keeps h.no.2 _ _ _), ht, set3_low (((Below.refl w.heap.size w).alloc (Nat.le_refl _) _).trans (h.low.mono (Nat.le_succ _))) (Nat.le_refl _) _ _ _⟩

set_option maxHeartbeats 4000000 in
theorem draw_valid (A : Option Addr) (zs : List Int) (cap : Nat) (w : World) (hs : Bytes w w.heap.size A zs) (hn : zs.length ≤ 1048576) :
    Calls Try.prog 12 #[.slice A zs.length cap] w (DrawXPost w) := by
  have HW0 := Lib.hid ((Below.refl w.heap.size w).alloc (Nat.le_refl _) (.cells #[.int .i64 0, .string ⟨#[]⟩, .slice none 0 0] 26))
  have HS := Lib.hid (show Bytes (w.alloc (.cells #[.int .i64 0, .string ⟨#[]⟩, .slice none 0 0] 26)) (w.heap.size + 1) A zs from fun i z hz => by
    obtain ⟨a, h1, h2, h3, h4, h5⟩ := (hs.below HW0.out) i z hz
    exact ⟨a, h1, h2, h3, h4, by omega⟩)
  have HNW := Lib.hid (new_any (w.heap.size + 1) A zs cap _ HS.out (by simp) hn)
  have HN := Lib.hid hn
  clear hs hn
  go_enter Try.func12, Try.ntmps12
  go_wp2_with fail
  go_at_call 53
  refine HNW.out.mono ?_
  rintro r w1 ⟨g, rfl, hc1, hg, hb1⟩
  have hs1 := HS.out.below hb1
  have hgl := hc1.lt
  have HB1 := Lib.hid hb1
  have HC := Lib.hid (fun (lim : Int) (W : World) (hc : Cur W g A zs.length cap) (ho : Only g w1 W) (h0 : 1 ≤ lim) (h1 : lim ≤ 256) => once_any (w.heap.size + 1) g A zs cap lim W (hs1.only ho hg (by omega)) hg hc HN.out h0 h1)
  have HL := Lib.hid (fun (lim : Int) (W : World) (hc : Cur W g A zs.length cap) (ho : Only g w1 W) (h0 : 1 ≤ lim) (h1 : lim ≤ 256) => below_small (w.heap.size + 1) g A zs cap lim W (hs1.only ho hg (by omega)) hg hc HN.out h0 h1)
  have HD := Lib.hid (bent_any (w.heap.size + 1) g A zs cap w1 hs1 hg hc1 HN.out)
  clear hc1 hs1 hb1 HNW
  go_wp2_with fail
  go_at_call 54
  refine HD.out.mono ?_
  rintro r w2 ⟨_, e, bs, rfl, his, hge, ht, hc2, ho2⟩
  obtain ⟨_, rfl, -, A2, c2, rfl, -⟩ := id his
  have hz2 := ho2.size
  have HT := Lib.hid ht
  have HV := Lib.hid (show Ve w w2.heap.size e (.slice A2 e.args.length c2) bs (w2.alloc (.cells #[.int .i64 e.kind, .string e.name, .slice A2 e.args.length c2] 26)) from
    ⟨(HB1.out.trans (ho2.below (by omega) (by omega))).alloc (by omega) _, Row.new w2 _ [.int .i64 e.kind, .string e.name, .slice A2 e.args.length c2], his.below ((Below.refl _ _).alloc (Nat.le_refl _) _), by omega, fun hx => Nat.lt_irrefl _ (his.lt _ hx), fun hx => by have := hge _ hx; omega⟩)
  have hgb : w2.heap.size ≠ g := by omega
  have hgn : g ∉ bs := fun hx => by have := hge _ hx; omega
  have HO2 := Lib.hid (And.intro (hc2.alloc (.cells #[.int .i64 e.kind, .string e.name, .slice A2 e.args.length c2] 26)) (ho2.alloc (.cells #[.int .i64 e.kind, .string e.name, .slice A2 e.args.length c2] 26)))
  clear his hge ht hc2 ho2 HD
  go_wp2_with fail
  go_at_call 55
  refine (HC.out 8 _ HO2.out.1 HO2.out.2 (by decide) (by decide)).mono ?_
  rintro r w3 ⟨x, rfl, hc3, ho3⟩
  have HO3 := Lib.hid (And.intro hc3 (HO2.out.2.trans ho3))
  have HV3 := Lib.hid (HV.out.only (by omega) hgb hgn ho3)
  clear hc3 ho3 HV HO2
  have hwb : w.heap.size ≠ w2.heap.size := by omega
  have hwc : w2.heap.size ≠ w.heap.size := by omega
  cases x
  · obtain ⟨c0, c1, c2', cf⟩ := HV3.out.box.facts
    obtain ⟨b0, b1, b2, bf⟩ := HV3.out.res.facts
    go_wp2_with fail
    refine bodyPost_ret (v := .agg #[.int .i64 e.kind, .string e.name, .slice A2 e.args.length c2]) (by simp [results, Try.results12, go_sem, b0, b1, b2]) rfl ?_
    exact Ve.fin HV3.out (by have := HT.out; omega)
  · go_wp2_with fail
    go_at_call 56
    refine (HL.out 5 _ HO3.out.1 HO3.out.2 (by decide) (by decide)).mono ?_
    rintro r w4 ⟨m, rfl, m0, m1, hc4, ho4⟩
    have HV4 := Lib.hid (HV3.out.only (by omega) hgb hgn ho4)
    clear hc4 ho4 HV3 HO3
    go_wp2_with fail
    obtain ⟨b, hb⟩ : ∃ b, b = w2.heap.size := ⟨_, rfl⟩
    rw [← hb] at HV4
    clear HC HL
    go_loopw [6] (fun i wr => ∃ (k : Nat) (e : Ex) (A2 : Option Addr) (c2 : Nat) (bs : List Nat), (k : Int) ≤ 20 + m ∧ i = .int .i64 (k : Int) ∧ exTot e ≤ 140 + 2 * k ∧ Hid (Ve w w2.heap.size e (.slice A2 e.args.length c2) bs wr)) (fun i _ => (20 + m).toNat - (intOf i).toNat)
    case atStart => exact ⟨0, e, A2, c2, bs, by omega, rfl, by have := HT.out; omega, by rw [← hb]; exact HV4⟩
    case round =>
      clear HV4
      obtain ⟨k, e, A2, c2, bs, hk, rfl, ht, HV⟩ := hrel
      obtain ⟨c0, c1, c2', cf⟩ := HV.out.box.facts
      have hbl := HV.out.box.lt
      by_cases hlt : (k : Int) < 20 + m
      · have HV2 := Lib.hid HV.out.wrap
        have hnl : w2.heap.size ≠ wr.heap.size := by omega
        go_wp2_with fail
        go_roundw
        case rel => exact ⟨k + 1, .mk 2 ⟨#[83]⟩ [e], _, 1, _, by omega, by go_num, by simp [exTot, exTots]; have h1 : (⟨#[83]⟩ : ByteArray).size = 1 := rfl; omega, HV2⟩
        case measure => simp [intOf]; omega
      · obtain ⟨b0, b1, b2, bf⟩ := HV.out.res.facts
        go_wp2_with fail
        refine bodyPost_ret (v := .agg #[.int .i64 e.kind, .string e.name, .slice A2 e.args.length c2]) (by simp [results, Try.results12, go_sem, b0, b1, b2]) rfl ?_
        exact Ve.fin HV.out (by omega)

set_option maxHeartbeats 1000000 in
theorem draw_data (A : Option Addr) (zs : List Int) (cap : Nat) (w : World) (hs : Bytes w w.heap.size A zs) (hn : zs.length ≤ 1048576) :
    Calls Try.prog 22 #[.slice A zs.length cap] w (DrawXPost w) := by
  have HW0 := Lib.hid ((Below.refl w.heap.size w).alloc (Nat.le_refl _) (.cells #[.int .i64 0, .string ⟨#[]⟩, .slice none 0 0] 26))
  have HS := Lib.hid (show Bytes (w.alloc (.cells #[.int .i64 0, .string ⟨#[]⟩, .slice none 0 0] 26)) (w.heap.size + 1) A zs from fun i z hz => by
    obtain ⟨a, h1, h2, h3, h4, h5⟩ := (hs.below HW0.out) i z hz
    exact ⟨a, h1, h2, h3, h4, by omega⟩)
  have HNW := Lib.hid (new_any (w.heap.size + 1) A zs cap _ HS.out (by simp) hn)
  have HN := Lib.hid hn
  clear hs hn
  go_enter Try.func22, Try.ntmps22
  go_wp2_with fail
  go_at_call 53
  refine HNW.out.mono ?_
  rintro r w1 ⟨g, rfl, hc1, hg, hb1⟩
  have hgl := hc1.lt
  have HB1 := Lib.hid hb1
  have HD := Lib.hid (bent_any (w.heap.size + 1) g A zs cap w1 (HS.out.below hb1) hg hc1 HN.out)
  clear hc1 hb1 HNW
  go_wp2_with fail
  go_at_call 54
  refine HD.out.mono ?_
  rintro r w2 ⟨_, e, bs, rfl, his, hge, ht, hc2, ho2⟩
  obtain ⟨_, rfl, -, A2, c2, rfl, -⟩ := id his
  have hb2 := HB1.out.trans (ho2.below (B := w.heap.size + 1) (by omega) (by omega))
  have hres := Box.facts (show Box w2 w.heap.size (.int .i64 0) (.string ⟨#[]⟩) (.slice none 0 0) from (hb2.block w.heap.size (by omega)).trans (Row.new w 26 [.int .i64 0, .string ⟨#[]⟩, .slice none 0 0]))
  obtain ⟨b0, b1, b2, bf⟩ := hres
  have HF := Lib.hid (And.intro his (And.intro hge (And.intro ht hb2)))
  clear his hge ht hc2 ho2 hb2 HD
  go_wp2_with fail
  refine bodyPost_ret (v := .agg #[.int .i64 e.kind, .string e.name, .slice A2 e.args.length c2]) (by simp [results, Try.results22, go_sem, b0, b1, b2]) rfl ?_
  exact ⟨_, e, bs, rfl, HF.out.1.keeps (set3_keeps (fun hx => by have := HF.out.2.1 _ hx; omega) _ _ _), by have := HF.out.2.2.1; omega, set3_low (HW0.out.trans (HF.out.2.2.2.mono (Nat.le_succ _))) (Nat.le_refl _) _ _ _⟩
end Go.Proofs.Ytmndlhbgacgnlaa
