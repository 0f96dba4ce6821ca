/- The walk of the law FnExactFormatRule, from a contract of the program's own function. Conditions: that contract; the argument lies in memory. -/
import Derived.Test.YtliifdiajcahdaaRuCopy
import Derived.Test.YtliifdiajcahdaaRuEq
import Derived.Test.YtliifdiajcahdaaSpecRuText
import Derived.Test.YtliifdiajcahdaaLawSizes
namespace Go.Proofs.Ytliifdiajcahdaa
open Go Go.RowKit

def Cell7 (W : World) (g : Nat) (x0 x1 x2 x3 x4 x5 x6 : Value) : Prop := W.cell? ⟨g, 0, none⟩ = some x0 ∧ W.cell? ⟨g, 1, none⟩ = some x1 ∧ W.cell? ⟨g, 2, none⟩ = some x2 ∧ W.cell? ⟨g, 3, none⟩ = some x3 ∧ W.cell? ⟨g, 4, none⟩ = some x4 ∧ W.cell? ⟨g, 5, none⟩ = some x5 ∧ W.cell? ⟨g, 6, none⟩ = some x6
theorem Box7.cell7 {W : World} {B : Nat} {T : TypeId} {x0 x1 x2 x3 x4 x5 x6 : Value} (h : Box7 W B T x0 x1 x2 x3 x4 x5 x6) : Cell7 W B x0 x1 x2 x3 x4 x5 x6 := by
  unfold Box7 at h
  refine ⟨?_, ?_, ?_, ?_, ?_, ?_, ?_⟩ <;> (rw [World.cell?, h]; rfl)
theorem Box7.on {W W2 : World} {B : Nat} {T : TypeId} {x0 x1 x2 x3 x4 x5 x6 : Value} (h : Box7 W B T x0 x1 x2 x3 x4 x5 x6) (hb : Below W.heap.size W W2) : Box7 W2 B T x0 x1 x2 x3 x4 x5 x6 := (hb.block B h.lt).trans h
/-- Two rules in boxes, and what lies below. -/
def Two7 (wr X : World) (g h : Nat) (x0 x1 x2 x3 x4 x5 x6 y0 y1 y2 y3 y4 y5 y6 : Value) : Prop :=
  X.cell? ⟨g, 0, none⟩ = some x0 ∧ X.cell? ⟨g, 1, none⟩ = some x1 ∧ X.cell? ⟨g, 2, none⟩ = some x2 ∧ X.cell? ⟨g, 3, none⟩ = some x3 ∧ X.cell? ⟨g, 4, none⟩ = some x4 ∧ X.cell? ⟨g, 5, none⟩ = some x5 ∧ X.cell? ⟨g, 6, none⟩ = some x6 ∧
  X.cell? ⟨h, 0, none⟩ = some y0 ∧ X.cell? ⟨h, 1, none⟩ = some y1 ∧ X.cell? ⟨h, 2, none⟩ = some y2 ∧ X.cell? ⟨h, 3, none⟩ = some y3 ∧ X.cell? ⟨h, 4, none⟩ = some y4 ∧ X.cell? ⟨h, 5, none⟩ = some y5 ∧ X.cell? ⟨h, 6, none⟩ = some y6 ∧ Hid (Below wr.heap.size wr X)
theorem two_start {wr : World} {g h : Nat} {T U : TypeId} {x0 x1 x2 x3 x4 x5 x6 y0 y1 y2 y3 y4 y5 y6 : Value} (H : Hid (Box7 wr g T x0 x1 x2 x3 x4 x5 x6 ∧ Box7 wr h U y0 y1 y2 y3 y4 y5 y6)) : Two7 wr wr.drew g h x0 x1 x2 x3 x4 x5 x6 y0 y1 y2 y3 y4 y5 y6 := by
  obtain ⟨a0, a1, a2, a3, a4, a5, a6⟩ := H.out.1.cell7
  obtain ⟨b0, b1, b2, b3, b4, b5, b6⟩ := H.out.2.cell7
  exact ⟨a0, a1, a2, a3, a4, a5, a6, b0, b1, b2, b3, b4, b5, b6, Lib.hid (Below.refl _ _).drew⟩
theorem two_step {wr X w2 : World} {g h : Nat} {T U : TypeId} {x0 x1 x2 x3 x4 x5 x6 y0 y1 y2 y3 y4 y5 y6 : Value} (H : Hid (Box7 wr g T x0 x1 x2 x3 x4 x5 x6 ∧ Box7 wr h U y0 y1 y2 y3 y4 y5 y6)) (hb : Below X.heap.size X w2) (hX : Two7 wr X g h x0 x1 x2 x3 x4 x5 x6 y0 y1 y2 y3 y4 y5 y6) : Two7 wr w2 g h x0 x1 x2 x3 x4 x5 x6 y0 y1 y2 y3 y4 y5 y6 := by
  obtain ⟨-, -, -, -, -, -, -, -, -, -, -, -, -, -, HB⟩ := hX
  have hh := HB.out.trans (hb.mono HB.out.size)
  obtain ⟨a0, a1, a2, a3, a4, a5, a6⟩ := (H.out.1.on hh).cell7
  obtain ⟨b0, b1, b2, b3, b4, b5, b6⟩ := (H.out.2.on hh).cell7
  exact ⟨a0, a1, a2, a3, a4, a5, a6, b0, b1, b2, b3, b4, b5, b6, Lib.hid hh⟩
theorem Two7.low {wr X : World} {g h : Nat} {x0 x1 x2 x3 x4 x5 x6 y0 y1 y2 y3 y4 y5 y6 : Value} (H : Two7 wr X g h x0 x1 x2 x3 x4 x5 x6 y0 y1 y2 y3 y4 y5 y6) : Below wr.heap.size wr X := H.2.2.2.2.2.2.2.2.2.2.2.2.2.2.out

set_option maxRecDepth 100000 in
set_option maxHeartbeats 4000000 in
theorem lawrutext (r : Ru) (v : Value) (bs : List Nat) (w : World) (hv : RuIs w v r bs)
    (hO : ∀ (v2 : Value) (b2 : List Nat) (W : World), RuIs W v2 r b2 → ruTot r ≤ 1048576 → Calls Try.prog 30 #[v2] W (RetPost (.string (ruStr r)) W)) :
    Calls Try.prog 7 #[v] w (TrueX w) := by
  have HZ := Lib.hid (fun (W : World) (hb : Below w.heap.size w W) => sz_rule r v bs W 1048576 (hv.below hb) (by omega) (by omega))
  have HC := Lib.hid (fun (ht : ruTot r ≤ 1048576) (W : World) (hb : Below w.heap.size w W) => copy_rule r v bs W (hv.below hb) (small_of ht))
  have HO := Lib.hid hO
  have HP := Lib.hid (fun (ht : ruTot r ≤ 1048576) (v2 : Value) (b2 : List Nat) (W : World) (h : RuIs W v2 r b2) => spec_rutext r v2 b2 W h ht)
  have HQ := Lib.hid (fun (v6 : Value) (b6 b4 : List Nat) (v4 : Value) (W : World) (ht : ruTot r ≤ 1048576) (h4 : RuIs W v4 r b4) (h6 : RuIs W v6 r b6) => eq_rule r v4 v6 b4 b6 W h4 h6 (by unfold ruTot ssTot at ht; omega) (by unfold ruTot ssTot at ht; omega))
  clear hO
  obtain ⟨A1, n1, c1, A2, n2, c2, A3, n3, c3, rfl⟩ := ru_val hv
  clear hv
  generalize ruStr r = R at *
  have HB0 := Lib.hid ((Below.refl w.heap.size w).alloc (Nat.le_refl _) (.cells #[.string r.name, .string r.con, .slice A1 n1 c1, .slice A2 n2 c2, .int .i64 r.body.kind, .string r.body.name, .slice A3 n3 c3] 55))
  have HBX := Lib.hid (fun (W : World) (h : Below (w.alloc (.cells #[.string r.name, .string r.con, .slice A1 n1 c1, .slice A2 n2 c2, .int .i64 r.body.kind, .string r.body.name, .slice A3 n3 c3] 55)).heap.size (w.alloc (.cells #[.string r.name, .string r.con, .slice A1 n1 c1, .slice A2 n2 c2, .int .i64 r.body.kind, .string r.body.name, .slice A3 n3 c3] 55)) W) => box7_new h)
  go_enter Try.func7, Try.ntmps7
  go_wp2_with fail
  go_at_call 27
  refine (HZ.out _ HB0.out).mono ?_
  rintro e w1 ⟨z, rfl, hb1, hz⟩
  have HB1 := Lib.hid hb1
  clear hb1 HZ
  rcases hz with ⟨rfl, -⟩ | ⟨hz0, hz⟩
  · go_wp2_with fail
    go_ret
    exact ⟨rfl, box_low HB1.out⟩
  have hsz : ruTot r ≤ 1048576 := by omega
  have HSZ := Lib.hid hsz
  clear hz hsz
  obtain ⟨x0, x1, x2, x3, x4, x5, x6⟩ := (HBX.out w1 HB1.out).cell7
  go_wp2_with fail
  go_at_call 29
  refine (HC.out HSZ.out w1 (box_low HB1.out)).mono ?_
  rintro e w2 ⟨v2, b2, rfl, hs2, -, hb2⟩
  obtain ⟨E1, p1, q1, E2, p2, q2, E3, p3, q3, rfl⟩ := ru_val hs2
  have HB2 := Lib.hid (HB1.out.trans (hb2.mono HB1.out.size))
  have HS2 := Lib.hid hs2
  clear hs2 hb2 x0 x1 x2 x3 x4 x5 x6
  go_wp2_with fail
  go_at_call 28
  refine (HP.out HSZ.out _ b2 w2 HS2.out).mono ?_
  rintro e w3 ⟨rfl, hb3⟩
  have HB3 := Lib.hid (HB2.out.trans (hb3.mono HB2.out.size))
  clear hb3 HS2
  obtain ⟨x0, x1, x2, x3, x4, x5, x6⟩ := (HBX.out w3 HB3.out).cell7
  go_wp2_with fail
  go_at_call 29
  refine (HC.out HSZ.out w3 (box_low HB3.out)).mono ?_
  rintro e w4 ⟨v4, b4, rfl, hs4, -, hb4⟩
  obtain ⟨F1, s1, t1, F2, s2, t2, F3, s3, t3, rfl⟩ := ru_val hs4
  have HS4 := Lib.hid (hs4.below ((Below.refl w4.heap.size w4).alloc (Nat.le_refl _) (.cells #[.string r.name, .string r.con, .slice F1 s1 t1, .slice F2 s2 t2, .int .i64 r.body.kind, .string r.body.name, .slice F3 s3 t3] 59)))
  have HB4 := Lib.hid (HB3.out.trans (hb4.mono HB3.out.size))
  clear hs4 hb4 x0 x1 x2 x3 x4 x5 x6
  go_wp2_with fail
  go_at_call 30
  refine (HO.out _ b4 _ HS4.out HSZ.out).mono ?_
  rintro e w5 ⟨rfl, hb5⟩
  have hy := box7_new hb5
  have HB5 := Lib.hid (HB4.out.trans ((box_low hb5).mono HB4.out.size))
  have HS5 := Lib.hid (HS4.out.below hb5)
  have H2 := Lib.hid (And.intro (HBX.out w5 HB5.out) hy)
  obtain ⟨x0, x1, x2, x3, x4, x5, x6⟩ := (HBX.out w5 HB5.out).cell7
  obtain ⟨y0, y1, y2, y3, y4, y5, y6⟩ := hy.cell7
  clear hb5 HS4 hy
  have HC5 := Lib.hid (fun (W : World) (h : Below w5.heap.size w5 W) => HC.out HSZ.out W (box_low (HB5.out.trans (h.mono HB5.out.size))))
  have HE5 := Lib.hid (fun (v6 : Value) (b6 : List Nat) (W : World) (h : Below w5.heap.size w5 W) (h6 : RuIs W v6 r b6) => HQ.out v6 b6 b4 _ W HSZ.out (HS5.out.below h) h6)
  go_wp2_with fail
  go_region_held3 (fun X => X.cell? ⟨w.heap.size, 0, none⟩ = some (.string r.name) ∧ X.cell? ⟨w.heap.size, 1, none⟩ = some (.string r.con) ∧ X.cell? ⟨w.heap.size, 2, none⟩ = some (.slice A1 n1 c1) ∧ X.cell? ⟨w.heap.size, 3, none⟩ = some (.slice A2 n2 c2) ∧ X.cell? ⟨w.heap.size, 4, none⟩ = some (.int .i64 r.body.kind) ∧ X.cell? ⟨w.heap.size, 5, none⟩ = some (.string r.body.name) ∧ X.cell? ⟨w.heap.size, 6, none⟩ = some (.slice A3 n3 c3) ∧
      X.cell? ⟨w4.heap.size, 0, none⟩ = some (.string r.name) ∧ X.cell? ⟨w4.heap.size, 1, none⟩ = some (.string r.con) ∧ X.cell? ⟨w4.heap.size, 2, none⟩ = some (.slice F1 s1 t1) ∧ X.cell? ⟨w4.heap.size, 3, none⟩ = some (.slice F2 s2 t2) ∧ X.cell? ⟨w4.heap.size, 4, none⟩ = some (.int .i64 r.body.kind) ∧ X.cell? ⟨w4.heap.size, 5, none⟩ = some (.string r.body.name) ∧ X.cell? ⟨w4.heap.size, 6, none⟩ = some (.slice F3 s3 t3) ∧ Hid (Below w5.heap.size w5 X))
    (first | exact two_start H2 | exact two_step H2 hb6 (by assumption) | exact two_step H2 hb7 (by assumption))
    (first
      | (go_at_call 29; have hh := (show Two7 w5 _ w.heap.size w4.heap.size _ _ _ _ _ _ _ _ _ _ _ _ _ _ by assumption).low; refine (HC5.out _ hh).mono ?_; rintro e w6 ⟨v6, b6, rfl, hs6, -, hb6⟩; obtain ⟨G1, i1, j1, G2, i2, j2, G3, i3, j3, rfl⟩ := ru_val hs6; clear hh)
      | (go_at_call 31; have hh := (show Two7 w5 w6 w.heap.size w4.heap.size _ _ _ _ _ _ _ _ _ _ _ _ _ _ by assumption).low; refine (HE5.out _ b6 _ hh hs6).mono ?_; clear hh; rintro e w7 ⟨rfl, hb7⟩))
  all_goals
    have hx := (show Two7 w5 w7 w.heap.size w4.heap.size _ _ _ _ _ _ _ _ _ _ _ _ _ _ by assumption).low
    have HX7 := Lib.hid (box_low (HB5.out.trans (hx.mono HB5.out.size)))
    clear hx
    go_wp2_with fail
    go_ret
    exact ⟨rfl, HX7.out⟩
end Go.Proofs.Ytliifdiajcahdaa
