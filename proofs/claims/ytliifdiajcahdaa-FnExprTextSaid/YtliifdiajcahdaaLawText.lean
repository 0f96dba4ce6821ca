/- FnExactFormatExpr, from a contract of the program's own FormatExpr. Condition: that contract; the argument lies in memory as an expression. -/
import Derived.Test.YtliifdiajcahdaaLawSizes
import Derived.Test.YtliifdiajcahdaaSpecText
namespace Go.Proofs.Ytliifdiajcahdaa
open Go Go.RowKit

set_option maxHeartbeats 4000000 in
theorem lawformat (e : Ex) (v : Value) (bs : List Nat) (w : World) (hv : ExIs w v e bs)
    (hO : ∀ (v2 : Value) (b2 : List Nat) (W : World), ExIs W v2 e b2 → exTot e ≤ 1048576 → Calls Try.prog 10 #[v2] W (RetPost (.string (exFmt e)) W)) :
    Calls Try.prog 4 #[v] w (TrueX w) := by
  have HZ := Lib.hid (fun (W : World) (hb : Below w.heap.size w W) => sz_expr e v bs W 1048576 (hv.below hb) (by omega) (by omega))
  have HC := Lib.hid (fun (ht : exTot e ≤ 1048576) (W : World) (hb : Below w.heap.size w W) => copy_expr e v bs W (hv.below hb) (tot_small ht))
  have HO := Lib.hid hO
  have HP := Lib.hid (fun (ht : exTot e ≤ 1048576) (v2 : Value) (b2 : List Nat) (W : World) (h : ExIs W v2 e b2) => (format_any e v2 b2 W h ht))
  clear hO
  obtain ⟨u, rfl, -, hu⟩ := hv
  obtain ⟨A, c, rfl, -⟩ := id hu
  clear hu
  generalize exFmt e = R at *
  go_enter Try.func4, Try.ntmps4
  have HBX := Lib.hid (box_cells w e.kind e.name (.slice A e.args.length c))
  go_wp2_with fail
  go_at_call 17
  refine (HZ.out _ ((Below.refl _ _).alloc (Nat.le_refl _) _)).mono ?_
  rintro r w1 ⟨z, rfl, hb1, hz⟩
  have HB1 := Lib.hid hb1
  clear hb1 HZ
  rcases hz with ⟨rfl, -⟩ | ⟨hz0, hz⟩
  · go_wp2_with fail
    go_ret
    exact ⟨rfl, (Below.refl w.heap.size w).alloc (Nat.le_refl _) _ |>.trans (HB1.out.mono (by simp))⟩
  have hsz : exTot e ≤ 1048576 := by omega
  have HC2 := Lib.hid (fun (W : World) (hb : Below (w.heap.size + 1) (w.alloc (.cells #[.int .i64 e.kind, .string e.name, .slice A e.args.length c] 36)) W) => HC.out hsz W (((Below.refl w.heap.size w).alloc (Nat.le_refl _) _).trans (hb.mono (by omega))))
  have HSZ := Lib.hid hsz
  clear hz HC hsz
  have HW1 := Lib.hid (show Below (w.heap.size + 1) (w.alloc (.cells #[.int .i64 e.kind, .string e.name, .slice A e.args.length c] 36)) w1 by simpa using HB1.out)
  have hl1 : w.heap.size + 1 ≤ w1.heap.size := by have := HW1.out.size; simpa using this
  clear HB1
  obtain ⟨x0, x1, x2⟩ := HBX.out w1 HW1.out
  go_wp2_with fail
  go_at_call 18
  refine (HC2.out w1 HW1.out).mono ?_
  rintro r w2 ⟨v2, b2, rfl, hs2, -, hb2⟩
  obtain ⟨u2, rfl, -, hu2⟩ := id hs2
  obtain ⟨A2, c2, rfl, -⟩ := id hu2
  have HW2 := Lib.hid (HW1.out.trans (hb2.mono hl1))
  have hl2 := Nat.le_trans hl1 hb2.size
  have HS2 := Lib.hid hs2
  clear hs2 hu2 hb2 x0 x1 x2
  go_wp2_with fail
  go_at_call 12
  refine (HP.out HSZ.out _ b2 w2 HS2.out).mono ?_
  rintro r w3 ⟨rfl, hb3⟩
  have HW3 := Lib.hid (HW2.out.trans (hb3.mono hl2))
  have hl3 := Nat.le_trans hl2 hb3.size
  clear hb3 HS2 HW2
  obtain ⟨x0, x1, x2⟩ := HBX.out w3 HW3.out
  go_wp2_with fail
  go_at_call 18
  refine (HC2.out w3 HW3.out).mono ?_
  rintro r w4 ⟨v4, b4, rfl, hs4, -, hb4⟩
  obtain ⟨u4, rfl, -, hu4⟩ := id hs4
  obtain ⟨A4, c4, rfl, -⟩ := id hu4
  have HW4 := Lib.hid (HW3.out.trans (hb4.mono hl3))
  have hl4 := Nat.le_trans hl3 hb4.size
  have HS4 := Lib.hid (hs4.below ((Below.refl w4.heap.size w4).alloc (Nat.le_refl _) (.cells #[.int .i64 e.kind, .string e.name, .slice A4 e.args.length c4] 26)))
  clear hs4 hu4 hb4 x0 x1 x2
  go_wp2_with fail
  go_at_call 10
  refine (HO.out _ b4 _ HS4.out HSZ.out).mono ?_
  rintro r w5 ⟨rfl, hb5⟩
  have HX5 := Lib.hid (show w5.cell? ⟨w4.heap.size, 0, none⟩ = some (.int .i64 e.kind) ∧ w5.cell? ⟨w4.heap.size, 1, none⟩ = some (.string e.name) ∧ w5.cell? ⟨w4.heap.size, 2, none⟩ = some (.slice A4 e.args.length c4) from box_cells2 w4 e.kind e.name (.slice A4 e.args.length c4) w5 hb5)
  have HW5 := Lib.hid ((HW4.out.alloc hl4 (.cells #[.int .i64 e.kind, .string e.name, .slice A4 e.args.length c4] 26)).trans (hb5.mono (by simp; omega)))
  have hl5 : w.heap.size + 1 ≤ w5.heap.size := by have := hb5.size; simp at this; omega
  have HS5 := Lib.hid (HS4.out.below hb5)
  clear hb5 HS4 HW3
  have H6 := Lib.hid (six_of (HBX.out w5 HW5.out) HX5.out)
  have h6 := H6.out
  obtain ⟨x0, x1, x2, y0, y1, y2⟩ := h6
  have HDR := Lib.hid (Below.drew (Below.refl w5.heap.size w5))
  have HC5 := Lib.hid (fun (W : World) (h : Hid (Below w5.heap.size w5 W)) => HC2.out W (HW5.out.trans (h.out.mono hl5)))
  have HE5 := Lib.hid (fun (v6 : Value) (b6 : List Nat) (W : World) (h : Hid (Below w5.heap.size w5 W)) (h6 : ExIs W v6 e b6) => eq_expr e _ v6 b4 b6 W (HS5.out.below h.out) h6)
  go_wp2_with fail
  go_region_held3 (fun w' => w'.cell? ⟨w.heap.size, 0, none⟩ = some (.int .i64 e.kind) ∧ w'.cell? ⟨w.heap.size, 1, none⟩ = some (.string e.name) ∧ w'.cell? ⟨w.heap.size, 2, none⟩ = some (.slice A e.args.length c) ∧
      w'.cell? ⟨w4.heap.size, 0, none⟩ = some (.int .i64 e.kind) ∧ w'.cell? ⟨w4.heap.size, 1, none⟩ = some (.string e.name) ∧ w'.cell? ⟨w4.heap.size, 2, none⟩ = some (.slice A4 e.args.length c4) ∧ Hid (Below w5.heap.size w5 w'))
    (first | exact keep6_start H6.out | exact keep6_step H6 hb6 (by assumption) | exact keep6_step H6 hb7 (by assumption))
    (first
      | (go_at_call 18; refine (HC5.out _ (by assumption)).mono ?_; rintro r w6 ⟨v6, b6, rfl, hs6, -, hb6⟩)
      | (go_at_call 19; have hh := ‹_ ∧ _ ∧ _ ∧ _ ∧ _ ∧ _ ∧ Hid (Below w5.heap.size w5 w6)›; refine (HE5.out _ b6 _ hh.2.2.2.2.2.2 hs6).mono ?_; clear hh; rintro r w7 ⟨rfl, hb7⟩))
  all_goals
    have hx := ‹_ ∧ _ ∧ _ ∧ _ ∧ _ ∧ _ ∧ Hid (Below w5.heap.size w5 w7)›
    have HX7 := Lib.hid (((Below.refl w.heap.size w).alloc (Nat.le_refl _) _).trans ((HW5.out.trans (hx.2.2.2.2.2.2.out.mono hl5)).mono (by omega)))
    clear hx
    go_wp2_with fail
    go_ret
    exact ⟨rfl, HX7.out⟩
end Go.Proofs.Ytliifdiajcahdaa
