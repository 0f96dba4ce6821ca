/- Empty strings; the contracts of the program's own methods kind and arity at a rule of which only the value is known. No condition but the length's bound. -/
import Derived.Test.YtmndlhbgacgnlaaGreatRuSz
namespace Go.Proofs.YtmndlhbgacgnlaaGreat
open Go Go.RowKit

theorem empty_len (s : ByteArray) : s.toList.length = s.size := by rw [ByteArray.toList_eq]; rfl
theorem empty_yes {s : ByteArray} (h : s.size = 0) : s.toList.isEmpty = true := by
  rw [List.isEmpty_iff]
  exact List.eq_nil_of_length_eq_zero (by rw [empty_len, h])
theorem empty_not {s : ByteArray} (h : ¬ s.size = 0) : s.toList.isEmpty = false := by
  rw [Bool.eq_false_iff]
  intro e
  rw [List.isEmpty_iff] at e
  exact h (by rw [← empty_len, e]; rfl)

theorem his_slice0 {W : World} {e : Ex} {u : Value} {b : List Nat} (h : ExIs W (.agg #[.int .i64 e.kind, .string e.name, u]) e b) : ∃ A m c, u = .slice A m c := by
  obtain ⟨u2, e1, -, hs⟩ := h
  obtain ⟨A, c, e2, -⟩ := hs
  simp at e1
  rw [e1, e2]
  exact ⟨_, _, _, rfl⟩


def kindS (c : ByteArray) : Int := if c.size = 0 then 1 else 2
def arityS (c : ByteArray) (q : Nat) : Int := (q : Int) + (if c.size = 0 then 0 else 1)
set_option maxHeartbeats 1000000 in
theorem flat_kind (nm con s : ByteArray) (A1 A2 A3 : Option Addr) (m1 k1 m2 k2 m3 k3 : Nat) (z : Int) (w : World) : Calls Tryz.prog 37 #[.agg #[.string nm, .string con, .slice A1 m1 k1, .slice A2 m2 k2, .int .i64 z, .string s, .slice A3 m3 k3]] w (RetPost (.int .i64 (kindS con)) w) := by
  by_cases hc : con.size = 0
  · have HE := Lib.hid (show kindS con = 1 by unfold kindS; rw [if_pos hc])
    have hbe := empty_yes hc
    clear hc
    go_enter Tryz.func37, Tryz.ntmps37
    go_wp2_with fail
    go_ret
    exact ⟨by rw [HE.out]; rfl, (Below.refl _ w).alloc (Nat.le_refl _) _⟩
  · have HE := Lib.hid (show kindS con = 2 by unfold kindS; rw [if_neg hc])
    have hbe := empty_not hc
    clear hc
    go_enter Tryz.func37, Tryz.ntmps37
    go_wp2_with fail
    go_ret
    exact ⟨by rw [HE.out]; rfl, (Below.refl _ w).alloc (Nat.le_refl _) _⟩
set_option maxHeartbeats 1000000 in
theorem flat_arity (nm con s : ByteArray) (A1 A2 A3 : Option Addr) (m1 k1 q k2 m3 k3 : Nat) (z : Int) (w : World) (hn : q ≤ 1099511627776) : Calls Tryz.prog 36 #[.agg #[.string nm, .string con, .slice A1 m1 k1, .slice A2 q k2, .int .i64 z, .string s, .slice A3 m3 k3]] w (RetPost (.int .i64 (arityS con q)) w) := by
  obtain ⟨W0, hW0⟩ : ∃ W0, W0 = w.alloc (.cells #[.string nm, .string con, .slice A1 m1 k1, .slice A2 q k2, .int .i64 z, .string s, .slice A3 m3 k3] 34) := ⟨_, rfl⟩
  have hbx : Below w.heap.size w W0 := by rw [hW0]; exact (Below.refl _ w).alloc (Nat.le_refl _) _
  have HB0 := Lib.hid hbx
  have HC := Lib.hid (flat_kind nm con s A1 A2 A3 m1 k1 q k2 m3 k3 z W0)
  have HBX := Lib.hid (fun (W : World) (hb : Below W0.heap.size W0 W) => show W.cell? ⟨w.heap.size, 3, none⟩ = some (.slice A2 q k2) from by
    have h9 : W.heap[w.heap.size]? = some (.cells #[.string nm, .string con, .slice A1 m1 k1, .slice A2 q k2, .int .i64 z, .string s, .slice A3 m3 k3] 34 (0, 0)) := by
      rw [hW0] at hb
      exact (hb.block _ (by simp)).trans (heap_alloc_new w _)
    simp [World.cell?, h9])
  have hpl : (q : Int) ≤ 1099511627776 := by omega
  by_cases hc : con.size = 0
  · have HE := Lib.hid (show arityS con q = (q : Int) by unfold arityS; rw [if_pos hc]; omega)
    have HK := Lib.hid (show kindS con = 1 by unfold kindS; rw [if_pos hc])
    clear hc hbx
    go_enter Tryz.func36, Tryz.ntmps36
    go_wp2_with (rw [← hW0]; go_at_call 37; refine HC.out.mono ?_; rintro e w1 ⟨rfl, hb1⟩; have hcl := HBX.out w1 hb1; have HB1 := Lib.hid (HB0.out.trans (hb1.mono HB0.out.size)); clear hb1; rw [HK.out])
    go_ret
    exact ⟨by rw [HE.out]; rfl, HB1.out⟩
  · have HE := Lib.hid (show arityS con q = (q : Int) + 1 by unfold arityS; rw [if_neg hc])
    have HK := Lib.hid (show kindS con = 2 by unfold kindS; rw [if_neg hc])
    clear hc hbx
    go_enter Tryz.func36, Tryz.ntmps36
    go_wp2_with (rw [← hW0]; go_at_call 37; refine HC.out.mono ?_; rintro e w1 ⟨rfl, hb1⟩; have hcl := HBX.out w1 hb1; have HB1 := Lib.hid (HB0.out.trans (hb1.mono HB0.out.size)); clear hb1; rw [HK.out])
    go_ret
    exact ⟨by rw [HE.out]; rfl, HB1.out⟩
end Go.Proofs.YtmndlhbgacgnlaaGreat
