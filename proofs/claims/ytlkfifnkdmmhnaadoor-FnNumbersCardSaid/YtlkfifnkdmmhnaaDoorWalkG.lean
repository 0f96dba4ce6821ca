/- The contracts of the program's ParseNumber and ParseInt: each recovers the panic of a malformed integer. Conditions: the text is at most 1048576 bytes long; the package-level variables hold what start-up lays. -/
import Derived.Test.YtlkfifnkdmmhnaaDoorWalkE
import Derived.Defers
import Derived.Recover
import Derived.Laws.Pointers
namespace Go.Proofs.YtlkfifnkdmmhnaaDoor
open Go Go.RowKit

theorem catch_int_panicking (p q : Addr) (x : Int) (y : Bool) (u : TypeId) (pv : Value) (older : List PanicEntry) (w : World) (hc : w.cell? p = some (.int .i64 x)) (hd : w.cell? q = some (.bool y)) (hz : w.frozen? p = false) (hz2 : w.frozen? q = false) (hne : ¬ p = q) :
    CallsD Tryd.prog 28 #[.pointer (some p), .pointer (some q)] (.panicking ({ v := .iface u pv, recovered := false } :: older)) w fun e u' w' =>
      e = .returned (.tuple #[]) ∧ u' = .panicking ({ v := .iface u pv, recovered := true } :: older) ∧ w' = (w.setCell p (.int .i64 0)).setCell q (.bool false) := by
  refine callsD_of_wpS Tryd.func28 rfl fun c₀ cs hu => ?_
  apply wpS_seq
  apply wpS_region
  simp [wpOpsS, go_sem, recoverD, hu, Tryd.ntmps28, Exit.thenS]
  refine wpS_cond (t := true) (by simp [Act.eval, Array.replicate]) ?_
  simp only [if_true]
  apply wpS_region
  have hd2 : (w.setCell p (.int .i64 0)).cell? q = some (.bool y) := by rw [World.cell?_setCell_other _ _ _ _ hne]; exact hd
  simp [wpOpsS, go_sem, hc, hd2, hz, hz2, bodyPostS, results, Tryd.results28]

theorem catch_int_idle (p q : Addr) (w : World) :
    CallsD Tryd.prog 28 #[.pointer (some p), .pointer (some q)] .returning w fun e u' w' => e = .returned (.tuple #[]) ∧ u' = .returning ∧ w' = w := by
  refine callsD_of_wpS Tryd.func28 rfl fun c₀ cs hu => ?_
  apply wpS_seq
  apply wpS_region
  simp [wpOpsS, go_sem, recoverD, hu, Tryd.ntmps28, Exit.thenS]
  refine wpS_cond (t := false) (by simp [Act.eval, Array.replicate]) ?_
  simp only [Bool.false_eq_true, if_false]
  refine wpS_of_wp (wp_skip ?_)
  cases c₀
  simp_all [bodyPostS, results, Tryd.results28]

theorem catch_number_panicking (p q : Addr) (x : Int) (y : Bool) (u : TypeId) (pv : Value) (older : List PanicEntry) (w : World) (hc : w.cell? p = some (.int .i64 x)) (hd : w.cell? q = some (.bool y)) (hz : w.frozen? p = false) (hz2 : w.frozen? q = false) (hne : ¬ p = q) :
    CallsD Tryd.prog 32 #[.pointer (some p), .pointer (some q)] (.panicking ({ v := .iface u pv, recovered := false } :: older)) w fun e u' w' =>
      e = .returned (.tuple #[]) ∧ u' = .panicking ({ v := .iface u pv, recovered := true } :: older) ∧ w' = (w.setCell p (.int .i64 0)).setCell q (.bool false) := by
  refine callsD_of_wpS Tryd.func32 rfl fun c₀ cs hu => ?_
  apply wpS_seq
  apply wpS_region
  simp [wpOpsS, go_sem, recoverD, hu, Tryd.ntmps32, Exit.thenS]
  refine wpS_cond (t := true) (by simp [Act.eval, Array.replicate]) ?_
  simp only [if_true]
  apply wpS_region
  have hd2 : (w.setCell p (.int .i64 0)).cell? q = some (.bool y) := by rw [World.cell?_setCell_other _ _ _ _ hne]; exact hd
  simp [wpOpsS, go_sem, hc, hd2, hz, hz2, bodyPostS, results, Tryd.results32]

theorem catch_number_idle (p q : Addr) (w : World) :
    CallsD Tryd.prog 32 #[.pointer (some p), .pointer (some q)] .returning w fun e u' w' => e = .returned (.tuple #[]) ∧ u' = .returning ∧ w' = w := by
  refine callsD_of_wpS Tryd.func32 rfl fun c₀ cs hu => ?_
  apply wpS_seq
  apply wpS_region
  simp [wpOpsS, go_sem, recoverD, hu, Tryd.ntmps32, Exit.thenS]
  refine wpS_cond (t := false) (by simp [Act.eval, Array.replicate]) ?_
  simp only [Bool.false_eq_true, if_false]
  refine wpS_of_wp (wp_skip ?_)
  cases c₀
  simp_all [bodyPostS, results, Tryd.results32]

theorem two_below (w : World) : Below w.heap.size w ((w.alloc (.cells #[.int .i64 0] 3)).alloc (.cells #[.bool false] 4)) :=
  ((Below.refl w.heap.size w).alloc (Nat.le_refl _) _).alloc (by simp) _
theorem two_cells (w w1 : World) (hb : Below ((w.alloc (.cells #[.int .i64 0] 3)).alloc (.cells #[.bool false] 4)).heap.size ((w.alloc (.cells #[.int .i64 0] 3)).alloc (.cells #[.bool false] 4)) w1) :
    w1.cell? ⟨w.heap.size, 0, none⟩ = some (.int .i64 0) ∧ w1.cell? ⟨w.heap.size + 1, 0, none⟩ = some (.bool false) ∧ w1.frozen? ⟨w.heap.size, 0, none⟩ = false ∧ w1.frozen? ⟨w.heap.size + 1, 0, none⟩ = false ∧ Below w.heap.size w w1 := by
  have e : ((w.alloc (.cells #[.int .i64 0] 3)).alloc (.cells #[.bool false] 4)).heap.size = w.heap.size + 1 + 1 := by simp
  have h1 : w.heap.size < ((w.alloc (.cells #[.int .i64 0] 3)).alloc (.cells #[.bool false] 4)).heap.size := by omega
  have h2 : w.heap.size + 1 < ((w.alloc (.cells #[.int .i64 0] 3)).alloc (.cells #[.bool false] 4)).heap.size := by omega
  refine ⟨?_, ?_, ?_, ?_, (two_below w).trans (hb.mono (by omega))⟩
  · rw [hb.cell (p := ⟨w.heap.size, 0, none⟩) h1]; simp [go_sem]
  · rw [hb.cell (p := ⟨w.heap.size + 1, 0, none⟩) h2]; simp [go_sem]
  · rw [hb.frozen (p := ⟨w.heap.size, 0, none⟩) h1]; simp [go_sem]
  · rw [hb.frozen (p := ⟨w.heap.size + 1, 0, none⟩) h2]; simp [go_sem]
theorem two_ne (n : Nat) : ¬ (⟨n, 0, none⟩ : Addr) = ⟨n + 1, 0, none⟩ := by
  intro e; injection e with e; omega
/-- What two stores, the second behind the first, leave. -/
theorem two_stored (w : World) (B : Nat) (x : Value) (y : Value) (u v : Value) (c1 : w.cell? ⟨B, 0, none⟩ = some u) (c2 : w.cell? ⟨B + 1, 0, none⟩ = some v) :
    ((w.setCell ⟨B, 0, none⟩ x).setCell ⟨B + 1, 0, none⟩ y).cell? ⟨B, 0, none⟩ = some x ∧ ((w.setCell ⟨B, 0, none⟩ x).setCell ⟨B + 1, 0, none⟩ y).cell? ⟨B + 1, 0, none⟩ = some y := by
  constructor
  · rw [World.cell?_setCell_other _ _ _ _ (fun e => two_ne B e.symm)]
    exact World.cell?_setCell_same _ _ _ c1
  · exact World.cell?_setCell_same (u := v) _ _ _ (by rw [World.cell?_setCell_other _ _ _ _ (two_ne B)]; exact c2)

set_option maxHeartbeats 400000 in
theorem impl_int_good (s : ByteArray) (hs : s.size ≤ 1048576) (n : Int) (h0 : (-999999999999) ≤ n) (h1 : n ≤ 999999999999) (he : Lib.itoa n = s.data.toList) (w : World) (hv : Vars w) :
    Calls Tryd.prog 12 #[.string s] w fun e w' => e = .returned (.tuple #[.int .i64 n, .bool true]) ∧ Below w.heap.size w w' := by
  have hmf : ∀ (fn : Fn) (first cap : Array Value) (w : World), (Instr.makeFunc fn first cap).run Tryd.prog w = .ok (.func fn first cap) w := fun _ _ _ _ => rfl
  have HA := Lib.hid (fun (w1 : World) (hb : Below w.heap.size w w1) => within_good s hs (-999999999999) 999999999999 n h0 h1 (by decide) (by decide) he w1 (vars_below hb hv))
  have HB := Lib.hid (two_below w)
  clear h0 h1 he hv
  go_enter_defers Tryd.func12, Tryd.ntmps12
  go_wp2_with (go_at_call 29; refine (HA.out _ HB.out).mono ?_; rintro e w1 ⟨rfl, hb1⟩; obtain ⟨c1, c2, f1, f2, hb2⟩ := two_cells w w1 hb1; have HB2 := Lib.hid hb2; clear hb1 hb2)
  obtain ⟨e1, e2⟩ := two_stored w1 w.heap.size (.int .i64 n) (.bool true) _ _ c1 c2
  refine leaves_cons (f := 28) (args := #[.pointer (some ⟨w.heap.size, 0, none⟩), .pointer (some ⟨w.heap.size + 1, 0, none⟩)]) (by simp) (by simp [go_sem]) ?_
  refine (catch_int_idle ⟨w.heap.size, 0, none⟩ ⟨w.heap.size + 1, 0, none⟩ _).mono ?_
  rintro e u' w'' ⟨rfl, rfl, rfl⟩
  have hb := (HB2.out.setCell (p := ⟨w.heap.size, 0, none⟩) (Nat.le_refl _) (.int .i64 n)).setCell (p := ⟨w.heap.size + 1, 0, none⟩) (Nat.le_succ _) (.bool true)
  simp [Leaves, settle, results, Tryd.results12, go_sem, e1, e2, hb]

set_option maxHeartbeats 400000 in
theorem impl_int_bad (s : ByteArray) (hs : s.size ≤ 1048576) (h : ∀ m, (-999999999999) ≤ m → m ≤ 999999999999 → Lib.itoa m ≠ s.data.toList) (w : World) (hv : Vars w) :
    Calls Tryd.prog 12 #[.string s] w fun e w' => e = .returned (.tuple #[.int .i64 0, .bool false]) ∧ Below w.heap.size w w' := by
  have hmf : ∀ (fn : Fn) (first cap : Array Value) (w : World), (Instr.makeFunc fn first cap).run Tryd.prog w = .ok (.func fn first cap) w := fun _ _ _ _ => rfl
  have HA := Lib.hid (fun (w1 : World) (hb : Below w.heap.size w w1) => within_bad s hs (-999999999999) 999999999999 (by decide) (by decide) h w1 (vars_below hb hv))
  have HB := Lib.hid (two_below w)
  clear h hv
  go_enter_defers Tryd.func12, Tryd.ntmps12
  go_wp2_with (go_at_call 29; refine (HA.out _ HB.out).mono ?_; rintro e w1 ⟨tp, pv, rfl, hb1⟩; obtain ⟨c1, c2, f1, f2, hb2⟩ := two_cells w w1 hb1; have HB2 := Lib.hid hb2; clear hb1 hb2)
  obtain ⟨e1, e2⟩ := two_stored w1 w.heap.size (.int .i64 0) (.bool false) _ _ c1 c2
  refine leaves_cons (f := 28) (args := #[.pointer (some ⟨w.heap.size, 0, none⟩), .pointer (some ⟨w.heap.size + 1, 0, none⟩)]) (by simp) (by simp [go_sem]) ?_
  refine (catch_int_panicking ⟨w.heap.size, 0, none⟩ ⟨w.heap.size + 1, 0, none⟩ 0 false tp pv [] _ c1 c2 f1 f2 (two_ne _)).mono ?_
  rintro e u' w'' ⟨rfl, rfl, rfl⟩
  have hb := (HB2.out.setCell (p := ⟨w.heap.size, 0, none⟩) (Nat.le_refl _) (.int .i64 0)).setCell (p := ⟨w.heap.size + 1, 0, none⟩) (Nat.le_succ _) (.bool false)
  simp [Leaves, settle, results, Tryd.results12, go_sem, e1, e2, hb]

set_option maxHeartbeats 400000 in
theorem impl_number_good (s : ByteArray) (hs : s.size ≤ 1048576) (n : Int) (h0 : 0 ≤ n) (h1 : n ≤ 999999) (he : Lib.itoa n = s.data.toList) (w : World) (hv : Vars w) :
    Calls Tryd.prog 15 #[.string s] w fun e w' => e = .returned (.tuple #[.int .i64 n, .bool true]) ∧ Below w.heap.size w w' := by
  have hmf : ∀ (fn : Fn) (first cap : Array Value) (w : World), (Instr.makeFunc fn first cap).run Tryd.prog w = .ok (.func fn first cap) w := fun _ _ _ _ => rfl
  have HA := Lib.hid (fun (w1 : World) (hb : Below w.heap.size w w1) => within_good s hs 0 999999 n h0 h1 (by decide) (by decide) he w1 (vars_below hb hv))
  have HB := Lib.hid (two_below w)
  clear h0 h1 he hv
  go_enter_defers Tryd.func15, Tryd.ntmps15
  go_wp2_with (go_at_call 29; refine (HA.out _ HB.out).mono ?_; rintro e w1 ⟨rfl, hb1⟩; obtain ⟨c1, c2, f1, f2, hb2⟩ := two_cells w w1 hb1; have HB2 := Lib.hid hb2; clear hb1 hb2)
  obtain ⟨e1, e2⟩ := two_stored w1 w.heap.size (.int .i64 n) (.bool true) _ _ c1 c2
  refine leaves_cons (f := 32) (args := #[.pointer (some ⟨w.heap.size, 0, none⟩), .pointer (some ⟨w.heap.size + 1, 0, none⟩)]) (by simp) (by simp [go_sem]) ?_
  refine (catch_number_idle ⟨w.heap.size, 0, none⟩ ⟨w.heap.size + 1, 0, none⟩ _).mono ?_
  rintro e u' w'' ⟨rfl, rfl, rfl⟩
  have hb := (HB2.out.setCell (p := ⟨w.heap.size, 0, none⟩) (Nat.le_refl _) (.int .i64 n)).setCell (p := ⟨w.heap.size + 1, 0, none⟩) (Nat.le_succ _) (.bool true)
  simp [Leaves, settle, results, Tryd.results15, go_sem, e1, e2, hb]

set_option maxHeartbeats 400000 in
theorem impl_number_bad (s : ByteArray) (hs : s.size ≤ 1048576) (h : ∀ m, 0 ≤ m → m ≤ 999999 → Lib.itoa m ≠ s.data.toList) (w : World) (hv : Vars w) :
    Calls Tryd.prog 15 #[.string s] w fun e w' => e = .returned (.tuple #[.int .i64 0, .bool false]) ∧ Below w.heap.size w w' := by
  have hmf : ∀ (fn : Fn) (first cap : Array Value) (w : World), (Instr.makeFunc fn first cap).run Tryd.prog w = .ok (.func fn first cap) w := fun _ _ _ _ => rfl
  have HA := Lib.hid (fun (w1 : World) (hb : Below w.heap.size w w1) => within_bad s hs 0 999999 (by decide) (by decide) h w1 (vars_below hb hv))
  have HB := Lib.hid (two_below w)
  clear h hv
  go_enter_defers Tryd.func15, Tryd.ntmps15
  go_wp2_with (go_at_call 29; refine (HA.out _ HB.out).mono ?_; rintro e w1 ⟨tp, pv, rfl, hb1⟩; obtain ⟨c1, c2, f1, f2, hb2⟩ := two_cells w w1 hb1; have HB2 := Lib.hid hb2; clear hb1 hb2)
  obtain ⟨e1, e2⟩ := two_stored w1 w.heap.size (.int .i64 0) (.bool false) _ _ c1 c2
  refine leaves_cons (f := 32) (args := #[.pointer (some ⟨w.heap.size, 0, none⟩), .pointer (some ⟨w.heap.size + 1, 0, none⟩)]) (by simp) (by simp [go_sem]) ?_
  refine (catch_number_panicking ⟨w.heap.size, 0, none⟩ ⟨w.heap.size + 1, 0, none⟩ 0 false tp pv [] _ c1 c2 f1 f2 (two_ne _)).mono ?_
  rintro e u' w'' ⟨rfl, rfl, rfl⟩
  have hb := (HB2.out.setCell (p := ⟨w.heap.size, 0, none⟩) (Nat.le_refl _) (.int .i64 0)).setCell (p := ⟨w.heap.size + 1, 0, none⟩) (Nat.le_succ _) (.bool false)
  simp [Leaves, settle, results, Tryd.results15, go_sem, e1, e2, hb]

theorem impl_int (s : ByteArray) (hs : s.size ≤ 1048576) (w : World) (hv : Vars w) :
    Calls Tryd.prog 12 #[.string s] w (ParsePost (-999999999999) 999999999999 s w) := by
  by_cases h : ∃ n, (-999999999999) ≤ n ∧ n ≤ 999999999999 ∧ Lib.itoa n = s.data.toList
  · obtain ⟨n, h0, h1, he⟩ := h
    refine (impl_int_good s hs n h0 h1 he w hv).mono ?_
    rintro e w' ⟨rfl, hb⟩
    exact ⟨n, true, rfl, parse_yes he h0 h1, hb⟩
  · have h' : ∀ m, (-999999999999) ≤ m → m ≤ 999999999999 → Lib.itoa m ≠ s.data.toList := fun m h0 h1 e => h ⟨m, h0, h1, e⟩
    refine (impl_int_bad s hs h' w hv).mono ?_
    rintro e w' ⟨rfl, hb⟩
    exact ⟨0, false, rfl, parse_no h', hb⟩
theorem impl_number (s : ByteArray) (hs : s.size ≤ 1048576) (w : World) (hv : Vars w) :
    Calls Tryd.prog 15 #[.string s] w (ParsePost 0 999999 s w) := by
  by_cases h : ∃ n, 0 ≤ n ∧ n ≤ 999999 ∧ Lib.itoa n = s.data.toList
  · obtain ⟨n, h0, h1, he⟩ := h
    refine (impl_number_good s hs n h0 h1 he w hv).mono ?_
    rintro e w' ⟨rfl, hb⟩
    exact ⟨n, true, rfl, parse_yes he h0 h1, hb⟩
  · have h' : ∀ m, 0 ≤ m → m ≤ 999999 → Lib.itoa m ≠ s.data.toList := fun m h0 h1 e => h ⟨m, h0, h1, e⟩
    refine (impl_number_bad s hs h' w hv).mono ?_
    rintro e w' ⟨rfl, hb⟩
    exact ⟨0, false, rfl, parse_no h', hb⟩

def TrueEnd (w : World) (e : Ending) (w' : World) : Prop := e = .returned (.bool true) ∧ Below w.heap.size w w'
set_option maxHeartbeats 400000 in
theorem law_int (s : ByteArray) (hs : s.size ≤ 1048576) (w : World) (hv : Vars w) : Calls Tryd.prog 7 #[.string s] w (TrueEnd w) := by
  have HA := Lib.hid (spec_int s hs w)
  have HB := Lib.hid (fun (w1 : World) (hb : Below w.heap.size w w1) => impl_int s hs w1 (vars_below hb hv))
  clear hv
  go_enter Tryd.func7, Tryd.ntmps7
  go_wp2_with (first
    | (go_at_call 21; refine HA.out.mono ?_; rintro e w1 ⟨n, b, rfl, hr1, hb1⟩)
    | (go_at_call 12; refine (HB.out _ hb1).mono ?_; rintro e w2 ⟨n2, b2, rfl, hr2, hb2⟩; obtain ⟨rfl, rfl⟩ := parse_unique hr1 hr2))
  all_goals
    go_ret
    exact ⟨rfl, hb1.trans (hb2.mono hb1.size)⟩
set_option maxHeartbeats 400000 in
theorem law_number (s : ByteArray) (hs : s.size ≤ 1048576) (w : World) (hv : Vars w) : Calls Tryd.prog 6 #[.string s] w (TrueEnd w) := by
  have HA := Lib.hid (spec_number s hs w)
  have HB := Lib.hid (fun (w1 : World) (hb : Below w.heap.size w w1) => impl_number s hs w1 (vars_below hb hv))
  clear hv
  go_enter Tryd.func6, Tryd.ntmps6
  go_wp2_with (first
    | (go_at_call 16; refine HA.out.mono ?_; rintro e w1 ⟨n, b, rfl, hr1, hb1⟩)
    | (go_at_call 15; refine (HB.out _ hb1).mono ?_; rintro e w2 ⟨n2, b2, rfl, hr2, hb2⟩; obtain ⟨rfl, rfl⟩ := parse_unique hr1 hr2))
  all_goals
    go_ret
    exact ⟨rfl, hb1.trans (hb2.mono hb1.size)⟩
set_option maxHeartbeats 400000 in
theorem law_int_long (s : ByteArray) (hs : 1048576 < (s.size : Int)) (w : World) : Calls Tryd.prog 7 #[.string s] w (TrueEnd w) := by
  go_enter Tryd.func7, Tryd.ntmps7
  go_wp2_with fail
  go_ret
  exact ⟨rfl, Below.refl _ _⟩
set_option maxHeartbeats 400000 in
theorem law_number_long (s : ByteArray) (hs : 1048576 < (s.size : Int)) (w : World) : Calls Tryd.prog 6 #[.string s] w (TrueEnd w) := by
  go_enter Tryd.func6, Tryd.ntmps6
  go_wp2_with fail
  go_ret
  exact ⟨rfl, Below.refl _ _⟩
end Go.Proofs.YtlkfifnkdmmhnaaDoor
