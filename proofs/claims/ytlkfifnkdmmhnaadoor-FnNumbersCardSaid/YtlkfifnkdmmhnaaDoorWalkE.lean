/- The contract of the program's integerWithin: it gives the number whose numeral the text is, and panics where there is none from the least to the greatest. Conditions: the text is at most 1048576 bytes long; the library's table of powers of ten and its two error variables, and the program's own error variable, hold what start-up lays. -/
import Derived.Test.YtlkfifnkdmmhnaaDoorWalkB
import Derived.Test.YtlkfifnkdmmhnaaDoorWalkD
import Derived.WalkSmall
import Derived.Lib.AtoiErrMem
namespace Go.Proofs.YtlkfifnkdmmhnaaDoor
open Go Go.RowKit

/-- The variable NAME holds an error. -/
def HoldsErr (w : World) (name : String) : Prop := ∃ tp p, w.var? Tryd.prog name = some #[.iface tp p]
/-- What the walks ask of the package-level variables. -/
def Vars (w : World) : Prop := Pow10 w ∧ HoldsErr w "strconv.ErrSyntax" ∧ HoldsErr w "strconv.ErrRange" ∧ HoldsErr w "loop.example/g00584/impl.errMalformed"
theorem vars_below {w w' : World} (h : Below w.heap.size w w') (hv : Vars w) : Vars w' := by
  obtain ⟨a, ⟨t1, p1, b⟩, ⟨t2, p2, c⟩, ⟨t3, p3, d⟩⟩ := hv
  exact ⟨pow10_below h a, ⟨t1, p1, var_below h b⟩, ⟨t2, p2, var_below h c⟩, ⟨t3, p3, var_below h d⟩⟩
theorem gMal : Tryd.prog.globalNamed "loop.example/g00584/impl.errMalformed" = some 0 := by kernel_rfl

theorem atoi_ok (s : ByteArray) (hs : s.size ≤ 1048576) (v : Int) (h : Lib.atoiAll s.data.toList = .ok v) (w : World) :
    Calls Tryd.prog 40 #[.string s] w fun e w' => e = .returned (.tuple #[.int .i64 v, .nilIface]) ∧ Below w.heap.size w w' := by
  refine (Tryd.strconv_Atoi_ok s (by omega) v h w).mono ?_
  rintro e w' ⟨rfl, rfl | ⟨t, rfl⟩⟩
  · exact ⟨rfl, Below.refl _ _⟩
  · exact ⟨rfl, Lib.bytesWorld_below _ _ _⟩

def AtoiErr (w : World) (e : Ending) (w' : World) : Prop := ∃ (v : Int) (N : Nat), e = .returned (.tuple #[.int .i64 v, .iface 77 (.pointer (some ⟨N, 0, none⟩))]) ∧ Below w.heap.size w w'
theorem atoi_err (s : ByteArray) (hs : s.size ≤ 1048576) (h : ∀ v, Lib.atoiAll s.data.toList ≠ .ok v) (w : World) (hv : Vars w) :
    Calls Tryd.prog 40 #[.string s] w (AtoiErr w) := by
  obtain ⟨-, ⟨t1, p1, b⟩, ⟨t2, p2, c⟩, -⟩ := hv
  cases ha : Lib.atoiAll s.data.toList with
  | ok v => exact absurd ha (h v)
  | range =>
    refine (Tryd.strconv_Atoi_range_var s (by omega) ha t2 p2 w c).mono ?_
    rintro e w' ⟨N, rfl, -, -, hb⟩
    exact ⟨_, N, rfl, hb⟩
  | _ =>
    refine (Any.strconv_Atoi_syntax_var Tryd.laysC172 s (by omega) ha t1 p1 w b).mono ?_
    rintro e w' ⟨N, rfl, -, -, hb⟩
    exact ⟨_, N, rfl, hb⟩

theorem vars_err {w : World} (hv : Vars w) : ∃ tp p, ∀ W, Below w.heap.size w W → W.cell? ⟨0, 0, none⟩ = some (.iface tp p) := by
  obtain ⟨-, -, -, ⟨tp, p, d⟩⟩ := hv
  exact ⟨tp, p, fun W hb => by have h := World.var?_cell gMal (var_below hb d) 0; simpa using h⟩
theorem no_beq {l : List UInt8} {s : ByteArray} (h : l ≠ s.data.toList) : (!l == s.toList) = true := by
  cases hb : (l == s.toList) with
  | false => rfl
  | true => exact absurd ((itoa_beq l s).1 hb) h
theorem yes_beq {l : List UInt8} {s : ByteArray} (h : l = s.data.toList) : (!l == s.toList) = false := by
  rw [(itoa_beq l s).2 h]; rfl

set_option maxHeartbeats 400000 in
theorem within_good (s : ByteArray) (hs : s.size ≤ 1048576) (lo hi n : Int) (h0 : lo ≤ n) (h1 : n ≤ hi) (hlo : -999999999999 ≤ lo) (hhi : hi ≤ 999999999999) (he : Lib.itoa n = s.data.toList) (w : World) (hv : Vars w) :
    Calls Tryd.prog 29 #[.string s, .int .i64 lo, .int .i64 hi] w fun e w' => e = .returned (.int .i64 n) ∧ Below w.heap.size w w' := by
  have HA := Lib.hid (atoi_ok s hs n (by rw [← he]; exact atoi_itoa n (by omega) (by omega)) w)
  have HB := Lib.hid (fun (w1 : World) (hb : Below w.heap.size w w1) => impl_format n (by omega) (by omega) w1 (vars_below hb hv).1)
  have hx := yes_beq he
  clear he hv
  go_enter Tryd.func29, Tryd.ntmps29
  go_wp2_with (first
    | (go_at_call 40; refine HA.out.mono ?_; rintro e w1 ⟨rfl, hb1⟩)
    | (go_at_call 11; refine (HB.out _ hb1).mono ?_; rintro e w2 ⟨rfl, hb2⟩))
  go_ret
  exact ⟨rfl, hb1.trans (hb2.mono hb1.size)⟩

def WithinBad (w : World) (e : Ending) (w' : World) : Prop := ∃ tp p, e = .panicked [{ v := .iface tp p, recovered := false }] ∧ Below w.heap.size w w'

set_option maxHeartbeats 400000 in
theorem within_err (s : ByteArray) (hs : s.size ≤ 1048576) (lo hi : Int) (h : ∀ v, Lib.atoiAll s.data.toList ≠ .ok v) (w : World) (hv : Vars w) :
    Calls Tryd.prog 29 #[.string s, .int .i64 lo, .int .i64 hi] w (WithinBad w) := by
  have HA := Lib.hid (atoi_err s hs h w hv)
  obtain ⟨tp, p, hc⟩ := vars_err hv
  have HC := Lib.hid hc
  clear hc hv h
  go_enter Tryd.func29, Tryd.ntmps29
  go_wp2_with (go_at_call 40; refine HA.out.mono ?_; rintro e w1 ⟨v, N, rfl, hb1⟩; have hcell := HC.out _ hb1)
  exact ⟨rfl, tp, p, rfl, hb1⟩

set_option maxHeartbeats 400000 in
theorem within_out (s : ByteArray) (hs : s.size ≤ 1048576) (lo hi v : Int) (h : Lib.atoiAll s.data.toList = .ok v) (ho : v < lo ∨ hi < v) (w : World) (hv : Vars w) :
    Calls Tryd.prog 29 #[.string s, .int .i64 lo, .int .i64 hi] w (WithinBad w) := by
  have HA := Lib.hid (atoi_ok s hs v h w)
  obtain ⟨tp, p, hc⟩ := vars_err hv
  have HC := Lib.hid hc
  clear hc hv h
  by_cases h1 : v < lo
  · clear ho
    go_enter Tryd.func29, Tryd.ntmps29
    go_wp2_with (go_at_call 40; refine HA.out.mono ?_; rintro e w1 ⟨rfl, hb1⟩; have hcell := HC.out _ hb1)
    exact ⟨rfl, tp, p, rfl, hb1⟩
  · have h2 : hi < v := by omega
    clear ho
    go_enter Tryd.func29, Tryd.ntmps29
    go_wp2_with (go_at_call 40; refine HA.out.mono ?_; rintro e w1 ⟨rfl, hb1⟩; have hcell := HC.out _ hb1)
    exact ⟨rfl, tp, p, rfl, hb1⟩

set_option maxHeartbeats 400000 in
theorem within_form (s : ByteArray) (hs : s.size ≤ 1048576) (lo hi v : Int) (h : Lib.atoiAll s.data.toList = .ok v) (h0 : lo ≤ v) (h1 : v ≤ hi) (hlo : -999999999999 ≤ lo) (hhi : hi ≤ 999999999999) (hne : Lib.itoa v ≠ s.data.toList) (w : World) (hv : Vars w) :
    Calls Tryd.prog 29 #[.string s, .int .i64 lo, .int .i64 hi] w (WithinBad w) := by
  have HA := Lib.hid (atoi_ok s hs v h w)
  have HB := Lib.hid (fun (w1 : World) (hb : Below w.heap.size w w1) => impl_format v (by omega) (by omega) w1 (vars_below hb hv).1)
  obtain ⟨tp, p, hc⟩ := vars_err hv
  have HC := Lib.hid hc
  have hx := no_beq hne
  clear hc hv h hne
  go_enter Tryd.func29, Tryd.ntmps29
  go_wp2_with (first
    | (go_at_call 40; refine HA.out.mono ?_; rintro e w1 ⟨rfl, hb1⟩)
    | (go_at_call 11; refine (HB.out _ hb1).mono ?_; rintro e w2 ⟨rfl, hb2⟩; have hcell := HC.out _ (hb1.trans (hb2.mono hb1.size))))
  exact ⟨rfl, tp, p, rfl, hb1.trans (hb2.mono hb1.size)⟩

theorem within_bad (s : ByteArray) (hs : s.size ≤ 1048576) (lo hi : Int) (hlo : -999999999999 ≤ lo) (hhi : hi ≤ 999999999999) (h : ∀ m, lo ≤ m → m ≤ hi → Lib.itoa m ≠ s.data.toList) (w : World) (hv : Vars w) :
    Calls Tryd.prog 29 #[.string s, .int .i64 lo, .int .i64 hi] w (WithinBad w) := by
  by_cases ha : ∃ v, Lib.atoiAll s.data.toList = .ok v
  · obtain ⟨v, ha⟩ := ha
    by_cases ho : v < lo ∨ hi < v
    · exact within_out s hs lo hi v ha ho w hv
    · exact within_form s hs lo hi v ha (by omega) (by omega) hlo hhi (h v (by omega) (by omega)) w hv
  · exact within_err s hs lo hi (fun v e => ha ⟨v, e⟩) w hv
end Go.Proofs.YtlkfifnkdmmhnaaDoor
