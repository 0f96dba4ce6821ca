/- The contracts of the model's ParseNumber and ParseInt. Condition: the text is at most 1048576 bytes long. -/
import Derived.Test.YtlkfifnkdmmhnaaDoorWalkC
import Derived.Test.YtlkfifnkdmmhnaaDoorNumsC
namespace Go.Proofs.YtlkfifnkdmmhnaaDoor
open Go Go.RowKit

def ParsePost (lo hi : Int) (s : ByteArray) (w : World) (e : Ending) (w' : World) : Prop :=
  ∃ (n : Int) (b : Bool), e = .returned (.tuple #[.int .i64 n, .bool b]) ∧ ParseEnd lo hi s.data.toList n b ∧ Below w.heap.size w w'

theorem number_no' {l : List UInt8} {n : Int} {b : Bool} (h : ReadEnd 6 l n b) (hb : b = false) : ParseEnd 0 999999 l 0 false := by subst hb; exact number_no h
theorem number_neg' {l : List UInt8} {n : Int} {b : Bool} (h : ReadEnd 6 l n b) (hb : b = true) (hn : n < 0) : ParseEnd 0 999999 l 0 false := by subst hb; exact number_neg h hn
theorem number_yes' {l : List UInt8} {n : Int} {b : Bool} (h : ReadEnd 6 l n b) (hb : b = true) (hn : 0 ≤ n) : ParseEnd 0 999999 l n true := by subst hb; exact number_yes h (by omega)

set_option maxHeartbeats 400000 in
theorem spec_number (s : ByteArray) (hs : s.size ≤ 1048576) (w : World) :
    Calls Tryd.prog 16 #[.string s] w (ParsePost 0 999999 s w) := by
  have HA := Lib.hid (read_any s 6 (by decide) (by decide) hs w)
  go_enter Tryd.func16, Tryd.ntmps16
  go_wp2_with (go_at_call 33; refine HA.out.mono ?_; rintro e w' ⟨n, b, rfl, hr, hb⟩)
  all_goals
    go_ret2
    first
    | exact ⟨0, false, rfl, number_no' hr (Bool.eq_false_iff.2 ‹¬b = true›), hb⟩
    | exact ⟨0, false, rfl, number_neg' hr ‹b = true› ‹n < 0›, hb⟩
    | exact ⟨n, true, rfl, number_yes' hr ‹b = true› ‹0 ≤ n›, hb⟩

set_option maxHeartbeats 400000 in
theorem spec_int (s : ByteArray) (hs : s.size ≤ 1048576) (w : World) :
    Calls Tryd.prog 21 #[.string s] w (ParsePost (-999999999999) 999999999999 s w) := by
  have HA := Lib.hid (read_any s 12 (by decide) (by decide) hs w)
  go_enter Tryd.func21, Tryd.ntmps21
  go_wp2_with (go_at_call 33; refine HA.out.mono ?_; rintro e w' ⟨n, b, rfl, hr, hb⟩)
  go_ways
  all_goals
    go_ret2
    exact ⟨n, b, rfl, int_any hr, hb⟩
end Go.Proofs.YtlkfifnkdmmhnaaDoor
