/- A string of one byte, and the digits of a positive integer. No condition. -/
import Derived.Test.YtegigjnlecpplaaRows
import Derived.WalkKit
import Derived.WalkSpells
import Derived.WalkLawsBesides
import Derived.Lib.Hide
import Derived.Lib.ItoaLen
import Derived.Test.YtegigjnlecpplaaNums
namespace Go.Proofs.Ytegigjnlecpplaa
open Go Go.RowKit

theorem conv_one (W : World) (v : Int) : (convert 22 9 (.slice (some ⟨W.heap.size, 0, none⟩) 1 1)).run Try.prog (W.alloc (.cells #[.int .u8 v] 5)) = .ok (.string ⟨#[UInt8.ofNat v.toNat]⟩) (W.alloc (.cells #[.int .u8 v] 5)) :=
  run_convert_bytes_arg (P := Try.prog) _ 22 5 Try.underlying22 Try.underlying5 W.heap.size 0 1 1 [v] rfl (fun i hi => by
    obtain rfl : i = 0 := by omega
    exact World.cell?_alloc_new _ _ _ _) 9 Try.underlying9

theorem dz_int (a : Int) (h : 0 < a) : dz a.toNat = dz (a / 10).toNat ++ [UInt8.ofNat (48 + a % 10).toNat] := by
  have e1 : (a / 10).toNat = a.toNat / 10 := by omega
  have e2 : (48 + a % 10).toNat = 48 + a.toNat % 10 := by omega
  rw [e1, e2]; exact dz_step a.toNat (by omega)

theorem dz_len (n : Int) (h0 : 0 < n) (h1 : n ≤ 9223372036854775807) : (dz n.toNat).length ≤ 21 := by
  have h := Lib.itoa_length_le n (by omega) h1
  rw [show n = ((n.toNat : Nat) : Int) by omega, itoa_pos n.toNat (by omega)] at h
  exact h

end Go.Proofs.Ytegigjnlecpplaa
