/- The contract of the program's own Join. Conditions: at most 1048576 elements and bytes in all, and a separator of at most 1048576 bytes. -/
import Derived.Test.YtmndlhbgacgnlaaOwnText
import Derived.Test.YtmndlhbgacgnlaaExOpen
import Derived.Test.YtmndlhbgacgnlaaShelf
namespace Go.Proofs.Ytmndlhbgacgnlaa
open Go Go.RowKit

theorem add_litJ (g o k : Nat) : (⟨g, o, none⟩ : Addr).add k = ⟨g, o + k, none⟩ := add_litO g o k

set_option maxHeartbeats 400000 in
theorem own_join : OwnJoin := by
  intro A xs c s w hs hc ht hsep
  have hlen := joined_le xs s xs.length (Nat.le_refl _) ht hsep
  rw [List.take_length] at hlen
  by_cases h0 : xs = []
  · subst h0
    have HP := Lib.hid (show JoinPost [] s w (.returned (.string ⟨#[]⟩)) w from ⟨rfl, Below.refl _ _⟩)
    have HA := Lib.hid (Try.strings_Join_none A c s w)
    clear hs hc ht hsep hlen
    show Calls Try.prog 167 #[.slice A 0 c, .string s] w _
    go_enter Try.func167, Try.ntmps167
    go_wp2_with (go_at_call 175; refine HA.out.mono ?_; rintro e w' ⟨rfl, hb⟩; rw [hb])
    go_ret
    exact HP.out
  · have hl : 0 < xs.length := List.length_pos_iff.2 h0
    obtain ⟨a, rfl, hcell, -⟩ := hs.at_ 0 hl
    obtain ⟨g, o, hgo, hlt⟩ : ∃ g o, a = ⟨g, o, none⟩ ∧ g < w.heap.size := by
      have hz : a.add 0 = a := by
        obtain ⟨b, o, q⟩ := a
        unfold Addr.add
        split <;> simp_all
      rw [hz] at hcell
      have h := spot_none hcell
      exact ⟨_, _, h.1, h.2⟩
    subst hgo
    have HA := Lib.hid (Try.strings_Join g o c xs s w (fun j x hx => by
      obtain ⟨a, e, hcell, -⟩ := hs j x hx
      obtain rfl := Option.some.inj e
      rw [add_litJ] at hcell
      exact hcell) hlt (by omega) hc (by unfold listsS at hlen; omega))
    clear hs hlt hc ht hsep hlen hcell hl h0
    go_enter Try.func167, Try.ntmps167
    go_wp2_with (go_at_call 175; refine HA.out.mono ?_; rintro e w' ⟨rfl, hb⟩)
    go_ret
    exact ⟨rfl, hb⟩
theorem own_format_any : ∀ (e : Ex) (v : Value) (bs : List Nat) (W : World), ExIs W v e bs → exTot e ≤ 1048576 → Calls Try.prog 29 #[v] W (RetPost (.string (exFmt e)) W) :=
  fun e v bs W hv hb => own_format own_join e v bs W hv (by have := (tot_size (exSize e)).1 e (Nat.le_refl _); omega)
end Go.Proofs.Ytmndlhbgacgnlaa
