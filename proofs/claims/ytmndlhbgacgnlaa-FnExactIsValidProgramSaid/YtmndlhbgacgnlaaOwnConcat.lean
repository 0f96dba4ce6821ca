/- The contracts of the library's slices.Grow of nil and slices.Concat of two slices of strings, and of the program's own Rule.arguments. Condition: fewer than 2^40 elements together. -/
import Derived.Test.YtmndlhbgacgnlaaAppStrs
import Derived.Test.YtmndlhbgacgnlaaRuSz
import Derived.Lib.AppendZerosOnto
namespace Go.Proofs.Ytmndlhbgacgnlaa
open Go Go.RowKit

theorem wpList_append_run {P : Program} {w w' : World} {ops : Array Oper} {rest : List Oper} {o : Oper} {a : Act} {Q : Exit → Act → World → Prop} (hgd : o.guard = none) (s x : Operand) (ts : Array TypeId)
    (ho : o.op = .call { callee := .builtin .append, args := #[s, x], argTypes := ts }) {v x' v' : Value} (hs : a.eval s = v) (hx : a.eval x = x') (hr : (Builtin.append_ ts o.type #[v, x']).run P w = .ok v' w')
    (h : wpList P ops Q rest (a.put o.dst v') w') : wpList P ops Q (o :: rest) a w := by
  refine wpList_plain hgd fun K hK => ?_
  unfold Oper.wp execOp
  simp only [ho, resolve, invoke, builtin, Sem.run_bind, Sem.run_pure, Result.andThen_ok, List.map_toArray, List.map_cons, List.map_nil, hs, hx, hr]
  exact hK _ _ h
/-- A slice of strings of the call's own comes back. -/
def StrsPost (xs : List ByteArray) (w : World) (e : Ending) (w' : World) : Prop := ∃ v, e = .returned v ∧ OwnsL w.heap.size w' v xs ∧ Below w.heap.size w w'
theorem grow_row (w : World) (n cp : Nat) (h1 : n ≤ cp) (h2 : cp ≤ maxLen) : OwnsL w.heap.size (w.drew.alloc (.cells (Builtin.zeroCells #[.string ⟨#[]⟩] n ++ Builtin.zeroCells #[.string ⟨#[]⟩] (cp - n)) 9)) (.slice (some ⟨w.heap.size, 0, none⟩) 0 cp) [] := by
  refine ⟨rfl, Or.inr ⟨w.heap.size, cp, _, rfl, Nat.le_refl _, heap_alloc_new w.drew _, Nat.zero_le _, h2, ?_, by simp⟩⟩
  simp [Builtin.zeroCells]; omega
set_option maxHeartbeats 1000000 in
theorem lib_grow (n : Nat) (w : World) (hn : n ≤ 1099511627776) : Calls Try.prog 178 #[.slice none 0 0, .int .i64 (n : Int)] w (StrsPost [] w) := by
  have hni : (n : Int) ≤ 1099511627776 := by omega
  by_cases h0 : n = 0
  · subst h0
    show Calls Try.prog 178 #[.slice none 0 0, .int .i64 0] w (StrsPost [] w)
    go_enter Try.func178, Try.ntmps178
    go_wp2_with fail
    go_ret
    exact ⟨_, rfl, World.ownsRow_nil _ _ _ _, Below.refl _ _⟩
  · have hp : 0 < n := by omega
    have hpi : (0 : Int) < (n : Int) := by omega
    have hx := Try.info9u
    cases hi : Try.prog.info? 9 with
    | none => rw [hi] at hx; cases hx
    | some i =>
    rw [hi] at hx
    simp only [Option.map_some, Option.some.injEq, Prod.mk.injEq] at hx
    obtain ⟨hz, hsz, hby⟩ := hx
    have HR := Lib.hid (fun (ty : TypeId) => Lib.run_append_nil_zeros (P := Try.prog) w 31 3 ty 9 i (.string ⟨#[]⟩) .i64 .i64 Try.underlying31 Try.underlying3 hi hz n hp (by omega) (by omega) (by rw [hby]; omega))
    have hc1 := grownCap_ge w n 0 9
    have hc2 := grownCap_le_maxLen w n 0 9 (by unfold maxLen; omega)
    have HROW := Lib.hid (grow_row w n _ hc1 hc2)
    have HB := Lib.hid (show Below w.heap.size w (w.drew.alloc (.cells (Builtin.zeroCells #[.string ⟨#[]⟩] n ++ Builtin.zeroCells #[.string ⟨#[]⟩] (grownCap w n 0 9 - n)) 9)) from (Below.refl _ _).drew.alloc (Nat.le_refl _) _)
    generalize grownCap w n 0 9 = cp at *
    have hcp : (cp : Int) ≤ 9223372036854775807 := by unfold maxLen at hc2; omega
    clear hc1 hc2 hz hsz hby hi h0
    go_enter Try.func178, Try.ntmps178
    go_wp2_with (at_builtin; (refine wpList_append_run rfl (.tmp 20) (.tmp 21) #[31, 3] rfl rfl rfl (HR.out _) ?_))
    go_ret
    exact ⟨_, rfl, HROW.out, HB.out⟩

set_option maxHeartbeats 4000000 in
theorem lib_concat (g : Nat) (A1 A2 : Option Addr) (xs ys : List ByteArray) (c1 c2 : Nat) (w : World) (h0 : w.cell? ⟨g, 0, none⟩ = some (.slice A1 xs.length c1)) (h1 : w.cell? ⟨g, 1, none⟩ = some (.slice A2 ys.length c2))
    (hs1 : Strs w A1 xs) (hs2 : Strs w A2 ys) (hx : xs.length ≤ 1048576) (hy : ys.length ≤ 1048576) : Calls Try.prog 173 #[.slice (some ⟨g, 0, none⟩) 2 2] w (StrsPost (xs ++ ys) w) := by
  have hg := World.block_lt_of_cell? w _ h0
  have HG := Lib.hid (lib_grow (xs.length + ys.length) w (by omega))
  have HC := Lib.hid (fun (W : World) (hW : Below w.heap.size w W) => show W.cell? ⟨g, 0, none⟩ = some (.slice A1 xs.length c1) ∧ W.cell? ⟨g, 1, none⟩ = some (.slice A2 ys.length c2) from ⟨(hW.cell (p := ⟨g, 0, none⟩) hg).trans h0, (hW.cell (p := ⟨g, 1, none⟩) hg).trans h1⟩)
  have HS1 := Lib.hid (fun (W : World) (hW : Below w.heap.size w W) => hs1.below hW)
  have HS2 := Lib.hid (fun (W : World) (hW : Below w.heap.size w W) => hs2.below hW)
  have HX := Lib.hid hx
  have HY := Lib.hid hy
  obtain ⟨n, hn⟩ : ∃ n, n = xs.length := ⟨_, rfl⟩
  obtain ⟨m, hm⟩ : ∃ m, m = ys.length := ⟨_, rfl⟩
  have hni : (n : Int) ≤ 1048576 := by omega
  have hmi : (m : Int) ≤ 1048576 := by omega
  have HN := Lib.hid hn
  have HM := Lib.hid hm
  rw [← hn, ← hm] at HG HC
  rw [← hn] at h0
  rw [← hm] at h1
  have HGC := Lib.hid (show Calls Try.prog 178 #[.slice none 0 0, .int .i64 ((n : Int) + (m : Int))] w (StrsPost [] w) by have h := HG.out; rw [Int.natCast_add] at h; exact h)
  have hn0 : (0 : Int) ≤ (n : Int) := by omega
  have hm0 : (0 : Int) ≤ (n : Int) + (m : Int) := by omega
  have hnl : ¬ (n : Int) < 0 := by omega
  have hml : ¬ (n : Int) + (m : Int) < 0 := by omega
  clear hs1 hs2 hx hy hn hm HG hg
  go_enter Try.func173, Try.ntmps173
  go_wp2_with fail
  refine wp_loop_rounds 3 ?_
  rw [rounds_succ]
  go_wp2_with fail
  rw [rounds_succ]
  go_wp2_with fail
  rw [rounds_succ]
  go_wp2_with fail
  go_at_call 178
  refine HGC.out.mono ?_
  rintro e w1 ⟨v, rfl, ho, hb⟩
  have HO := Lib.hid ho
  have HB := Lib.hid hb
  clear ho hb
  obtain ⟨d0, d1⟩ := HC.out w1 HB.out
  go_wp2_with fail
  refine wp_loop_rounds 3 ?_
  rw [rounds_succ]
  go_wp2_with (at_builtin; (refine wpList_append_strs rfl (.tmp 31) (.tmp 32) rfl w.heap.size v [] rfl HO.out A1 xs c1 (by rw [← HN.out]; rfl) (HS1.out w1 HB.out) (by have := HX.out; simp; omega) HB.out.size ?_); intro v7 w7 ho7 hg7; have HO7 := Lib.hid ho7; have HB7 := Lib.hid (OwnsL.grown HB.out HO.out hg7); clear ho7 hg7; obtain ⟨z0, z1⟩ := HC.out w7 HB7.out)
  rw [rounds_succ]
  go_wp2_with (at_builtin; (refine wpList_append_strs rfl (.tmp 31) (.tmp 32) rfl w.heap.size v7 ([] ++ xs) rfl HO7.out A2 ys c2 (by rw [← HM.out]; rfl) (HS2.out w7 HB7.out) (by have := HX.out; have := HY.out; simp; omega) HB7.out.size ?_); intro v8 w8 ho8 hg8; have HO8 := Lib.hid ho8; have HB8 := Lib.hid (OwnsL.grown HB7.out HO7.out hg8); clear ho8 hg8)
  rw [rounds_succ]
  go_wp2_with fail
  go_ret
  exact ⟨_, rfl, HO8.out, HB8.out⟩
end Go.Proofs.Ytmndlhbgacgnlaa
