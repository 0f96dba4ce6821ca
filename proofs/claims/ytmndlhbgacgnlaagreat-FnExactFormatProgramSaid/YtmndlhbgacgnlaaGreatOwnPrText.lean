/- The contracts of the library's slices.Grow of nil and slices.Concat of two slices of strings, and of the program's own Rule.arguments. Condition: fewer than 2^40 elements together. The contracts of the program's own setOfNames and AllDistinct. Conditions: lists of fewer than 2^40 elements, strings of a size that an int holds. The contract of the program's own IndexOf. Condition: lists of fewer than 2^47 elements. The contracts of the program's own methods arguments, hasRightArguments, hasNoFreeVars, hasRightParts and isRightAlone of a rule. Condition: nodes and letters of the rule together at most 1048576. The contracts of the program's own methods hasNoFreeVars, hasRightParts and isRightAlone of a rule. Condition: nodes and letters of the rule together at most 1048576. The contract of the program's own method areMetByRule: it says of a rule of the program whether it goes with the others. Conditions: the demands are those of the program; fewer than 2^40 parameters; nodes and letters of the rule together at most 1048576. The contracts of the program's own allRules, with each of its two functions. Condition: nodes and letters of the program together at most 1048576. The contract of the program's own IsValidProgram. Conditions: nodes and letters of the program together at most 1048576; no string shares the memory of the program. The contract of the program's own FormatProgram. Conditions: nodes and letters of the program together at most 1048576; no string shares the memory of the program. -/
import Derived.Test.YtmndlhbgacgnlaaGreatAppStrs
import Derived.Test.YtmndlhbgacgnlaaGreatRuSz
import Derived.Lib.AppendZerosOnto
import Derived.Test.YtmndlhbgacgnlaaGreatSet
import Derived.Test.YtmndlhbgacgnlaaGreatSpecDistinct
import Derived.Deep.LoopGhost
import Derived.Deep.Cut
import Derived.Test.YtmndlhbgacgnlaaGreatSpecNames
import Derived.Test.YtmndlhbgacgnlaaGreatOwnIsName
import Derived.Test.YtmndlhbgacgnlaaGreatOwnVars
import Derived.Test.YtmndlhbgacgnlaaGreatOwnValid
import Derived.Test.YtmndlhbgacgnlaaGreatValidEq
import Derived.Test.YtmndlhbgacgnlaaGreatOwnFor
import Derived.Test.YtmndlhbgacgnlaaGreatSpecPrText
import Derived.Test.YtmndlhbgacgnlaaGreatOwnRuText
namespace Go.Proofs.YtmndlhbgacgnlaaGreat
open Go Go.RowKit

theorem wpList_append_run {P : Program} {w w' : World} {ops : Array Oper} {rest : List Oper} {o : Oper} {a : Act} {Q : Exit → Act → World → Prop} (hgd : o.guard = none) (s x : Operand) (ts : Array TypeId)
    (ho : o.op = .call { callee := .builtin .append, args := #[s, x], argTypes := ts }) {v x' v' : Value} (hs : a.eval s = v) (hx : a.eval x = x') (hr : (Builtin.append_ ts o.type #[v, x']).run P w = .ok v' w')
    (h : wpList P ops Q rest (a.put o.dst v') w') : wpList P ops Q (o :: rest) a w := by
  refine wpList_plain hgd fun K hK => ?_
  unfold Oper.wp execOp
  simp only [ho, resolve, invoke, builtin, Sem.run_bind, Sem.run_pure, Result.andThen_ok, List.map_toArray, List.map_cons, List.map_nil, hs, hx, hr]
  exact hK _ _ h
/-- A slice of strings of the call's own comes back. -/
def StrsPost (xs : List ByteArray) (w : World) (e : Ending) (w' : World) : Prop := ∃ v, e = .returned v ∧ OwnsL w.heap.size w' v xs ∧ Below w.heap.size w w'
theorem grow_row (w : World) (n cp : Nat) (h1 : n ≤ cp) (h2 : cp ≤ maxLen) : OwnsL w.heap.size (w.drew.alloc (.cells (Builtin.zeroCells #[.string ⟨#[]⟩] n ++ Builtin.zeroCells #[.string ⟨#[]⟩] (cp - n)) 9)) (.slice (some ⟨w.heap.size, 0, none⟩) 0 cp) [] := by
  refine ⟨rfl, Or.inr ⟨w.heap.size, cp, _, rfl, Nat.le_refl _, heap_alloc_new w.drew _, Nat.zero_le _, h2, ?_, by simp⟩⟩
  simp [Builtin.zeroCells]; omega
set_option maxHeartbeats 1000000 in
theorem lib_grow (n : Nat) (w : World) (hn : n ≤ 1099511627776) : Calls Tryz.prog 136 #[.slice none 0 0, .int .i64 (n : Int)] w (StrsPost [] w) := by
  have hni : (n : Int) ≤ 1099511627776 := by omega
  by_cases h0 : n = 0
  · subst h0
    show Calls Tryz.prog 136 #[.slice none 0 0, .int .i64 0] w (StrsPost [] w)
    go_enter Tryz.func136, Tryz.ntmps136
    go_wp2_with fail
    go_ret
    exact ⟨_, rfl, World.ownsRow_nil _ _ _ _, Below.refl _ _⟩
  · have hp : 0 < n := by omega
    have hpi : (0 : Int) < (n : Int) := by omega
    have hx := Tryz.info9u
    cases hi : Tryz.prog.info? 9 with
    | none => rw [hi] at hx; cases hx
    | some i =>
    rw [hi] at hx
    simp only [Option.map_some, Option.some.injEq, Prod.mk.injEq] at hx
    obtain ⟨hz, hsz, hby⟩ := hx
    have HR := Lib.hid (fun (ty : TypeId) => Lib.run_append_nil_zeros (P := Tryz.prog) w 29 3 ty 9 i (.string ⟨#[]⟩) .i64 .i64 Tryz.underlying29 Tryz.underlying3 hi hz n hp (by omega) (by omega) (by rw [hby]; omega))
    have hc1 := grownCap_ge w n 0 9
    have hc2 := grownCap_le_maxLen w n 0 9 (by unfold maxLen; omega)
    have HROW := Lib.hid (grow_row w n _ hc1 hc2)
    have HB := Lib.hid (show Below w.heap.size w (w.drew.alloc (.cells (Builtin.zeroCells #[.string ⟨#[]⟩] n ++ Builtin.zeroCells #[.string ⟨#[]⟩] (grownCap w n 0 9 - n)) 9)) from (Below.refl _ _).drew.alloc (Nat.le_refl _) _)
    generalize grownCap w n 0 9 = cp at *
    have hcp : (cp : Int) ≤ 9223372036854775807 := by unfold maxLen at hc2; omega
    clear hc1 hc2 hz hsz hby hi h0
    go_enter Tryz.func136, Tryz.ntmps136
    go_wp2_with (at_builtin; (refine wpList_append_run rfl (.tmp 20) (.tmp 21) #[29, 3] rfl rfl rfl (HR.out _) ?_))
    go_ret
    exact ⟨_, rfl, HROW.out, HB.out⟩

set_option maxHeartbeats 4000000 in
theorem lib_concat (g : Nat) (A1 A2 : Option Addr) (xs ys : List ByteArray) (c1 c2 : Nat) (w : World) (h0 : w.cell? ⟨g, 0, none⟩ = some (.slice A1 xs.length c1)) (h1 : w.cell? ⟨g, 1, none⟩ = some (.slice A2 ys.length c2))
    (hs1 : Strs w A1 xs) (hs2 : Strs w A2 ys) (hx : xs.length ≤ 1048576) (hy : ys.length ≤ 1048576) : Calls Tryz.prog 120 #[.slice (some ⟨g, 0, none⟩) 2 2] w (StrsPost (xs ++ ys) w) := by
  have hg := World.block_lt_of_cell? w _ h0
  have HG := Lib.hid (lib_grow (xs.length + ys.length) w (by omega))
  have HC := Lib.hid (fun (W : World) (hW : Below w.heap.size w W) => show W.cell? ⟨g, 0, none⟩ = some (.slice A1 xs.length c1) ∧ W.cell? ⟨g, 1, none⟩ = some (.slice A2 ys.length c2) from ⟨(hW.cell (p := ⟨g, 0, none⟩) hg).trans h0, (hW.cell (p := ⟨g, 1, none⟩) hg).trans h1⟩)
  have HS1 := Lib.hid (fun (W : World) (hW : Below w.heap.size w W) => hs1.below hW)
  have HS2 := Lib.hid (fun (W : World) (hW : Below w.heap.size w W) => hs2.below hW)
  have HX := Lib.hid hx
  have HY := Lib.hid hy
  obtain ⟨n, hn⟩ : ∃ n, n = xs.length := ⟨_, rfl⟩
  obtain ⟨m, hm⟩ : ∃ m, m = ys.length := ⟨_, rfl⟩
  have hni : (n : Int) ≤ 1048576 := by omega
  have hmi : (m : Int) ≤ 1048576 := by omega
  have HN := Lib.hid hn
  have HM := Lib.hid hm
  rw [← hn, ← hm] at HG HC
  rw [← hn] at h0
  rw [← hm] at h1
  have HGC := Lib.hid (show Calls Tryz.prog 136 #[.slice none 0 0, .int .i64 ((n : Int) + (m : Int))] w (StrsPost [] w) by have h := HG.out; rw [Int.natCast_add] at h; exact h)
  have hn0 : (0 : Int) ≤ (n : Int) := by omega
  have hm0 : (0 : Int) ≤ (n : Int) + (m : Int) := by omega
  have hnl : ¬ (n : Int) < 0 := by omega
  have hml : ¬ (n : Int) + (m : Int) < 0 := by omega
  clear hs1 hs2 hx hy hn hm HG hg
  go_enter Tryz.func120, Tryz.ntmps120
  go_wp2_with fail
  refine wp_loop_rounds 3 ?_
  rw [rounds_succ]
  go_wp2_with fail
  rw [rounds_succ]
  go_wp2_with fail
  rw [rounds_succ]
  go_wp2_with fail
  go_at_call 136
  refine HGC.out.mono ?_
  rintro e w1 ⟨v, rfl, ho, hb⟩
  have HO := Lib.hid ho
  have HB := Lib.hid hb
  clear ho hb
  obtain ⟨d0, d1⟩ := HC.out w1 HB.out
  go_wp2_with fail
  refine wp_loop_rounds 3 ?_
  rw [rounds_succ]
  go_wp2_with (at_builtin; (refine wpList_append_strs rfl (.tmp 31) (.tmp 32) rfl w.heap.size v [] rfl HO.out A1 xs c1 (by rw [← HN.out]; rfl) (HS1.out w1 HB.out) (by have := HX.out; simp; omega) HB.out.size ?_); intro v7 w7 ho7 hg7; have HO7 := Lib.hid ho7; have HB7 := Lib.hid (OwnsL.grown HB.out HO.out hg7); clear ho7 hg7; obtain ⟨z0, z1⟩ := HC.out w7 HB7.out)
  rw [rounds_succ]
  go_wp2_with (at_builtin; (refine wpList_append_strs rfl (.tmp 31) (.tmp 32) rfl w.heap.size v7 ([] ++ xs) rfl HO7.out A2 ys c2 (by rw [← HM.out]; rfl) (HS2.out w7 HB7.out) (by have := HX.out; have := HY.out; simp; omega) HB7.out.size ?_); intro v8 w8 ho8 hg8; have HO8 := Lib.hid ho8; have HB8 := Lib.hid (OwnsL.grown HB7.out HO7.out hg8); clear ho8 hg8)
  rw [rounds_succ]
  go_wp2_with fail
  go_ret
  exact ⟨_, rfl, HO8.out, HB8.out⟩
end Go.Proofs.YtmndlhbgacgnlaaGreat

namespace Go.Proofs.YtmndlhbgacgnlaaGreat
open Go Go.RowKit

def SetPost (xs : List ByteArray) (w : World) (e : Ending) (w' : World) : Prop := e = .returned (.map (some w.heap.size)) ∧ SetIs w' w.heap.size xs.length xs ∧ Below w.heap.size w w'

set_option maxHeartbeats 1000000 in
theorem own_set (A : Option Addr) (xs : List ByteArray) (cap : Nat) (w : World) (hs : Strs w A xs) (hn : xs.length ≤ 1099511627776) (hx : ∀ x ∈ xs, x.size ≤ 9223372036854775807) :
    Calls Tryz.prog 135 #[.slice A xs.length cap] w (SetPost xs w) := by
  obtain ⟨n, hnn⟩ : ∃ n, n = xs.length := ⟨_, rfl⟩
  have HN := Lib.hid hnn
  have HS := Lib.hid hs
  have HX := Lib.hid hx
  rw [← hnn]
  rw [← hnn] at hn
  clear hs hnn hx
  have hmm := run_makeHint
  go_enter Tryz.func135, Tryz.ntmps135
  go_wp2
  have H0 := Lib.hid (set_made w)
  have HB0 := Lib.hid ((Below.refl w.heap.size w).alloc (Nat.le_refl _) (.map #[] 0))
  clear hmm
  go_loopw [11] (fun i wr => ∃ k : Nat, k ≤ n ∧ i = .int .i64 (k : Int) ∧ Hid (SetIs wr w.heap.size k (xs.take k)) ∧ Hid (Below w.heap.size w wr)) (fun i _ => n - (intOf i).toNat)
  case atStart => exact ⟨0, Nat.zero_le _, rfl, H0, HB0⟩
  case round =>
    obtain ⟨k, hk, rfl, HT, HB⟩ := hrel
    by_cases hlt : k < n
    · obtain ⟨a, x, rfl, hc0, hmem, -, htake, hab⟩ := HS.out.get k (by rw [← HN.out]; exact hlt)
      have hc : wr.cell? (a.add k) = some (.string x) := (HB.out.cell (p := a.add k) (by rw [block_add]; exact hab)).trans hc0
      have HXS := Lib.hid (show x.size ≤ maxLen from HX.out x hmem)
      have HK := Lib.hid (show k < maxLen by unfold maxLen; omega)
      have HTK := Lib.hid htake
      clear hc0 hmem htake
      go_wp2_with (at_mapUpdate; refine add_set _ rfl _ _ _ rfl w.heap.size k _ rfl HT.out HK.out x rfl rfl HXS.out ?_; intro w1 hs1 hg1; have HT1 := Lib.hid hs1; have HG1 := Lib.hid hg1; clear hs1 hg1)
      go_roundw
      case rel => exact ⟨k + 1, by omega, by go_num, Lib.hid (by rw [HTK.out]; exact HT1.out), Lib.hid (HB.out.grown HG1.out HB.out.size (fun j hj => by cases hj; exact Nat.le_refl _))⟩
      case measure => simp [intOf]; omega
    · have HE := Lib.hid (show xs.take k = xs from List.take_of_length_le (by rw [← HN.out]; omega))
      have HK := Lib.hid (show k = xs.length by rw [← HN.out]; omega)
      go_wp2
      go_ret
      refine ⟨rfl, ?_, HB.out⟩
      have h := HT.out
      rw [HE.out, HK.out] at h
      exact h

def DistEnd (xs : List ByteArray) (w : World) (e : Ending) (w' : World) : Prop := e = .returned (.bool (distinct xs)) ∧ Below w.heap.size w w'
set_option maxHeartbeats 400000 in
theorem own_distinct (A : Option Addr) (xs : List ByteArray) (cap : Nat) (w : World) (hs : Strs w A xs) (hn : xs.length ≤ 1099511627776) (hx : ∀ x ∈ xs, x.size ≤ 9223372036854775807) :
    Calls Tryz.prog 119 #[.slice A xs.length cap] w (DistEnd xs w) := by
  have HF := Lib.hid (own_set A xs cap w hs hn hx)
  have HD := Lib.hid (set_size_distinct xs)
  clear hs hx
  obtain ⟨n, hnn⟩ : ∃ n, n = xs.length := ⟨_, rfl⟩
  have HN := Lib.hid hnn
  rw [← hnn]
  rw [← hnn] at hn
  have HD2 := Lib.hid (show (((uniteFrom [] xs).length : Int) == (n : Int)) = distinct xs by rw [hnn]; exact HD.out)
  have HF2 := Lib.hid (show Calls Tryz.prog 135 #[.slice A n cap] w (SetPost xs w) by rw [hnn]; exact HF.out)
  clear hnn HD HF
  unfold DistEnd
  generalize distinct xs = c at *
  go_enter Tryz.func119, Tryz.ntmps119
  go_wp2_with (first | (go_at_call 135; refine HF2.out.mono ?_; rintro e w1 ⟨rfl, hs1, hb1⟩; have HS1 := Lib.hid hs1; have HB1 := Lib.hid hb1; clear hs1 hb1) | (at_len; refine len_set _ rfl _ rfl w.heap.size _ xs rfl HS1.out ?_))
  go_ret
  exact ⟨by rw [← HD2.out]; rfl, HB1.out⟩

end Go.Proofs.YtmndlhbgacgnlaaGreat

namespace Go.Proofs.YtmndlhbgacgnlaaGreat
open Go Go.RowKit

theorem beq_yes2 {x s : ByteArray} (h : x = s) : (s.toList == x.toList) = true := by rw [h]; simp
theorem beq_no2 {x s : ByteArray} (h : ¬ x = s) : (s.toList == x.toList) = false := by
  cases hb : (s.toList == x.toList) with
  | false => rfl
  | true =>
    rw [beq_iff_eq, ByteArray.toList_eq, ByteArray.toList_eq] at hb
    exact absurd (bytes_eq hb.symm) h
set_option maxHeartbeats 1000000 in
theorem lib_index (A : Option Addr) (xs : List ByteArray) (cap : Nat) (s : ByteArray) (w : World) (hs : Strs w A xs) (hn : xs.length ≤ 140737488355328) :
    Calls Tryz.prog 122 #[.slice A xs.length cap, .string s] w fun e w' => e = .returned (.int .i64 (idx xs s)) ∧ w = w' := by
  obtain ⟨n, hnn⟩ : ∃ n, n = xs.length := ⟨_, rfl⟩
  have HN := Lib.hid hnn
  have HS := Lib.hid hs
  rw [← hnn]
  rw [← hnn] at hn
  clear hs hnn
  go_enter Tryz.func122, Tryz.ntmps122
  go_wp2
  go_loop [8] (fun i => ∃ k : Nat, k ≤ n ∧ i = .int .i64 (k : Int) ∧ Hid (idx xs s = idxFrom s k (xs.drop k))) (fun i => n - (intOf i).toNat)
  case atStart => exact ⟨0, Nat.zero_le _, rfl, Lib.hid rfl⟩
  case round =>
    obtain ⟨k, hk, rfl, HK⟩ := hrel
    by_cases hlt : k < n
    · obtain ⟨a, x, rfl, hc, -, hx, -, -⟩ := HS.out.get k (by rw [← HN.out]; exact hlt)
      have HD := Lib.hid (idx_here xs s k x hx)
      clear hx
      by_cases e : x = s
      · have hb := beq_yes2 e
        have HE := Lib.hid (HK.out.trans (HD.out.1 e))
        clear e
        go_wp2
        go_ret
        exact ⟨by rw [HE.out]; rfl, rfl⟩
      · have hb := beq_no2 e
        have HE := Lib.hid (HK.out.trans (HD.out.2 e))
        clear e
        go_wp2
        go_round
        case rel => exact ⟨k + 1, by omega, by go_num, HE⟩
        case measure => simp [intOf]; omega
    · have HE := Lib.hid (show idxFrom s k (xs.drop k) = -1 by rw [List.drop_eq_nil_of_le (by rw [← HN.out]; omega)]; rfl)
      go_wp2
      go_ret
      exact ⟨by rw [HK.out, HE.out]; rfl, rfl⟩
set_option maxHeartbeats 400000 in
theorem own_index (A : Option Addr) (xs : List ByteArray) (cap : Nat) (s : ByteArray) (w : World) (hs : Strs w A xs) (hn : xs.length ≤ 140737488355328) :
    Calls Tryz.prog 91 #[.slice A xs.length cap, .string s] w fun e w' => e = .returned (.int .i64 (idx xs s)) ∧ Below w.heap.size w w' := by
  have HF := Lib.hid (lib_index A xs cap s w hs hn)
  clear hs hn
  generalize idx xs s = r at *
  go_enter Tryz.func91, Tryz.ntmps91
  go_wp2_with fail
  go_at_call 122
  refine HF.out.mono ?_
  rintro e w' ⟨rfl, rfl⟩
  go_wp2_with fail
  go_ret
  exact ⟨rfl, Below.refl _ _⟩
end Go.Proofs.YtmndlhbgacgnlaaGreat

namespace Go.Proofs.YtmndlhbgacgnlaaGreat
open Go Go.RowKit

/-- A rule as a value, opened: its slices, its box, what is known of them in later worlds. -/
structure Opened (r : Ru) (w W0 : World) (A1 A2 A3 : Option Addr) (c1 c2 q3 c3 : Nat) (b3 : List Nat) : Prop where
  world : W0 = w.alloc (.cells #[.string r.name, .string r.con, .slice A1 r.vars.length c1, .slice A2 r.params.length c2, .int .i64 r.body.kind, .string r.body.name, .slice A3 q3 c3] 34)
  low : Below w.heap.size w W0
  box : ∀ W, Below W0.heap.size W0 W → W.cell? ⟨w.heap.size, 0, none⟩ = some (.string r.name) ∧ W.cell? ⟨w.heap.size, 1, none⟩ = some (.string r.con) ∧ W.cell? ⟨w.heap.size, 2, none⟩ = some (.slice A1 r.vars.length c1) ∧ W.cell? ⟨w.heap.size, 3, none⟩ = some (.slice A2 r.params.length c2) ∧ W.cell? ⟨w.heap.size, 4, none⟩ = some (.int .i64 r.body.kind) ∧ W.cell? ⟨w.heap.size, 5, none⟩ = some (.string r.body.name) ∧ W.cell? ⟨w.heap.size, 6, none⟩ = some (.slice A3 q3 c3)
  s1 : ∀ W, Below W0.heap.size W0 W → Strs W A1 r.vars
  s2 : ∀ W, Below W0.heap.size W0 W → Strs W A2 r.params
  bd : ∀ W, Below W0.heap.size W0 W → ExIs W (.agg #[.int .i64 r.body.kind, .string r.body.name, .slice A3 q3 c3]) r.body b3
theorem ru_opened {r : Ru} {v : Value} {b : List Nat} {w : World} (hv : RuIs w v r b) : ∃ A1 A2 A3 c1 c2 q3 c3 b3, v = .agg #[.string r.name, .string r.con, .slice A1 r.vars.length c1, .slice A2 r.params.length c2, .int .i64 r.body.kind, .string r.body.name, .slice A3 q3 c3] ∧
    Opened r w (w.alloc (.cells #[.string r.name, .string r.con, .slice A1 r.vars.length c1, .slice A2 r.params.length c2, .int .i64 r.body.kind, .string r.body.name, .slice A3 q3 c3] 34)) A1 A2 A3 c1 c2 q3 c3 b3 := by
  obtain ⟨v1, v2, u, b1, b2, b3, rfl, h1, h2, rfl, h3, h4, h5⟩ := hv
  obtain ⟨A1, c1, rfl⟩ := h3.slice
  obtain ⟨A2, c2, rfl⟩ := h4.slice
  obtain ⟨A3, q3, c3, rfl⟩ := his_slice0 h5
  have hs1 := h3.strs.2.2.2.1
  have hs2 := h4.strs.2.2.2.1
  have hlow : Below w.heap.size w (w.alloc (.cells #[.string r.name, .string r.con, .slice A1 r.vars.length c1, .slice A2 r.params.length c2, .int .i64 r.body.kind, .string r.body.name, .slice A3 q3 c3] 34)) := (Below.refl _ w).alloc (Nat.le_refl _) _
  refine ⟨A1, A2, A3, c1, c2, q3, c3, b3, rfl, rfl, hlow, fun W hb => ?_, fun W hb => (hs1.below hlow).below hb, fun W hb => (hs2.below hlow).below hb, fun W hb => (h5.below hlow).below hb⟩
  exact (show Box7 W w.heap.size 34 (.string r.name) (.string r.con) (.slice A1 r.vars.length c1) (.slice A2 r.params.length c2) (.int .i64 r.body.kind) (.string r.body.name) (.slice A3 q3 c3) from (hb.block _ (by simp)).trans (heap_alloc_new w _)).cells
theorem own_low {w : World} {B C : Nat} {v : Value} {out : List ByteArray} (h : OwnsL B w v out) (hC : C ≤ B) : OwnsL C w v out := by
  obtain ⟨h1, h2⟩ := h
  refine ⟨h1, ?_⟩
  rcases h2 with h2 | ⟨g, cap, cur, e, hb, rest⟩
  · exact Or.inl h2
  · exact Or.inr ⟨g, cap, cur, e, Nat.le_trans hC hb, rest⟩
theorem owned_row {B : Nat} {W : World} {v : Value} {xs : List ByteArray} (ho : OwnsL B W v xs) : ∃ A c, v = .slice A xs.length c ∧ xs.length ≤ c ∧ Strs W A xs := by
  obtain ⟨A8, c8, rfl, hst⟩ := ho.shape
  refine ⟨A8, c8, rfl, ?_, hst⟩
  rcases ho.2 with ⟨h0, -⟩ | ⟨g, cap, cur, h0, -, -, hn, -⟩
  · simp only [Value.slice.injEq] at h0; omega
  · simp only [Value.slice.injEq] at h0; omega

set_option maxRecDepth 100000 in
set_option maxHeartbeats 1000000 in
theorem own_args (r : Ru) (v : Value) (b : List Nat) (w : World) (hv : RuIs w v r b) (hz : ruTot r ≤ 1048576) : Calls Tryz.prog 89 #[v] w (StrsPost (r.vars ++ r.params) w) := by
  obtain ⟨A1, A2, A3, c1, c2, q3, c3, b3, rfl, hop⟩ := ru_opened hv
  obtain ⟨W0, hW0⟩ : ∃ W0, W0 = w.alloc (.cells #[.string r.name, .string r.con, .slice A1 r.vars.length c1, .slice A2 r.params.length c2, .int .i64 r.body.kind, .string r.body.name, .slice A3 q3 c3] 34) := ⟨_, rfl⟩
  rw [← hW0] at hop
  have HP := Lib.hid hop
  have HW0 := Lib.hid hW0
  have HZ := Lib.hid hz
  have HRU := fun (W : World) (hW : Below W0.heap.size W0 W) => (hv.below hop.low).below hW
  have HRUH := Lib.hid HRU
  clear hop hv hW0 hz
  have hl : r.vars.length ≤ 1048576 ∧ r.params.length ≤ 1048576 := by have := HZ.out; unfold ruTot ssTot at this; omega
  obtain ⟨x0, x1, x2, x3, x4, x5, x6⟩ := HP.out.box W0 (Below.refl _ _)
  obtain ⟨W1, hW1⟩ : ∃ W1, W1 = W0.alloc (.cells #[.slice A1 r.vars.length c1, .slice A2 r.params.length c2] 29) := ⟨_, rfl⟩
  have hn1 : W1.heap[W0.heap.size]? = some (.cells #[.slice A1 r.vars.length c1, .slice A2 r.params.length c2] 29 (0, 0)) := by rw [hW1]; exact heap_alloc_new W0 _
  have hsz : W0.heap.size = w.heap.size + 1 := by rw [HW0.out]; simp
  rw [hsz] at hn1
  have hb1 : Below W0.heap.size W0 W1 := by rw [hW1]; exact (Below.refl _ _).alloc (Nat.le_refl _) _
  have HC := Lib.hid (lib_concat (w.heap.size + 1) A1 A2 r.vars r.params c1 c2 W1 (by simp [World.cell?, hn1]) (by simp [World.cell?, hn1]) (HP.out.s1 W1 hb1) (HP.out.s2 W1 hb1) hl.1 hl.2)
  have HLW := Lib.hid (HP.out.low.trans (hb1.mono HP.out.low.size))
  have HW1 := Lib.hid hW1
  have HSZ := Lib.hid (show w.heap.size ≤ W1.heap.size from HLW.out.size)
  clear hn1 hb1 hW1 hl hsz
  go_enter Tryz.func89, Tryz.ntmps89
  go_wp2_with (rw [← HW0.out]; rw [← HW1.out]; go_at_call 120; refine HC.out.mono ?_; rintro e w2 ⟨v2, rfl, ho, hb⟩; have HO := Lib.hid ho; have HB := Lib.hid hb; clear ho hb)
  go_ret
  exact ⟨_, rfl, own_low HO.out HSZ.out, HLW.out.trans (HB.out.mono HSZ.out)⟩

set_option maxRecDepth 100000 in
set_option maxHeartbeats 8000000 in
theorem own_rightargs (r : Ru) (v : Value) (b : List Nat) (w : World) (hv : RuIs w v r b) (hz : ruTot r ≤ 1048576) : Calls Tryz.prog 88 #[v] w (RetPost (.bool (rightArgs r)) w) := by
  obtain ⟨A1, A2, A3, c1, c2, q3, c3, b3, rfl, hop⟩ := ru_opened hv
  obtain ⟨W0, hW0⟩ : ∃ W0, W0 = w.alloc (.cells #[.string r.name, .string r.con, .slice A1 r.vars.length c1, .slice A2 r.params.length c2, .int .i64 r.body.kind, .string r.body.name, .slice A3 q3 c3] 34) := ⟨_, rfl⟩
  rw [← hW0] at hop
  have HP := Lib.hid hop
  have HW0 := Lib.hid hW0
  have HZ := Lib.hid hz
  have HRU := fun (W : World) (hW : Below W0.heap.size W0 W) => (hv.below hop.low).below hW
  have HRUH := Lib.hid HRU
  clear hop hv hW0 hz
  have HLEN := Lib.hid (show (r.vars ++ r.params).length ≤ 1099511627776 by have := HZ.out; unfold ruTot ssTot at this; simp; omega)
  have HXS := Lib.hid (show ∀ x ∈ r.vars ++ r.params, x.size ≤ 9223372036854775807 from by
    intro x hx
    have h9 := HZ.out
    unfold ruTot ssTot at h9
    rcases List.mem_append.1 hx with hx | hx
    · have := tot_mem hx; omega
    · have := tot_mem hx; omega)
  have HARG := Lib.hid (fun (W : World) (hW : Below W0.heap.size W0 W) => show Calls Tryz.prog 89 #[.agg #[.string r.name, .string r.con, .slice A1 r.vars.length c1, .slice A2 r.params.length c2, .int .i64 r.body.kind, .string r.body.name, .slice A3 q3 c3]] W (StrsPost (r.vars ++ r.params) W) from own_args r _ _ W (HRU W hW) HZ.out)
  clear HRU
  have HCN0 := Lib.hid (own_iscon r.con W0)
  obtain ⟨x0, x1, x2, x3, x4, x5, x6⟩ := HP.out.box W0 (Below.refl _ _)
  cases hcn : isCn r.con
  · have HCC := Lib.hid (show nameL 65 90 r.con.data.toList = false from hcn)
    by_cases hcon : r.con.size = 0
    · have hbe := empty_yes hcon
      by_cases hv0 : r.vars.length = 0
      · have hvb : ((r.vars.length : Int) == 0) = true := by simp [hv0]
        by_cases h5 : r.vars.length ≤ 5
        · have h5i : (r.vars.length : Int) ≤ 5 := by omega
          have h5j : ¬ (5 : Int) < (r.vars.length : Int) := by omega
          by_cases h4 : r.params.length ≤ 4
          · have h4i : (r.params.length : Int) ≤ 4 := by omega
            have h4j : ¬ (4 : Int) < (r.params.length : Int) := by omega
            have HRES := Lib.hid (show rightArgs r = (allNm (r.vars ++ r.params) && distinct (r.vars ++ r.params)) by unfold rightArgs; rw [hcn, decide_eq_true hcon, decide_eq_true hv0, decide_eq_true h5, decide_eq_true h4]; rfl)
            clear h5 h4 hcn hcon hv0
            go_enter Tryz.func88, Tryz.ntmps88
            go_wp2_with fail
            rw [← HW0.out]
            go_at_call 101
            refine HCN0.out.mono ?_
            rintro e w1 ⟨rfl, hb1⟩
            rw [HCC.out]
            have HB1 := Lib.hid hb1
            clear hb1
            obtain ⟨y0, y1, y2, y3, y4, y5, y6⟩ := HP.out.box w1 HB1.out
            go_wp2_with fail
            go_at_call 89
            refine (HARG.out _ HB1.out).mono ?_
            rintro e w3 ⟨v3, rfl, ho3, hb3⟩
            obtain ⟨A8, c8, rfl, hc8, hst⟩ := owned_row ho3
            have HST := Lib.hid hst
            have HB3 := Lib.hid (HB1.out.trans (hb3.mono HB1.out.size))
            have HDI := Lib.hid (fun (W : World) (hW : Below w3.heap.size w3 W) => own_distinct A8 (r.vars ++ r.params) c8 W (hst.below hW) HLEN.out HXS.out)
            have HG := Lib.hid (fun (k : Nat) (h : k < (r.vars ++ r.params).length) => hst.at_ k h)
            have HR0 := Lib.hid HRES.out
            generalize (r.vars ++ r.params) = zs at *
            obtain ⟨m, hm⟩ : ∃ m, m = zs.length := ⟨_, rfl⟩
            rw [← hm] at HDI HLEN ⊢
            have HM := Lib.hid hm
            have hmi : (m : Int) ≤ 1099511627776 := by have := HLEN.out; omega
            clear ho3 hb3 hst hc8 hm
            go_wp2_with fail
            go_loopw [39] (fun i wr => ∃ (k : Nat), k ≤ m ∧ i = .int .i64 (k : Int) ∧ Hid (allNm zs = allNm (zs.drop k)) ∧ Hid (Below w3.heap.size w3 wr)) (fun i _ => m - (intOf i).toNat)
            case atStart => exact ⟨0, Nat.zero_le _, rfl, Lib.hid rfl, Lib.hid (Below.refl _ _)⟩
            case round =>
              obtain ⟨k, hk, rfl, HK, HBR⟩ := hrel
              have HLO := Lib.hid (HP.out.low.trans ((HB3.out.trans (HBR.out.mono HB3.out.size)).mono HP.out.low.size))
              by_cases hlt : k < m
              · obtain ⟨a, e1, hca0, hla⟩ := HG.out k (by rw [← HM.out]; exact hlt)
                have HGN := Lib.hid (allNm_here (xs := zs) (k := k) (List.getElem?_eq_getElem (by rw [← HM.out]; exact hlt)))
                subst e1
                generalize zs[k]'(by rw [← HM.out]; exact hlt) = x at *
                have hca : wr.cell? (a.add k) = some (.string x) := (HBR.out.cell (p := a.add k) (by rw [block_add]; exact hla)).trans hca0
                clear hca0
                have HCN := Lib.hid (own_isname x wr)
                have hk0 : (0 : Int) ≤ (k : Int) := by omega
                have hkn : (k : Int) < (m : Int) := by omega
                cases hnm : isNm x
                · have HE := Lib.hid (show rightArgs r = false by rw [HR0.out, HK.out, HGN.out, hnm]; rfl)
                  have HNM := Lib.hid (show nameL 97 122 x.data.toList = false from hnm)
                  clear hnm
                  go_wp2_with (go_at_call 87; refine HCN.out.mono ?_; rintro e w4 ⟨rfl, hb4⟩; rw [HNM.out]; have HB4 := Lib.hid hb4; clear hb4)
                  go_ret
                  exact ⟨by rw [HE.out]; rfl, HLO.out.trans (HB4.out.mono HLO.out.size)⟩
                · have HE := Lib.hid (show allNm zs = allNm (zs.drop (k + 1)) by rw [HK.out, HGN.out, hnm, Bool.true_and])
                  have HNM := Lib.hid (show nameL 97 122 x.data.toList = true from hnm)
                  clear hnm
                  go_wp2_with (go_at_call 87; refine HCN.out.mono ?_; rintro e w4 ⟨rfl, hb4⟩; rw [HNM.out]; have HB4 := Lib.hid (HBR.out.trans (hb4.mono HBR.out.size)); clear hb4)
                  go_roundw
                  case rel => exact ⟨k + 1, by omega, by go_num, HE, HB4⟩
                  case measure => simp [intOf]; omega
              · have HE := Lib.hid (show rightArgs r = distinct zs by rw [HR0.out, HK.out, List.drop_eq_nil_of_le (by rw [← HM.out]; omega)]; rfl)
                go_wp2_with (go_at_call 119; refine (HDI.out wr HBR.out).mono ?_; rintro e w4 ⟨rfl, hb4⟩; have HB4 := Lib.hid hb4; clear hb4)
                go_ret
                exact ⟨by rw [HE.out]; rfl, HLO.out.trans (HB4.out.mono HLO.out.size)⟩
          · have h4i : (4 : Int) < (r.params.length : Int) := by omega
            have HE := Lib.hid (show rightArgs r = false by unfold rightArgs; rw [decide_eq_false h4]; simp)
            clear h5 h4 hcn hcon hv0
            go_enter Tryz.func88, Tryz.ntmps88
            go_wp2_with fail
            rw [← HW0.out]
            go_wp2_with (go_at_call 101; refine HCN0.out.mono ?_; rintro e w1 ⟨rfl, hb1⟩; rw [HCC.out]; have HB1 := Lib.hid hb1; clear hb1; obtain ⟨y0, y1, y2, y3, y4, y5, y6⟩ := HP.out.box w1 HB1.out)
            go_ret
            exact ⟨by rw [HE.out]; rfl, HP.out.low.trans (HB1.out.mono HP.out.low.size)⟩
        · have h5i : (5 : Int) < (r.vars.length : Int) := by omega
          have HE := Lib.hid (show rightArgs r = false by unfold rightArgs; rw [decide_eq_false h5]; simp)
          clear h5 hcn hcon hv0
          go_enter Tryz.func88, Tryz.ntmps88
          go_wp2_with fail
          rw [← HW0.out]
          go_wp2_with (go_at_call 101; refine HCN0.out.mono ?_; rintro e w1 ⟨rfl, hb1⟩; rw [HCC.out]; have HB1 := Lib.hid hb1; clear hb1; obtain ⟨y0, y1, y2, y3, y4, y5, y6⟩ := HP.out.box w1 HB1.out)
          go_ret
          exact ⟨by rw [HE.out]; rfl, HP.out.low.trans (HB1.out.mono HP.out.low.size)⟩
      · have hvb : ((r.vars.length : Int) == 0) = false := by simpa using hv0
        have HE := Lib.hid (show rightArgs r = false by unfold rightArgs; rw [hcn, decide_eq_false hv0]; simp)
        clear hcn hcon hv0
        go_enter Tryz.func88, Tryz.ntmps88
        go_wp2_with fail
        rw [← HW0.out]
        go_wp2_with (go_at_call 101; refine HCN0.out.mono ?_; rintro e w1 ⟨rfl, hb1⟩; rw [HCC.out]; have HB1 := Lib.hid hb1; clear hb1; obtain ⟨y0, y1, y2, y3, y4, y5, y6⟩ := HP.out.box w1 HB1.out)
        go_ret
        exact ⟨by rw [HE.out]; rfl, HP.out.low.trans (HB1.out.mono HP.out.low.size)⟩
    · have hbe := empty_not hcon
      have HE := Lib.hid (show rightArgs r = false by unfold rightArgs; rw [hcn, decide_eq_false hcon]; simp)
      clear hcn hcon
      go_enter Tryz.func88, Tryz.ntmps88
      go_wp2_with fail
      rw [← HW0.out]
      go_wp2_with (go_at_call 101; refine HCN0.out.mono ?_; rintro e w1 ⟨rfl, hb1⟩; rw [HCC.out]; have HB1 := Lib.hid hb1; clear hb1; obtain ⟨y0, y1, y2, y3, y4, y5, y6⟩ := HP.out.box w1 HB1.out)
      go_ret
      exact ⟨by rw [HE.out]; rfl, HP.out.low.trans (HB1.out.mono HP.out.low.size)⟩
  · have HCC := Lib.hid (show nameL 65 90 r.con.data.toList = true from hcn)
    by_cases h5 : r.vars.length ≤ 5
    · have h5i : (r.vars.length : Int) ≤ 5 := by omega
      have h5j : ¬ (5 : Int) < (r.vars.length : Int) := by omega
      by_cases h4 : r.params.length ≤ 4
      · have h4i : (r.params.length : Int) ≤ 4 := by omega
        have h4j : ¬ (4 : Int) < (r.params.length : Int) := by omega
        have HRES := Lib.hid (show rightArgs r = (allNm (r.vars ++ r.params) && distinct (r.vars ++ r.params)) by unfold rightArgs; rw [hcn, decide_eq_true h5, decide_eq_true h4]; rfl)
        clear h5 h4 hcn
        go_enter Tryz.func88, Tryz.ntmps88
        go_wp2_with fail
        rw [← HW0.out]
        go_at_call 101
        refine HCN0.out.mono ?_
        rintro e w1 ⟨rfl, hb1⟩
        rw [HCC.out]
        have HB1 := Lib.hid hb1
        clear hb1
        obtain ⟨y0, y1, y2, y3, y4, y5, y6⟩ := HP.out.box w1 HB1.out
        go_wp2_with fail
        go_at_call 89
        refine (HARG.out _ HB1.out).mono ?_
        rintro e w3 ⟨v3, rfl, ho3, hb3⟩
        obtain ⟨A8, c8, rfl, hc8, hst⟩ := owned_row ho3
        have HST := Lib.hid hst
        have HB3 := Lib.hid (HB1.out.trans (hb3.mono HB1.out.size))
        have HDI := Lib.hid (fun (W : World) (hW : Below w3.heap.size w3 W) => own_distinct A8 (r.vars ++ r.params) c8 W (hst.below hW) HLEN.out HXS.out)
        have HG := Lib.hid (fun (k : Nat) (h : k < (r.vars ++ r.params).length) => hst.at_ k h)
        have HR0 := Lib.hid HRES.out
        generalize (r.vars ++ r.params) = zs at *
        obtain ⟨m, hm⟩ : ∃ m, m = zs.length := ⟨_, rfl⟩
        rw [← hm] at HDI HLEN ⊢
        have HM := Lib.hid hm
        have hmi : (m : Int) ≤ 1099511627776 := by have := HLEN.out; omega
        clear ho3 hb3 hst hc8 hm
        go_wp2_with fail
        go_loopw [39] (fun i wr => ∃ (k : Nat), k ≤ m ∧ i = .int .i64 (k : Int) ∧ Hid (allNm zs = allNm (zs.drop k)) ∧ Hid (Below w3.heap.size w3 wr)) (fun i _ => m - (intOf i).toNat)
        case atStart => exact ⟨0, Nat.zero_le _, rfl, Lib.hid rfl, Lib.hid (Below.refl _ _)⟩
        case round =>
          obtain ⟨k, hk, rfl, HK, HBR⟩ := hrel
          have HLO := Lib.hid (HP.out.low.trans ((HB3.out.trans (HBR.out.mono HB3.out.size)).mono HP.out.low.size))
          by_cases hlt : k < m
          · obtain ⟨a, e1, hca0, hla⟩ := HG.out k (by rw [← HM.out]; exact hlt)
            have HGN := Lib.hid (allNm_here (xs := zs) (k := k) (List.getElem?_eq_getElem (by rw [← HM.out]; exact hlt)))
            subst e1
            generalize zs[k]'(by rw [← HM.out]; exact hlt) = x at *
            have hca : wr.cell? (a.add k) = some (.string x) := (HBR.out.cell (p := a.add k) (by rw [block_add]; exact hla)).trans hca0
            clear hca0
            have HCN := Lib.hid (own_isname x wr)
            have hk0 : (0 : Int) ≤ (k : Int) := by omega
            have hkn : (k : Int) < (m : Int) := by omega
            cases hnm : isNm x
            · have HE := Lib.hid (show rightArgs r = false by rw [HR0.out, HK.out, HGN.out, hnm]; rfl)
              have HNM := Lib.hid (show nameL 97 122 x.data.toList = false from hnm)
              clear hnm
              go_wp2_with (go_at_call 87; refine HCN.out.mono ?_; rintro e w4 ⟨rfl, hb4⟩; rw [HNM.out]; have HB4 := Lib.hid hb4; clear hb4)
              go_ret
              exact ⟨by rw [HE.out]; rfl, HLO.out.trans (HB4.out.mono HLO.out.size)⟩
            · have HE := Lib.hid (show allNm zs = allNm (zs.drop (k + 1)) by rw [HK.out, HGN.out, hnm, Bool.true_and])
              have HNM := Lib.hid (show nameL 97 122 x.data.toList = true from hnm)
              clear hnm
              go_wp2_with (go_at_call 87; refine HCN.out.mono ?_; rintro e w4 ⟨rfl, hb4⟩; rw [HNM.out]; have HB4 := Lib.hid (HBR.out.trans (hb4.mono HBR.out.size)); clear hb4)
              go_roundw
              case rel => exact ⟨k + 1, by omega, by go_num, HE, HB4⟩
              case measure => simp [intOf]; omega
          · have HE := Lib.hid (show rightArgs r = distinct zs by rw [HR0.out, HK.out, List.drop_eq_nil_of_le (by rw [← HM.out]; omega)]; rfl)
            go_wp2_with (go_at_call 119; refine (HDI.out wr HBR.out).mono ?_; rintro e w4 ⟨rfl, hb4⟩; have HB4 := Lib.hid hb4; clear hb4)
            go_ret
            exact ⟨by rw [HE.out]; rfl, HLO.out.trans (HB4.out.mono HLO.out.size)⟩
      · have h4i : (4 : Int) < (r.params.length : Int) := by omega
        have HE := Lib.hid (show rightArgs r = false by unfold rightArgs; rw [decide_eq_false h4]; simp)
        clear h5 h4 hcn
        go_enter Tryz.func88, Tryz.ntmps88
        go_wp2_with fail
        rw [← HW0.out]
        go_wp2_with (go_at_call 101; refine HCN0.out.mono ?_; rintro e w1 ⟨rfl, hb1⟩; rw [HCC.out]; have HB1 := Lib.hid hb1; clear hb1; obtain ⟨y0, y1, y2, y3, y4, y5, y6⟩ := HP.out.box w1 HB1.out)
        go_ret
        exact ⟨by rw [HE.out]; rfl, HP.out.low.trans (HB1.out.mono HP.out.low.size)⟩
    · have h5i : (5 : Int) < (r.vars.length : Int) := by omega
      have HE := Lib.hid (show rightArgs r = false by unfold rightArgs; rw [decide_eq_false h5]; simp)
      clear h5 hcn
      go_enter Tryz.func88, Tryz.ntmps88
      go_wp2_with fail
      rw [← HW0.out]
      go_wp2_with (go_at_call 101; refine HCN0.out.mono ?_; rintro e w1 ⟨rfl, hb1⟩; rw [HCC.out]; have HB1 := Lib.hid hb1; clear hb1; obtain ⟨y0, y1, y2, y3, y4, y5, y6⟩ := HP.out.box w1 HB1.out)
      go_ret
      exact ⟨by rw [HE.out]; rfl, HP.out.low.trans (HB1.out.mono HP.out.low.size)⟩
end Go.Proofs.YtmndlhbgacgnlaaGreat

namespace Go.Proofs.YtmndlhbgacgnlaaGreat
open Go Go.RowKit

set_option maxRecDepth 100000 in
set_option maxHeartbeats 4000000 in
theorem own_nofree (r : Ru) (v : Value) (b : List Nat) (w : World) (hv : RuIs w v r b) (hz : ruTot r ≤ 1048576) : Calls Tryz.prog 62 #[v] w (RetPost (.bool (within (exVars [] r.body) (r.vars ++ r.params))) w) := by
  obtain ⟨A1, A2, A3, c1, c2, q3, c3, b3, rfl, hop⟩ := ru_opened hv
  obtain ⟨W0, hW0⟩ : ∃ W0, W0 = w.alloc (.cells #[.string r.name, .string r.con, .slice A1 r.vars.length c1, .slice A2 r.params.length c2, .int .i64 r.body.kind, .string r.body.name, .slice A3 q3 c3] 34) := ⟨_, rfl⟩
  rw [← hW0] at hop
  have HP := Lib.hid hop
  have HW0 := Lib.hid hW0
  have HZ := Lib.hid hz
  have HRU := fun (W : World) (hW : Below W0.heap.size W0 W) => (hv.below hop.low).below hW
  have HARG := Lib.hid (fun (W : World) (hW : Below W0.heap.size W0 W) => show Calls Tryz.prog 89 #[.agg #[.string r.name, .string r.con, .slice A1 r.vars.length c1, .slice A2 r.params.length c2, .int .i64 r.body.kind, .string r.body.name, .slice A3 q3 c3]] W (StrsPost (r.vars ++ r.params) W) from own_args r _ _ W (HRU W hW) HZ.out)
  have HVARS := Lib.hid (fun (W : World) (hW : Below W0.heap.size W0 W) => own_vars r.body _ b3 W (HP.out.bd W hW) (by have := HZ.out; have := (tot_size _).1 r.body (Nat.le_refl _); unfold ruTot at *; omega))
  have HLA := Lib.hid (show (r.vars ++ r.params).length ≤ 140737488355328 by have := HZ.out; unfold ruTot ssTot at this; simp; omega)
  have HLV := Lib.hid (show (exVars [] r.body).length ≤ 1099511627776 by have h1 := (vars_len _).1 r.body [] (Nat.le_refl _); have := HZ.out; have := (tot_size _).1 r.body (Nat.le_refl _); unfold ruTot at *; simp at h1; omega)
  obtain ⟨x0, x1, x2, x3, x4, x5, x6⟩ := HP.out.box W0 (Below.refl _ _)
  clear hop hv hW0 hz HRU
  go_enter Tryz.func62, Tryz.ntmps62
  go_wp2_with fail
  rw [← HW0.out]
  go_at_call 89
  refine (HARG.out W0 (Below.refl _ _)).mono ?_
  rintro e w3 ⟨v3, rfl, ho3, hb3⟩
  obtain ⟨A8, c8, rfl, hc8, hst⟩ := owned_row ho3
  have HB3 := Lib.hid hb3
  obtain ⟨y0, y1, y2, y3, y4, y5, y6⟩ := HP.out.box w3 hb3
  have HIX := Lib.hid (fun (s : ByteArray) (W : World) (hW : Below w3.heap.size w3 W) => own_index A8 (r.vars ++ r.params) c8 s W (hst.below hW) HLA.out)
  generalize (r.vars ++ r.params) = zs at *
  generalize zs.length = mz at *
  clear ho3 hb3 hst hc8
  go_wp2_with fail
  go_at_call 90
  refine (HVARS.out w3 HB3.out).mono ?_
  rintro e w4 ⟨v4, rfl, ho4, hb4⟩
  obtain ⟨A9, c9, rfl, hc9, hst⟩ := owned_row ho4
  have HB4 := Lib.hid (hb4 : Below w3.heap.size w3 w4)
  have HG := Lib.hid (fun (k : Nat) (h : k < (exVars [] r.body).length) => hst.at_ k h)
  generalize (exVars [] r.body) = xs at *
  obtain ⟨m, hm⟩ : ∃ m, m = xs.length := ⟨_, rfl⟩
  rw [← hm] at HLV ⊢
  have HM := Lib.hid hm
  have hmi : (m : Int) ≤ 1099511627776 := by have := HLV.out; omega
  clear ho4 hb4 hst hc9 hm
  go_wp2_with fail
  go_loopw [12] (fun i wr => ∃ (k : Nat), k ≤ m ∧ i = .int .i64 (k : Int) ∧ Hid (within xs zs = within (xs.drop k) zs) ∧ Hid (Below w4.heap.size w4 wr)) (fun i _ => m - (intOf i).toNat)
  case atStart => exact ⟨0, Nat.zero_le _, rfl, Lib.hid rfl, Lib.hid (Below.refl _ _)⟩
  case round =>
    obtain ⟨k, hk, rfl, HK, HBR⟩ := hrel
    have HLO := Lib.hid (HP.out.low.trans ((HB3.out.trans ((HB4.out.trans (HBR.out.mono HB4.out.size)).mono HB3.out.size)).mono HP.out.low.size))
    by_cases hlt : k < m
    · obtain ⟨a, e1, hca0, hla⟩ := HG.out k (by rw [← HM.out]; exact hlt)
      have HGN := Lib.hid (within_here (xs := xs) (all := zs) (k := k) (List.getElem?_eq_getElem (by rw [← HM.out]; exact hlt)))
      subst e1
      generalize xs[k]'(by rw [← HM.out]; exact hlt) = x at *
      have hca : wr.cell? (a.add k) = some (.string x) := (HBR.out.cell (p := a.add k) (by rw [block_add]; exact hla)).trans hca0
      clear hca0
      have HCX := Lib.hid (HIX.out x wr (HB4.out.trans (HBR.out.mono HB4.out.size)))
      have hk0 : (0 : Int) ≤ (k : Int) := by omega
      have hkn : (k : Int) < (m : Int) := by omega
      by_cases hx : 0 ≤ idx zs x
      · have HE := Lib.hid (show within xs zs = within (xs.drop (k + 1)) zs by rw [HK.out, HGN.out, decide_eq_true hx, Bool.true_and])
        generalize idx zs x = z at *
        have hx3 : ¬ z < 0 := by omega
        go_wp2_with (go_at_call 91; refine HCX.out.mono ?_; rintro e w5 ⟨rfl, hb5⟩; have HB5 := Lib.hid (HBR.out.trans (hb5.mono HBR.out.size)); clear hb5)
        go_roundw
        case rel => exact ⟨k + 1, by omega, by go_num, HE, HB5⟩
        case measure => simp [intOf]; omega
      · have HE := Lib.hid (show within xs zs = false by rw [HK.out, HGN.out, decide_eq_false hx, Bool.false_and])
        generalize idx zs x = z at *
        have hx2 : z < 0 := by omega
        go_wp2_with (go_at_call 91; refine HCX.out.mono ?_; rintro e w5 ⟨rfl, hb5⟩; have HB5 := Lib.hid hb5; clear hb5)
        go_ret
        exact ⟨by rw [HE.out]; rfl, HLO.out.trans (HB5.out.mono HLO.out.size)⟩
    · have HE := Lib.hid (show within xs zs = true by rw [HK.out, List.drop_eq_nil_of_le (by rw [← HM.out]; omega)]; rfl)
      go_wp2
      go_ret
      exact ⟨by rw [HE.out]; rfl, HLO.out⟩

set_option maxRecDepth 100000 in
set_option maxHeartbeats 4000000 in
theorem own_parts (r : Ru) (v : Value) (b : List Nat) (w : World) (hv : RuIs w v r b) (hz : ruTot r ≤ 1048576) : Calls Tryz.prog 61 #[v] w (RetPost (.bool (rightParts r)) w) := by
  obtain ⟨A1, A2, A3, c1, c2, q3, c3, b3, rfl, hop⟩ := ru_opened hv
  obtain ⟨W0, hW0⟩ : ∃ W0, W0 = w.alloc (.cells #[.string r.name, .string r.con, .slice A1 r.vars.length c1, .slice A2 r.params.length c2, .int .i64 r.body.kind, .string r.body.name, .slice A3 q3 c3] 34) := ⟨_, rfl⟩
  rw [← hW0] at hop
  have HP := Lib.hid hop
  have HW0 := Lib.hid hW0
  have HZ := Lib.hid hz
  have HRU := fun (W : World) (hW : Below W0.heap.size W0 W) => (hv.below hop.low).below hW
  have HARG := Lib.hid (fun (W : World) (hW : Below W0.heap.size W0 W) => show Calls Tryz.prog 88 #[.agg #[.string r.name, .string r.con, .slice A1 r.vars.length c1, .slice A2 r.params.length c2, .int .i64 r.body.kind, .string r.body.name, .slice A3 q3 c3]] W (RetPost (.bool (rightArgs r)) W) from own_rightargs r _ _ W (HRU W hW) HZ.out)
  have HVAL := Lib.hid (fun (W : World) (hW : Below W0.heap.size W0 W) => own_valid r.body _ b3 W (HP.out.bd W hW) (by have := HZ.out; have := (tot_size _).1 r.body (Nat.le_refl _); unfold ruTot at *; omega))
  have HNAM := Lib.hid (own_isname r.name W0)
  have HE := Lib.hid (show rightParts r = (isNm r.name && (rightArgs r && exValid r.body)) from rfl)
  obtain ⟨x0, x1, x2, x3, x4, x5, x6⟩ := HP.out.box W0 (Below.refl _ _)
  clear hop hv hW0 hz HRU
  generalize rightParts r = R at *
  generalize hra : rightArgs r = ra at *
  generalize hve : exValid r.body = ve at *
  clear hra hve
  cases hn : isNm r.name
  · have HN := Lib.hid (show nameL 97 122 r.name.data.toList = false from hn)
    rw [hn, Bool.false_and] at HE
    clear hn
    go_enter Tryz.func61, Tryz.ntmps61
    go_wp2_with fail
    rw [← HW0.out]
    go_at_call 87
    refine HNAM.out.mono ?_
    rintro e w1 ⟨rfl, hb1⟩
    rw [HN.out]
    have HB1 := Lib.hid hb1
    clear hb1
    obtain ⟨y0, y1, y2, y3, y4, y5, y6⟩ := HP.out.box w1 HB1.out
    go_wp2_with fail
    go_ret
    exact ⟨by rw [HE.out]; rfl, HP.out.low.trans (HB1.out.mono HP.out.low.size)⟩
  · have HN := Lib.hid (show nameL 97 122 r.name.data.toList = true from hn)
    rw [hn, Bool.true_and] at HE
    clear hn
    cases ra
    · rw [Bool.false_and] at HE
      go_enter Tryz.func61, Tryz.ntmps61
      go_wp2_with fail
      rw [← HW0.out]
      go_at_call 87
      refine HNAM.out.mono ?_
      rintro e w1 ⟨rfl, hb1⟩
      rw [HN.out]
      have HB1 := Lib.hid hb1
      clear hb1
      obtain ⟨y0, y1, y2, y3, y4, y5, y6⟩ := HP.out.box w1 HB1.out
      go_wp2_with (first | (go_at_call 88; refine (HARG.out w1 HB1.out).mono ?_; rintro e w2 ⟨rfl, hb2⟩; have HB2 := Lib.hid (HB1.out.trans (hb2.mono HB1.out.size)); clear hb2; obtain ⟨z0, z1, z2, z3, z4, z5, z6⟩ := HP.out.box w2 HB2.out))
      go_ret
      exact ⟨by rw [HE.out]; rfl, HP.out.low.trans (HB2.out.mono HP.out.low.size)⟩
    · rw [Bool.true_and] at HE
      go_enter Tryz.func61, Tryz.ntmps61
      go_wp2_with fail
      rw [← HW0.out]
      go_at_call 87
      refine HNAM.out.mono ?_
      rintro e w1 ⟨rfl, hb1⟩
      rw [HN.out]
      have HB1 := Lib.hid hb1
      clear hb1
      obtain ⟨y0, y1, y2, y3, y4, y5, y6⟩ := HP.out.box w1 HB1.out
      go_wp2_with (first | (go_at_call 88; refine (HARG.out w1 HB1.out).mono ?_; rintro e w2 ⟨rfl, hb2⟩; have HB2 := Lib.hid (HB1.out.trans (hb2.mono HB1.out.size)); clear hb2; obtain ⟨z0, z1, z2, z3, z4, z5, z6⟩ := HP.out.box w2 HB2.out) | (go_at_call 38; refine (HVAL.out w2 HB2.out).mono ?_; rintro e w3 ⟨rfl, hb3⟩; have HB3 := Lib.hid (HB2.out.trans (hb3.mono HB2.out.size)); clear hb3))
      go_ret
      exact ⟨by rw [HE.out]; rfl, HP.out.low.trans (HB3.out.mono HP.out.low.size)⟩

set_option maxRecDepth 100000 in
set_option maxHeartbeats 4000000 in
theorem own_alone (r : Ru) (v : Value) (b : List Nat) (w : World) (hv : RuIs w v r b) (hz : ruTot r ≤ 1048576) : Calls Tryz.prog 30 #[v] w (RetPost (.bool (aloneOk r)) w) := by
  obtain ⟨A1, A2, A3, c1, c2, q3, c3, b3, rfl, hop⟩ := ru_opened hv
  obtain ⟨W0, hW0⟩ : ∃ W0, W0 = w.alloc (.cells #[.string r.name, .string r.con, .slice A1 r.vars.length c1, .slice A2 r.params.length c2, .int .i64 r.body.kind, .string r.body.name, .slice A3 q3 c3] 34) := ⟨_, rfl⟩
  rw [← hW0] at hop
  have HP := Lib.hid hop
  have HW0 := Lib.hid hW0
  have HZ := Lib.hid hz
  have HRU := fun (W : World) (hW : Below W0.heap.size W0 W) => (hv.below hop.low).below hW
  have HARG := Lib.hid (fun (W : World) (hW : Below W0.heap.size W0 W) => show Calls Tryz.prog 61 #[.agg #[.string r.name, .string r.con, .slice A1 r.vars.length c1, .slice A2 r.params.length c2, .int .i64 r.body.kind, .string r.body.name, .slice A3 q3 c3]] W (RetPost (.bool (rightParts r)) W) from own_parts r _ _ W (HRU W hW) HZ.out)
  have HFRE := Lib.hid (fun (W : World) (hW : Below W0.heap.size W0 W) => show Calls Tryz.prog 62 #[.agg #[.string r.name, .string r.con, .slice A1 r.vars.length c1, .slice A2 r.params.length c2, .int .i64 r.body.kind, .string r.body.name, .slice A3 q3 c3]] W (RetPost (.bool (within (exVars [] r.body) (r.vars ++ r.params))) W) from own_nofree r _ _ W (HRU W hW) HZ.out)
  have HE := Lib.hid (show aloneOk r = (rightParts r && within (exVars [] r.body) (r.vars ++ r.params)) from rfl)
  obtain ⟨x0, x1, x2, x3, x4, x5, x6⟩ := HP.out.box W0 (Below.refl _ _)
  clear hop hv hW0 hz HRU
  generalize aloneOk r = R at *
  generalize hra : rightParts r = ra at *
  generalize hve : within (exVars [] r.body) (r.vars ++ r.params) = ve at *
  clear hra hve
  cases ra
  · rw [Bool.false_and] at HE
    go_enter Tryz.func30, Tryz.ntmps30
    go_wp2_with fail
    rw [← HW0.out]
    go_at_call 61
    refine (HARG.out W0 (Below.refl _ _)).mono ?_
    rintro e w1 ⟨rfl, hb1⟩
    have HB1 := Lib.hid hb1
    clear hb1
    obtain ⟨y0, y1, y2, y3, y4, y5, y6⟩ := HP.out.box w1 HB1.out
    go_wp2_with fail
    go_ret
    exact ⟨by rw [HE.out]; rfl, HP.out.low.trans (HB1.out.mono HP.out.low.size)⟩
  · rw [Bool.true_and] at HE
    go_enter Tryz.func30, Tryz.ntmps30
    go_wp2_with fail
    rw [← HW0.out]
    go_at_call 61
    refine (HARG.out W0 (Below.refl _ _)).mono ?_
    rintro e w1 ⟨rfl, hb1⟩
    have HB1 := Lib.hid hb1
    clear hb1
    obtain ⟨y0, y1, y2, y3, y4, y5, y6⟩ := HP.out.box w1 HB1.out
    go_wp2_with (first | (go_at_call 62; refine (HFRE.out w1 HB1.out).mono ?_; rintro e w2 ⟨rfl, hb2⟩; have HB2 := Lib.hid (HB1.out.trans (hb2.mono HB1.out.size)); clear hb2))
    go_ret
    exact ⟨by rw [HE.out]; rfl, HP.out.low.trans (HB2.out.mono HP.out.low.size)⟩
end Go.Proofs.YtmndlhbgacgnlaaGreat

namespace Go.Proofs.YtmndlhbgacgnlaaGreat
open Go Go.RowKit Go.Sort

/-- What the demands of a program are, in a world. -/
structure DemIs (l : List Ru) (w : World) (mb mb2 : Nat) (M1 M2 : List (Value × Value)) (wq : World) (xs : List (Rt wq)) (G : List Cn) : Prop where
  m1 : MapIs w mb M1 ∧ (∀ x ∈ M1, StrK x.1) ∧ xs.map Rt.pair = numd 0 l ∧ Firsts rname Rt.val xs M1
  m2 : MapIs w mb2 M2 ∧ (∀ x ∈ M2, StrK x.1) ∧ Firsts ckey cval G M2 ∧ ∀ q, G.find? q = (consAll l).find? q
theorem DemIs.below {l : List Ru} {w W : World} {mb mb2 : Nat} {M1 M2 : List (Value × Value)} {wq : World} {xs : List (Rt wq)} {G : List Cn} (h : DemIs l w mb mb2 M1 M2 wq xs G) (hb : Below w.heap.size w W) : DemIs l W mb mb2 M1 M2 wq xs G :=
  ⟨⟨h.m1.1.on (hb.block _ h.m1.1.lt), h.m1.2⟩, ⟨h.m2.1.on (hb.block _ h.m2.1.lt), h.m2.2⟩⟩
theorem first_look {l : List Ru} {W : World} {mb mb2 : Nat} {M1 M2 : List (Value × Value)} {wq : World} {xs : List (Rt wq)} {G : List Cn} (h : DemIs l W mb mb2 M1 M2 wq xs G) {r : Ru} (hr : r ∈ l) :
    ∃ (f : Ru) (F1 : Option Addr) (d1 : Nat) (F2 : Option Addr) (d2 : Nat) (F3 : Option Addr) (d3 : Nat), l.find? (named r.name) = some f ∧ (d1 : Int) ≤ 9223372036854775807 ∧ (d2 : Int) ≤ 9223372036854775807 ∧ (d3 : Int) ≤ 9223372036854775807 ∧ f ∈ l ∧ (Instr.lookup 60 (.map (some mb)) (.string r.name) false).run Tryz.prog W = .ok (.agg #[.string f.name, .string f.con, .slice F1 f.vars.length d1, .slice F2 f.params.length d2, .int .i64 f.body.kind, .string f.body.name, .slice F3 f.body.args.length d3]) W := by
  obtain ⟨hm, hK, hxs, hF⟩ := h.m1
  obtain ⟨x, has, hrun, hit⟩ := hm.look (strT W) Tryz.underlying60 (zeroRule W) (key := .string r.name) ⟨r.name, rfl⟩ hK
  have hr2 := hrun false
  simp only [Bool.false_eq_true, if_false] at hr2
  obtain ⟨hi1, hi2⟩ := idx_first (rname_named r.name) xs 0 l hxs
  rcases hF.hits hit with ⟨p, hp1, rfl, rfl⟩ | ⟨hp1, rfl, rfl⟩
  · obtain ⟨A1, d1, A2, d2, A3, d3, hv1, hv2, hv3, k1, k2, k3, -⟩ := p.slices
    have hv : p.val = .agg #[.string p.ru.name, .string p.ru.con, .slice A1 p.ru.vars.length d1, .slice A2 p.ru.params.length d2, .int .i64 p.ru.body.kind, .string p.ru.body.name, .slice A3 p.ru.body.args.length d3] := by rw [← hv1, ← hv2, ← hv3]; rfl
    rw [hv] at hr2
    exact ⟨p.ru, A1, d1, A2, d2, A3, d3, (hi1 p hp1).2, k1, k2, k3, List.mem_of_find?_eq_some (hi1 p hp1).2, hr2⟩
  · have hn := (hi2 hp1).2
    rw [List.find?_eq_none] at hn
    exact absurd (by simp [named]) (hn r hr)
theorem con_look {l : List Ru} {W : World} {mb mb2 : Nat} {M1 M2 : List (Value × Value)} {wq : World} {xs : List (Rt wq)} {G : List Cn} (h : DemIs l W mb mb2 M1 M2 wq xs G) {r : Ru} (hr : r ∈ l) (hc : ¬ r.con.size = 0) :
    (Instr.lookup 61 (.map (some mb2)) (.string r.con) false).run Tryz.prog W = .ok (.int .i64 (conR r.con l)) W := by
  obtain ⟨hm, hK, hF, hG⟩ := h.m2
  obtain ⟨x, has, hrun, hit⟩ := hm.look (strT W) Tryz.underlying61 (zeroInt W) (key := .string r.con) ⟨r.con, rfl⟩ hK
  have hr2 := hrun false
  simp only [Bool.false_eq_true, if_false] at hr2
  rcases hF.hits hit with ⟨p, hp1, rfl, rfl⟩ | ⟨hp1, rfl, rfl⟩
  · rw [conR_find, ← hG, first_find _ _ _ hp1]
    exact hr2
  · have hn := none_find _ _ hp1
    rw [hG, List.find?_eq_none] at hn
    have hmem : (r.con, r.vars.length) ∈ consAll l := by
      unfold consAll
      rw [List.mem_flatMap]
      exact ⟨r, hr, by unfold consRu headOf; rw [if_neg hc]; simp⟩
    exact absurd (by simp [isC]) (hn _ hmem)
theorem con_le {l : List Ru} {r : Ru} (hr : r ∈ l) (hc : ¬ r.con.size = 0) : 0 ≤ conR r.con l := by
  rw [conR_find]
  cases h : (consAll l).find? (isC r.con) with
  | some x => rw [arOf_some]; omega
  | none =>
    rw [List.find?_eq_none] at h
    have hmem : (r.con, r.vars.length) ∈ consAll l := by
      unfold consAll
      rw [List.mem_flatMap]
      exact ⟨r, hr, by unfold consRu headOf; rw [if_neg hc]; simp⟩
    exact absurd (by simp [isC]) (h _ hmem)

set_option maxRecDepth 100000 in
set_option maxHeartbeats 8000000 in
theorem own_rule (l : List Ru) (r : Ru) (hr : r ∈ l) (v : Value) (b : List Nat) (mb mb2 : Nat) (M1 M2 : List (Value × Value)) (wq : World) (xs : List (Rt wq)) (G : List Cn) (w : World) (hv : RuIs w v r b) (hz : ruTot r ≤ 1048576) (hp : ∀ r ∈ l, r.params.length ≤ 1048576) (hd : DemIs l w mb mb2 M1 M2 wq xs G) :
    Calls Tryz.prog 33 #[.agg #[.map (some mb), .map (some mb2)], v] w (RetPost (.bool (metOk l r)) w) := by
  obtain ⟨wd, hwd⟩ : ∃ wd, wd = w.alloc (.cells #[.map (some mb), .map (some mb2)] 63) := ⟨_, rfl⟩
  have hbd : Below w.heap.size w wd := by rw [hwd]; exact (Below.refl _ w).alloc (Nat.le_refl _) _
  have hsd : wd.heap.size = w.heap.size + 1 := by rw [hwd]; simp
  obtain ⟨A1, A2, A3, c1, c2, q3, c3, b3, rfl, hop⟩ := ru_opened (hv.below hbd)
  obtain ⟨W0, hW0⟩ : ∃ W0, W0 = wd.alloc (.cells #[.string r.name, .string r.con, .slice A1 r.vars.length c1, .slice A2 r.params.length c2, .int .i64 r.body.kind, .string r.body.name, .slice A3 q3 c3] 34) := ⟨_, rfl⟩
  rw [← hW0] at hop
  have hs0 : W0.heap.size = w.heap.size + 1 + 1 := by rw [hW0]; simp [hsd]
  have hb0 : Below w.heap.size w W0 := hbd.trans (hop.low.mono hbd.size)
  obtain ⟨f, F1, d1, F2, d2, F3, d3, hf, hd1, hd2, hd3, hfl, hlk⟩ := first_look (hd.below hb0) hr
  obtain ⟨W1, hW1⟩ : ∃ W1, W1 = W0.alloc (.cells #[.string f.name, .string f.con, .slice F1 f.vars.length d1, .slice F2 f.params.length d2, .int .i64 f.body.kind, .string f.body.name, .slice F3 f.body.args.length d3] 34) := ⟨_, rfl⟩
  have hb1 : Below W0.heap.size W0 W1 := by rw [hW1]; exact (Below.refl _ _).alloc (Nat.le_refl _) _
  have hx1 : Box7 W1 (w.heap.size + 1 + 1) 34 (.string f.name) (.string f.con) (.slice F1 f.vars.length d1) (.slice F2 f.params.length d2) (.int .i64 f.body.kind) (.string f.body.name) (.slice F3 f.body.args.length d3) := by rw [hW1, ← hs0]; exact heap_alloc_new W0 _
  have hxd : wd.heap[w.heap.size]? = some (.cells #[.map (some mb), .map (some mb2)] 63 (0, 0)) := by rw [hwd]; exact heap_alloc_new w _
  have HBF := Lib.hid (fun (W : World) (hb : Below W1.heap.size W1 W) => (show Box7 W (w.heap.size + 1 + 1) 34 (.string f.name) (.string f.con) (.slice F1 f.vars.length d1) (.slice F2 f.params.length d2) (.int .i64 f.body.kind) (.string f.body.name) (.slice F3 f.body.args.length d3) from (hb.block _ hx1.lt).trans hx1).cells)
  have HBR := Lib.hid (fun (W : World) (hb : Below W1.heap.size W1 W) => by have h9 := hop.box W (hb1.trans (hb.mono hb1.size)); rw [hsd] at h9; exact h9)
  have HBD := Lib.hid (fun (W : World) (hb : Below W1.heap.size W1 W) => show W.cell? ⟨w.heap.size, 0, none⟩ = some (.map (some mb)) ∧ W.cell? ⟨w.heap.size, 1, none⟩ = some (.map (some mb2)) from by
    have h9 : W.heap[w.heap.size]? = some (.cells #[.map (some mb), .map (some mb2)] 63 (0, 0)) := ((hop.low.trans ((hb1.trans (hb.mono hb1.size)).mono hop.low.size)).block _ (by rw [hsd]; omega)).trans hxd
    exact ⟨by simp [World.cell?, h9], by simp [World.cell?, h9]⟩)
  have HLO := Lib.hid (fun (W : World) (hb : Below W1.heap.size W1 W) => hb0.trans ((hb1.trans (hb.mono hb1.size)).mono hb0.size))
  have HMET := Lib.hid (fun (W : World) (hb : Below W1.heap.size W1 W) => own_met l r.body _ b3 mb mb2 M1 M2 wq xs G W (hop.bd W (hb1.trans (hb.mono hb1.size))) (by have := (tot_size _).1 r.body (Nat.le_refl _); unfold ruTot at hz; omega) (fun r hr => by have := hp r hr; omega) (hd.below (hb0.trans ((hb1.trans (hb.mono hb1.size)).mono hb0.size))).m1 (hd.below (hb0.trans ((hb1.trans (hb.mono hb1.size)).mono hb0.size))).m2)
  have HCON := Lib.hid (fun (hc : ¬ r.con.size = 0) (W : World) (hb : Below W1.heap.size W1 W) => con_look (hd.below (hb0.trans ((hb1.trans (hb.mono hb1.size)).mono hb0.size))) hr hc)
  have HKR := Lib.hid (fun (d : Nat) (os : Array Obj) => Calls.regrown_of ((flat_kind r.name r.con r.body.name A1 A2 A3 r.vars.length c1 r.params.length c2 q3 c3 r.body.kind (grow (redrawn W1 d) os)).mono (fun _ _ h => h)))
  have HKF := Lib.hid (fun (d : Nat) (os : Array Obj) => Calls.regrown_of ((flat_kind f.name f.con f.body.name F1 F2 F3 f.vars.length d1 f.params.length d2 f.body.args.length d3 f.body.kind (grow (redrawn W1 d) os)).mono (fun _ _ h => h)))
  have HSA := Lib.hid (show metOk l r = (((decide (f.con.size = 0) == decide (r.con.size = 0)) && (decide (f.params.length = r.params.length) && (decide (r.con.size = 0) || decide (conR r.con l = (r.vars.length : Int))))) && fitE l r.body r.body) by unfold metOk sameAs; rw [hf])
  have hpr : (r.params.length : Int) ≤ 1048576 := by have := hp r hr; omega
  have hpf : (f.params.length : Int) ≤ 1048576 := by have := hp f hfl; omega
  have hvr : (r.vars.length : Int) ≤ 1048576 := by unfold ruTot ssTot at hz; omega
  rw [hW0, hwd] at hlk
  rw [hW0, hwd] at hW1
  have HW1 := Lib.hid hW1
  have HCL := Lib.hid (fun (hc : ¬ r.con.size = 0) => con_le hr hc)
  obtain ⟨x0, x1, x2, x3, x4, x5, x6⟩ := HBR.out W1 (Below.refl _ _)
  obtain ⟨y0, y1, y2, y3, y4, y5, y6⟩ := HBF.out W1 (Below.refl _ _)
  have r0 := fun d os => cell_regrown x0 d os
  have r1 := fun d os => cell_regrown x1 d os
  have r2 := fun d os => cell_regrown x2 d os
  have r3 := fun d os => cell_regrown x3 d os
  have r4 := fun d os => cell_regrown x4 d os
  have r5 := fun d os => cell_regrown x5 d os
  have r6 := fun d os => cell_regrown x6 d os
  have f0 := fun d os => cell_regrown y0 d os
  have f1 := fun d os => cell_regrown y1 d os
  have f2 := fun d os => cell_regrown y2 d os
  have f3 := fun d os => cell_regrown y3 d os
  have f4 := fun d os => cell_regrown y4 d os
  have f5 := fun d os => cell_regrown y5 d os
  have f6 := fun d os => cell_regrown y6 d os
  clear x0 x1 x2 x3 x4 x5 x6 y0 y1 y2 y3 y4 y5 y6 hwd hbd hsd hop hW0 hs0 hb0 hf hW1 hb1 hx1 hxd hv hz hp hd hr hfl
  generalize metOk l r = R at *
  generalize fitE l r.body r.body = ft at *
  generalize conR r.con l = cn at *
  by_cases hf0 : f.con.size = 0
  · by_cases hr0 : r.con.size = 0
    · have hbr := empty_yes hr0
      by_cases hpe : f.params.length = r.params.length
      · have hpi : ((r.params.length : Int) == (f.params.length : Int)) = true := by simp [hpe]
        have HE := Lib.hid (show R = ft by rw [HSA.out, decide_eq_true hf0, decide_eq_true hr0, decide_eq_true hpe]; simp)
        have cR := fun (d : Nat) (os : Array Obj) => HKR.out d os
        have cF := fun (d : Nat) (os : Array Obj) => HKF.out d os
        rw [show kindS r.con = 1 from by unfold kindS; rw [if_pos hr0]] at cR
        rw [show kindS f.con = 1 from by unfold kindS; rw [if_pos hf0]] at cF
        have HR0 := Lib.hid hr0
        clear hr0 hf0 hpe
        go_enter Tryz.func33, Tryz.ntmps33
        go_wp2_with fail
        rw [← HW1.out]
        refine wp_region_quiet_below (by kernel_rfl) (by kernel_rfl) ?_
        repeat (go_big_quiet_step (first | exact cR _ _ | exact cF _ _))
        refine wpQuiet_nil ?_
        intro _ hw'
        obtain ⟨⟨dq, osq⟩, hw''⟩ := hw'
        subst hw''
        have hb2 := below_regrown W1 dq osq
        generalize grow (redrawn W1 dq) osq = W2 at *
        have HB2 := Lib.hid hb2
        obtain ⟨x0, x1, x2, x3, x4, x5, x6⟩ := HBR.out W2 HB2.out
        obtain ⟨e0, e1⟩ := HBD.out W2 HB2.out
        clear hb2 cR cF
        go_wp2_with (go_at_call 39; refine (HMET.out W2 HB2.out).mono ?_; rintro e w3 ⟨rfl, hb3⟩; have HB3 := Lib.hid (HB2.out.trans (hb3.mono HB2.out.size)); clear hb3)
        go_ret
        exact ⟨by rw [HE.out]; rfl, HLO.out w3 HB3.out⟩
      · have hpi : ((r.params.length : Int) == (f.params.length : Int)) = false := by simp; omega
        have HE := Lib.hid (show R = false by rw [HSA.out, decide_eq_false hpe]; simp)
        have cR := fun (d : Nat) (os : Array Obj) => HKR.out d os
        have cF := fun (d : Nat) (os : Array Obj) => HKF.out d os
        rw [show kindS r.con = 1 from by unfold kindS; rw [if_pos hr0]] at cR
        rw [show kindS f.con = 1 from by unfold kindS; rw [if_pos hf0]] at cF
        have HR0 := Lib.hid hr0
        clear hr0 hf0 hpe
        go_enter Tryz.func33, Tryz.ntmps33
        go_wp2_with fail
        rw [← HW1.out]
        refine wp_region_quiet_below (by kernel_rfl) (by kernel_rfl) ?_
        repeat (go_big_quiet_step (first | exact cR _ _ | exact cF _ _))
        refine wpQuiet_nil ?_
        intro _ hw'
        obtain ⟨⟨dq, osq⟩, hw''⟩ := hw'
        subst hw''
        have hb2 := below_regrown W1 dq osq
        generalize grow (redrawn W1 dq) osq = W2 at *
        have HB2 := Lib.hid hb2
        obtain ⟨x0, x1, x2, x3, x4, x5, x6⟩ := HBR.out W2 HB2.out
        obtain ⟨e0, e1⟩ := HBD.out W2 HB2.out
        clear hb2 cR cF
        go_wp2_with fail
        go_ret
        exact ⟨by rw [HE.out]; rfl, HLO.out W2 HB2.out⟩
    · have hbr := empty_not hr0
      have hcl := HCL.out hr0
      by_cases hce : cn = (r.vars.length : Int)
      · have hci : ((r.vars.length : Int) == cn) = true := by simp [hce]
        have HE := Lib.hid (show R = false by rw [HSA.out, decide_eq_true hf0, decide_eq_false hr0]; simp)
        have cR := fun (d : Nat) (os : Array Obj) => HKR.out d os
        have cF := fun (d : Nat) (os : Array Obj) => HKF.out d os
        rw [show kindS r.con = 2 from by unfold kindS; rw [if_neg hr0]] at cR
        rw [show kindS f.con = 1 from by unfold kindS; rw [if_pos hf0]] at cF
        have HR0 := Lib.hid hr0
        clear hr0 hf0 hce
        go_enter Tryz.func33, Tryz.ntmps33
        go_wp2_with fail
        rw [← HW1.out]
        refine wp_region_quiet_below (by kernel_rfl) (by kernel_rfl) ?_
        repeat (go_big_quiet_step (first | exact cR _ _ | exact cF _ _))
        refine wpQuiet_nil ?_
        intro _ hw'
        obtain ⟨⟨dq, osq⟩, hw''⟩ := hw'
        subst hw''
        have hb2 := below_regrown W1 dq osq
        generalize grow (redrawn W1 dq) osq = W2 at *
        have HB2 := Lib.hid hb2
        obtain ⟨x0, x1, x2, x3, x4, x5, x6⟩ := HBR.out W2 HB2.out
        obtain ⟨e0, e1⟩ := HBD.out W2 HB2.out
        have hlc := HCON.out HR0.out W2 HB2.out
        clear hb2 cR cF
        go_wp2_with fail
        go_ret
        exact ⟨by rw [HE.out]; rfl, HLO.out W2 HB2.out⟩
      · have hci : ((r.vars.length : Int) == cn) = false := by simp; omega
        have HE := Lib.hid (show R = false by rw [HSA.out, decide_eq_true hf0, decide_eq_false hr0]; simp)
        have cR := fun (d : Nat) (os : Array Obj) => HKR.out d os
        have cF := fun (d : Nat) (os : Array Obj) => HKF.out d os
        rw [show kindS r.con = 2 from by unfold kindS; rw [if_neg hr0]] at cR
        rw [show kindS f.con = 1 from by unfold kindS; rw [if_pos hf0]] at cF
        have HR0 := Lib.hid hr0
        clear hr0 hf0 hce
        go_enter Tryz.func33, Tryz.ntmps33
        go_wp2_with fail
        rw [← HW1.out]
        refine wp_region_quiet_below (by kernel_rfl) (by kernel_rfl) ?_
        repeat (go_big_quiet_step (first | exact cR _ _ | exact cF _ _))
        refine wpQuiet_nil ?_
        intro _ hw'
        obtain ⟨⟨dq, osq⟩, hw''⟩ := hw'
        subst hw''
        have hb2 := below_regrown W1 dq osq
        generalize grow (redrawn W1 dq) osq = W2 at *
        have HB2 := Lib.hid hb2
        obtain ⟨x0, x1, x2, x3, x4, x5, x6⟩ := HBR.out W2 HB2.out
        obtain ⟨e0, e1⟩ := HBD.out W2 HB2.out
        have hlc := HCON.out HR0.out W2 HB2.out
        clear hb2 cR cF
        go_wp2_with fail
        go_ret
        exact ⟨by rw [HE.out]; rfl, HLO.out W2 HB2.out⟩
  · by_cases hr0 : r.con.size = 0
    · have hbr := empty_yes hr0
      have HE := Lib.hid (show R = false by rw [HSA.out, decide_eq_false hf0, decide_eq_true hr0]; simp)
      have cR := fun (d : Nat) (os : Array Obj) => HKR.out d os
      have cF := fun (d : Nat) (os : Array Obj) => HKF.out d os
      rw [show kindS r.con = 1 from by unfold kindS; rw [if_pos hr0]] at cR
      rw [show kindS f.con = 2 from by unfold kindS; rw [if_neg hf0]] at cF
      have HR0 := Lib.hid hr0
      clear hr0 hf0
      go_enter Tryz.func33, Tryz.ntmps33
      go_wp2_with fail
      rw [← HW1.out]
      refine wp_region_quiet_below (by kernel_rfl) (by kernel_rfl) ?_
      repeat (go_big_quiet_step (first | exact cR _ _ | exact cF _ _))
      refine wpQuiet_nil ?_
      intro _ hw'
      obtain ⟨⟨dq, osq⟩, hw''⟩ := hw'
      subst hw''
      have hb2 := below_regrown W1 dq osq
      generalize grow (redrawn W1 dq) osq = W2 at *
      have HB2 := Lib.hid hb2
      obtain ⟨x0, x1, x2, x3, x4, x5, x6⟩ := HBR.out W2 HB2.out
      obtain ⟨e0, e1⟩ := HBD.out W2 HB2.out
      clear hb2 cR cF
      go_wp2_with fail
      go_ret
      exact ⟨by rw [HE.out]; rfl, HLO.out W2 HB2.out⟩
    · have hbr := empty_not hr0
      have hcl := HCL.out hr0
      by_cases hpe : f.params.length = r.params.length
      · have hpi : ((r.params.length : Int) == (f.params.length : Int)) = true := by simp [hpe]
        by_cases hce : cn = (r.vars.length : Int)
        · have hci : ((r.vars.length : Int) == cn) = true := by simp [hce]
          have HE := Lib.hid (show R = ft by rw [HSA.out, decide_eq_false hf0, decide_eq_false hr0, decide_eq_true hpe, decide_eq_true hce]; simp)
          have cR := fun (d : Nat) (os : Array Obj) => HKR.out d os
          have cF := fun (d : Nat) (os : Array Obj) => HKF.out d os
          rw [show kindS r.con = 2 from by unfold kindS; rw [if_neg hr0]] at cR
          rw [show kindS f.con = 2 from by unfold kindS; rw [if_neg hf0]] at cF
          have HR0 := Lib.hid hr0
          clear hr0 hf0 hpe hce
          go_enter Tryz.func33, Tryz.ntmps33
          go_wp2_with fail
          rw [← HW1.out]
          refine wp_region_quiet_below (by kernel_rfl) (by kernel_rfl) ?_
          repeat (go_big_quiet_step (first | exact cR _ _ | exact cF _ _))
          refine wpQuiet_nil ?_
          intro _ hw'
          obtain ⟨⟨dq, osq⟩, hw''⟩ := hw'
          subst hw''
          have hb2 := below_regrown W1 dq osq
          generalize grow (redrawn W1 dq) osq = W2 at *
          have HB2 := Lib.hid hb2
          obtain ⟨x0, x1, x2, x3, x4, x5, x6⟩ := HBR.out W2 HB2.out
          obtain ⟨e0, e1⟩ := HBD.out W2 HB2.out
          have hlc := HCON.out HR0.out W2 HB2.out
          clear hb2 cR cF
          go_wp2_with (go_at_call 39; refine (HMET.out W2 HB2.out).mono ?_; rintro e w3 ⟨rfl, hb3⟩; have HB3 := Lib.hid (HB2.out.trans (hb3.mono HB2.out.size)); clear hb3)
          go_ret
          exact ⟨by rw [HE.out]; rfl, HLO.out w3 HB3.out⟩
        · have hci : ((r.vars.length : Int) == cn) = false := by simp; omega
          have HE := Lib.hid (show R = false by rw [HSA.out, decide_eq_false hce, decide_eq_false hr0]; simp)
          have cR := fun (d : Nat) (os : Array Obj) => HKR.out d os
          have cF := fun (d : Nat) (os : Array Obj) => HKF.out d os
          rw [show kindS r.con = 2 from by unfold kindS; rw [if_neg hr0]] at cR
          rw [show kindS f.con = 2 from by unfold kindS; rw [if_neg hf0]] at cF
          have HR0 := Lib.hid hr0
          clear hr0 hf0 hpe hce
          go_enter Tryz.func33, Tryz.ntmps33
          go_wp2_with fail
          rw [← HW1.out]
          refine wp_region_quiet_below (by kernel_rfl) (by kernel_rfl) ?_
          repeat (go_big_quiet_step (first | exact cR _ _ | exact cF _ _))
          refine wpQuiet_nil ?_
          intro _ hw'
          obtain ⟨⟨dq, osq⟩, hw''⟩ := hw'
          subst hw''
          have hb2 := below_regrown W1 dq osq
          generalize grow (redrawn W1 dq) osq = W2 at *
          have HB2 := Lib.hid hb2
          obtain ⟨x0, x1, x2, x3, x4, x5, x6⟩ := HBR.out W2 HB2.out
          obtain ⟨e0, e1⟩ := HBD.out W2 HB2.out
          have hlc := HCON.out HR0.out W2 HB2.out
          clear hb2 cR cF
          go_wp2_with fail
          go_ret
          exact ⟨by rw [HE.out]; rfl, HLO.out W2 HB2.out⟩
      · have hpi : ((r.params.length : Int) == (f.params.length : Int)) = false := by simp; omega
        by_cases hce : cn = (r.vars.length : Int)
        · have hci : ((r.vars.length : Int) == cn) = true := by simp [hce]
          have HE := Lib.hid (show R = false by rw [HSA.out, decide_eq_false hpe]; simp)
          have cR := fun (d : Nat) (os : Array Obj) => HKR.out d os
          have cF := fun (d : Nat) (os : Array Obj) => HKF.out d os
          rw [show kindS r.con = 2 from by unfold kindS; rw [if_neg hr0]] at cR
          rw [show kindS f.con = 2 from by unfold kindS; rw [if_neg hf0]] at cF
          have HR0 := Lib.hid hr0
          clear hr0 hf0 hpe hce
          go_enter Tryz.func33, Tryz.ntmps33
          go_wp2_with fail
          rw [← HW1.out]
          refine wp_region_quiet_below (by kernel_rfl) (by kernel_rfl) ?_
          repeat (go_big_quiet_step (first | exact cR _ _ | exact cF _ _))
          refine wpQuiet_nil ?_
          intro _ hw'
          obtain ⟨⟨dq, osq⟩, hw''⟩ := hw'
          subst hw''
          have hb2 := below_regrown W1 dq osq
          generalize grow (redrawn W1 dq) osq = W2 at *
          have HB2 := Lib.hid hb2
          obtain ⟨x0, x1, x2, x3, x4, x5, x6⟩ := HBR.out W2 HB2.out
          obtain ⟨e0, e1⟩ := HBD.out W2 HB2.out
          have hlc := HCON.out HR0.out W2 HB2.out
          clear hb2 cR cF
          go_wp2_with fail
          go_ret
          exact ⟨by rw [HE.out]; rfl, HLO.out W2 HB2.out⟩
        · have hci : ((r.vars.length : Int) == cn) = false := by simp; omega
          have HE := Lib.hid (show R = false by rw [HSA.out, decide_eq_false hpe]; simp)
          have cR := fun (d : Nat) (os : Array Obj) => HKR.out d os
          have cF := fun (d : Nat) (os : Array Obj) => HKF.out d os
          rw [show kindS r.con = 2 from by unfold kindS; rw [if_neg hr0]] at cR
          rw [show kindS f.con = 2 from by unfold kindS; rw [if_neg hf0]] at cF
          have HR0 := Lib.hid hr0
          clear hr0 hf0 hpe hce
          go_enter Tryz.func33, Tryz.ntmps33
          go_wp2_with fail
          rw [← HW1.out]
          refine wp_region_quiet_below (by kernel_rfl) (by kernel_rfl) ?_
          repeat (go_big_quiet_step (first | exact cR _ _ | exact cF _ _))
          refine wpQuiet_nil ?_
          intro _ hw'
          obtain ⟨⟨dq, osq⟩, hw''⟩ := hw'
          subst hw''
          have hb2 := below_regrown W1 dq osq
          generalize grow (redrawn W1 dq) osq = W2 at *
          have HB2 := Lib.hid hb2
          obtain ⟨x0, x1, x2, x3, x4, x5, x6⟩ := HBR.out W2 HB2.out
          obtain ⟨e0, e1⟩ := HBD.out W2 HB2.out
          have hlc := HCON.out HR0.out W2 HB2.out
          clear hb2 cR cF
          go_wp2_with fail
          go_ret
          exact ⟨by rw [HE.out]; rfl, HLO.out W2 HB2.out⟩
end Go.Proofs.YtmndlhbgacgnlaaGreat

namespace Go.Proofs.YtmndlhbgacgnlaaGreat
open Go Go.RowKit

set_option maxRecDepth 100000 in
set_option maxHeartbeats 4000000 in
theorem own_all1 (l : List Ru) (v : Value) (bs : List Nat) (w : World) (hv : PrIs w v l bs) (hz : rusTot l ≤ 1048576) :
    Calls Tryz.prog 29 #[v, .func (.func 30) #[] #[]] w (RetPost (.bool (l.all (aloneOk))) w) := by
  have hll := rusTot_ge l
  have HCALL := Lib.hid (fun (r : Ru) (hm : r ∈ l) (v2 : Value) (b2 : List Nat) (W : World) (hW : Below w.heap.size w W) (h2 : RuIs W v2 r b2) => own_alone r v2 b2 W h2 (by have := rusTot_mem hm; omega))
  obtain ⟨u, rfl, hu⟩ := id hv
  obtain ⟨A, c, rfl, hc1, hc2, -⟩ := id hu
  obtain ⟨m, hm⟩ : ∃ m, m = l.length := ⟨_, rfl⟩
  have HU := Lib.hid hu
  rw [← hm] at hc1 HU hll ⊢
  have HM := Lib.hid hm
  have HB0 := Lib.hid ((Below.refl w.heap.size w).alloc (Nat.le_refl _) (.cells #[.slice A m c] 26))
  have HBX := Lib.hid (fun (W : World) (h : Below (w.alloc (.cells #[.slice A m c] 26)).heap.size (w.alloc (.cells #[.slice A m c] 26)) W) => pbox h)
  have HV := Lib.hid (show l.all (aloneOk) = (l.drop 0).all (aloneOk) from rfl)
  have hmi : (m : Int) ≤ 1048576 := by omega
  clear hu hm hv hz
  generalize l.all (aloneOk) = R at *
  go_enter Tryz.func29, Tryz.ntmps29
  go_wp2_with fail
  go_loopw [10] (fun i wr => ∃ (k : Nat), k ≤ m ∧ i = .int .i64 (k : Int) ∧ Hid (R = (l.drop k).all (aloneOk)) ∧ Hid (Below (w.alloc (.cells #[.slice A m c] 26)).heap.size (w.alloc (.cells #[.slice A m c] 26)) wr)) (fun i _ => m - (intOf i).toNat)
  case atStart => exact ⟨0, Nat.zero_le _, rfl, HV, Lib.hid (Below.refl _ _)⟩
  case round =>
    obtain ⟨k, hk, rfl, HK, HB⟩ := hrel
    have x0 := HBX.out wr HB.out
    have HL := Lib.hid (HB0.out.trans (HB.out.mono HB0.out.size))
    by_cases hlt : k < m
    · obtain ⟨g, o, r, v1, v2, y, b, hA⟩ := (HU.out.below HL.out).get k (by rw [← HM.out]; exact hlt)
      obtain rfl := hA.eq
      obtain ⟨e0, e1, e2, e3, e4, e5, e6⟩ := hA.cells
      obtain ⟨b1, b2, b3, -, -, -, h3, h4, h5⟩ := hA.is.parts
      obtain ⟨A1, c1, rfl⟩ := h3.slice
      obtain ⟨A2, c2, rfl⟩ := h4.slice
      obtain ⟨A3, q3, c3, rfl⟩ := his_slice0 h5
      have hlo2 : Below wr.heap.size wr (wr.alloc (.cells #[.string r.name, .string r.con, .slice A1 r.vars.length c1, .slice A2 r.params.length c2, .int .i64 r.body.kind, .string r.body.name, .slice A3 q3 c3] 34)) := (Below.refl _ wr).alloc (Nat.le_refl _) _
      have HC2 := Lib.hid (HCALL.out r hA.mem _ b (wr.alloc (.cells #[.string r.name, .string r.con, .slice A1 r.vars.length c1, .slice A2 r.params.length c2, .int .i64 r.body.kind, .string r.body.name, .slice A3 q3 c3] 34)) (HL.out.trans (hlo2.mono HL.out.size)) (hA.is.below hlo2))
      have HB2 := Lib.hid (HB.out.trans (hlo2.mono HB.out.size))
      have HD := Lib.hid (show (l.drop k).all (aloneOk) = ((aloneOk) r && (l.drop (k + 1)).all (aloneOk)) by
        obtain ⟨h1, h2⟩ := List.getElem?_eq_some_iff.1 hA.get
        rw [List.drop_eq_getElem_cons h1, h2, List.all_cons])
      have hk0 : (0 : Int) ≤ (k : Int) := by omega
      have hkn : (k : Int) < (m : Int) := by omega
      clear hA h3 h4 h5 hlo2
      cases hx : (aloneOk) r
      · rw [hx] at HC2
        have HE := Lib.hid (show R = false by rw [HK.out, HD.out, hx]; rfl)
        clear hx
        go_wp2_with (go_at_call 30; refine HC2.out.mono ?_; rintro e w3 ⟨rfl, hb3⟩; have HB3 := Lib.hid (HB2.out.trans (hb3.mono HB2.out.size)); clear hb3)
        go_ret
        exact ⟨by rw [HE.out]; rfl, HB0.out.trans (HB3.out.mono HB0.out.size)⟩
      · rw [hx] at HC2
        have HE := Lib.hid (show R = (l.drop (k + 1)).all (aloneOk) by rw [HK.out, HD.out, hx, Bool.true_and])
        clear hx
        go_wp2_with (go_at_call 30; refine HC2.out.mono ?_; rintro e w3 ⟨rfl, hb3⟩; have HB3 := Lib.hid (HB2.out.trans (hb3.mono HB2.out.size)); clear hb3)
        go_roundw
        case rel => exact ⟨k + 1, by omega, by go_num, HE, HB3⟩
        case measure => simp [intOf]; omega
    · have HE := Lib.hid (show R = true by rw [HK.out, List.drop_eq_nil_of_le (by rw [← HM.out]; omega)]; rfl)
      go_wp2
      go_ret
      exact ⟨by rw [HE.out]; rfl, HL.out⟩

set_option maxRecDepth 100000 in
set_option maxHeartbeats 4000000 in
theorem own_all2 (l : List Ru) (v : Value) (bs : List Nat) (mb mb2 : Nat) (M1 M2 : List (Value × Value)) (wq : World) (xs : List (Rt wq)) (G : List Cn) (w : World) (hv : PrIs w v l bs) (hz : rusTot l ≤ 1048576) (hd : DemIs l w mb mb2 M1 M2 wq xs G) :
    Calls Tryz.prog 29 #[v, .func (.func 33) #[.agg #[.map (some mb), .map (some mb2)]] #[]] w (RetPost (.bool (l.all (metOk l))) w) := by
  have hll := rusTot_ge l
  have HCALL := Lib.hid (fun (r : Ru) (hm : r ∈ l) (v2 : Value) (b2 : List Nat) (W : World) (hW : Below w.heap.size w W) (h2 : RuIs W v2 r b2) => own_rule l r hm v2 b2 mb mb2 M1 M2 wq xs G W h2 (by have := rusTot_mem hm; omega) (fun q hq => by have := rusTot_mem hq; unfold ruTot ssTot at this; omega) (hd.below hW))
  obtain ⟨u, rfl, hu⟩ := id hv
  obtain ⟨A, c, rfl, hc1, hc2, -⟩ := id hu
  obtain ⟨m, hm⟩ : ∃ m, m = l.length := ⟨_, rfl⟩
  have HU := Lib.hid hu
  rw [← hm] at hc1 HU hll ⊢
  have HM := Lib.hid hm
  have HB0 := Lib.hid ((Below.refl w.heap.size w).alloc (Nat.le_refl _) (.cells #[.slice A m c] 26))
  have HBX := Lib.hid (fun (W : World) (h : Below (w.alloc (.cells #[.slice A m c] 26)).heap.size (w.alloc (.cells #[.slice A m c] 26)) W) => pbox h)
  have HV := Lib.hid (show l.all (metOk l) = (l.drop 0).all (metOk l) from rfl)
  have hmi : (m : Int) ≤ 1048576 := by omega
  clear hu hm hv hz
  generalize l.all (metOk l) = R at *
  go_enter Tryz.func29, Tryz.ntmps29
  go_wp2_with fail
  go_loopw [10] (fun i wr => ∃ (k : Nat), k ≤ m ∧ i = .int .i64 (k : Int) ∧ Hid (R = (l.drop k).all (metOk l)) ∧ Hid (Below (w.alloc (.cells #[.slice A m c] 26)).heap.size (w.alloc (.cells #[.slice A m c] 26)) wr)) (fun i _ => m - (intOf i).toNat)
  case atStart => exact ⟨0, Nat.zero_le _, rfl, HV, Lib.hid (Below.refl _ _)⟩
  case round =>
    obtain ⟨k, hk, rfl, HK, HB⟩ := hrel
    have x0 := HBX.out wr HB.out
    have HL := Lib.hid (HB0.out.trans (HB.out.mono HB0.out.size))
    by_cases hlt : k < m
    · obtain ⟨g, o, r, v1, v2, y, b, hA⟩ := (HU.out.below HL.out).get k (by rw [← HM.out]; exact hlt)
      obtain rfl := hA.eq
      obtain ⟨e0, e1, e2, e3, e4, e5, e6⟩ := hA.cells
      obtain ⟨b1, b2, b3, -, -, -, h3, h4, h5⟩ := hA.is.parts
      obtain ⟨A1, c1, rfl⟩ := h3.slice
      obtain ⟨A2, c2, rfl⟩ := h4.slice
      obtain ⟨A3, q3, c3, rfl⟩ := his_slice0 h5
      have hlo2 : Below wr.heap.size wr (wr.alloc (.cells #[.string r.name, .string r.con, .slice A1 r.vars.length c1, .slice A2 r.params.length c2, .int .i64 r.body.kind, .string r.body.name, .slice A3 q3 c3] 34)) := (Below.refl _ wr).alloc (Nat.le_refl _) _
      have HC2 := Lib.hid (HCALL.out r hA.mem _ b (wr.alloc (.cells #[.string r.name, .string r.con, .slice A1 r.vars.length c1, .slice A2 r.params.length c2, .int .i64 r.body.kind, .string r.body.name, .slice A3 q3 c3] 34)) (HL.out.trans (hlo2.mono HL.out.size)) (hA.is.below hlo2))
      have HB2 := Lib.hid (HB.out.trans (hlo2.mono HB.out.size))
      have HD := Lib.hid (show (l.drop k).all (metOk l) = ((metOk l) r && (l.drop (k + 1)).all (metOk l)) by
        obtain ⟨h1, h2⟩ := List.getElem?_eq_some_iff.1 hA.get
        rw [List.drop_eq_getElem_cons h1, h2, List.all_cons])
      have hk0 : (0 : Int) ≤ (k : Int) := by omega
      have hkn : (k : Int) < (m : Int) := by omega
      clear hA h3 h4 h5 hlo2
      cases hx : (metOk l) r
      · rw [hx] at HC2
        have HE := Lib.hid (show R = false by rw [HK.out, HD.out, hx]; rfl)
        clear hx
        go_wp2_with (go_at_call 33; refine HC2.out.mono ?_; rintro e w3 ⟨rfl, hb3⟩; have HB3 := Lib.hid (HB2.out.trans (hb3.mono HB2.out.size)); clear hb3)
        go_ret
        exact ⟨by rw [HE.out]; rfl, HB0.out.trans (HB3.out.mono HB0.out.size)⟩
      · rw [hx] at HC2
        have HE := Lib.hid (show R = (l.drop (k + 1)).all (metOk l) by rw [HK.out, HD.out, hx, Bool.true_and])
        clear hx
        go_wp2_with (go_at_call 33; refine HC2.out.mono ?_; rintro e w3 ⟨rfl, hb3⟩; have HB3 := Lib.hid (HB2.out.trans (hb3.mono HB2.out.size)); clear hb3)
        go_roundw
        case rel => exact ⟨k + 1, by omega, by go_num, HE, HB3⟩
        case measure => simp [intOf]; omega
    · have HE := Lib.hid (show R = true by rw [HK.out, List.drop_eq_nil_of_le (by rw [← HM.out]; omega)]; rfl)
      go_wp2
      go_ret
      exact ⟨by rw [HE.out]; rfl, HL.out⟩
end Go.Proofs.YtmndlhbgacgnlaaGreat

namespace Go.Proofs.YtmndlhbgacgnlaaGreat
open Go Go.RowKit

theorem nums_len {wo : World} {l : List Ru} {xs : List (Rt wo)} {M : List (Value × Value)} (hx : xs.map Rt.pair = numd 0 l) (hF : Firsts rkey rnum xs M) : ((M.length : Int) == (l.length : Int)) = decide ((l.map keyR).Nodup) := by
  have hl : xs.length = l.length := by
    have := congrArg List.length hx
    rw [List.length_map, numd_len] at this
    exact this
  have hru : xs.map Rt.ru = l := by
    have h2 : ∀ (t : List Ru) (k : Nat), (numd k t).map Prod.snd = t := by
      intro t
      induction t with
      | nil => intro k; rfl
      | cons a t ih => intro k; rw [numd, List.map_cons, ih]
    have := congrArg (List.map Prod.snd) hx
    rw [List.map_map, h2] at this
    exact this
  have hk : xs.map rkey = (l.map keyR).map (fun p => Value.agg #[.string p.1, .string p.2]) := by
    rw [← hru, List.map_map, List.map_map]; rfl
  have hn : (xs.map rkey).Nodup ↔ (l.map keyR).Nodup := by
    rw [hk]
    constructor
    · intro h
      exact (List.pairwise_map.1 h).imp (fun hne e => hne (by rw [e]))
    · intro h
      refine List.pairwise_map.2 (List.Pairwise.imp (fun {a b} hne e => hne ?_) h)
      simp at e
      exact Prod.ext e.1 e.2
  rw [Bool.eq_iff_iff, decide_eq_true_eq, ← hn, ← hF.len.2, hl]
  simp only [beq_iff_eq]
  omega

/-- What ruleNumbers gives, as its length alone tells it. -/
def NumsLen (m : Nat) (nd : Bool) (w : World) (e : Ending) (w2 : World) : Prop :=
  ∃ (mb q : Nat), e = .returned (.map (some mb)) ∧ (∀ ty : TypeId, (Builtin.len_ #[58] ty #[.map (some mb)]).run Tryz.prog w2 = .ok (.int .i64 (q : Int)) w2) ∧ ((q : Int) == (m : Int)) = nd ∧ Below w.heap.size w w2
theorem own_numlen (l : List Ru) (v : Value) (bs : List Nat) (w : World) (hv : PrIs w v l bs) (hb : l.length ≤ 1099511627776) : Calls Tryz.prog 31 #[v] w (NumsLen l.length (decide ((l.map keyR).Nodup)) w) := by
  refine (own_nums l v bs w hv hb).mono ?_
  rintro e w2 ⟨mb, M, xs, rfl, hm, hK, hxs, hF, hlo, hb2⟩
  exact ⟨mb, M.length, rfl, fun ty => asc_len_run _ hm Tryz.underlying58 ty, nums_len hxs hF, hb2⟩

set_option maxRecDepth 100000 in
set_option maxHeartbeats 8000000 in
theorem own_validp (l : List Ru) (v : Value) (bs : List Nat) (w : World) (hv : PrIs w v l bs) (hfr : Thawed w bs) (hz : rusTot l ≤ 1048576) :
    Calls Tryz.prog 7 #[v] w (RetPost (.bool (validR l)) w) := by
  have hll := rusTot_ge l
  have hml : l.length ≤ 1048576 := by omega
  have HA1 := Lib.hid (fun (W : World) (hW : Below w.heap.size w W) => own_all1 l v bs W (hv.below hW) hz)
  have HA2 := Lib.hid (fun (mb mb2 : Nat) (M1 M2 : List (Value × Value)) (wq : World) (xs : List (Rt wq)) (G : List Cn) (W : World) (hW : Below w.heap.size w W) (hd : DemIs l W mb mb2 M1 M2 wq xs G) => own_all2 l v bs mb mb2 M1 M2 wq xs G W (hv.below hW) hz hd)
  have HNU := Lib.hid (fun (W : World) (hW : Below w.heap.size w W) => own_numlen l v bs W (hv.below hW) (by omega))
  have HDE := Lib.hid (fun (W : World) (hW : Below w.heap.size w W) => own_dem l v bs W (hv.below hW) (hfr.below hW) (fun r hr => by have := rusTot_mem hr; have := (tot_size _).1 r.body (Nat.le_refl _); unfold ruTot at *; omega) (by omega))
  have HVA := Lib.hid ((valid_eq l).trans (show validO l = (decide (l.length ≤ 24) && (l.all aloneOk && (decide ((l.map keyR).Nodup) && l.all (metOk l)))) from rfl))
  obtain ⟨u, rfl, hu⟩ := id hv
  obtain ⟨A, c, rfl, hc1, hc2, -⟩ := id hu
  have HB0 := Lib.hid ((Below.refl w.heap.size w).alloc (Nat.le_refl _) (.cells #[.slice A l.length c] 26))
  have HBX := Lib.hid (fun (W : World) (h : Below (w.alloc (.cells #[.slice A l.length c] 26)).heap.size (w.alloc (.cells #[.slice A l.length c] 26)) W) => pbox h)
  clear hu hv hfr hz
  generalize validR l = R at *
  generalize ha1 : l.all aloneOk = a1 at *
  generalize ha2 : l.all (metOk l) = a2 at *
  generalize hnd : decide ((l.map keyR).Nodup) = nd at *
  clear ha1 ha2 hnd
  generalize l.length = m at *
  have hmi : (m : Int) ≤ 1048576 := by omega
  obtain ⟨W0, hW0⟩ : ∃ W0, W0 = w.alloc (.cells #[.slice A m c] 26) := ⟨_, rfl⟩
  rw [← hW0] at HB0 HBX
  have HW0 := Lib.hid hW0
  have x0 := HBX.out W0 (Below.refl _ _)
  clear hW0 hll
  by_cases h24 : m ≤ 24
  · have h24i : ¬ (24 : Int) < (m : Int) := by omega
    have h24j : (m : Int) ≤ 24 := by omega
    rw [decide_eq_true h24, Bool.true_and] at HVA
    clear h24
    go_enter Tryz.func7, Tryz.ntmps7
    go_wp2_with fail
    rw [← HW0.out]
    go_at_call 29
    refine (HA1.out W0 HB0.out).mono ?_
    rintro e w1 ⟨rfl, hb1⟩
    have HB1 := Lib.hid hb1
    have y0 := HBX.out w1 hb1
    clear hb1
    cases a1
    · rw [Bool.false_and] at HVA
      go_wp2_with fail
      go_ret
      exact ⟨by rw [HVA.out]; rfl, HB0.out.trans (HB1.out.mono HB0.out.size)⟩
    · rw [Bool.true_and] at HVA
      have HD1 := Lib.hid (HB1.out.trans (Below.drew (Below.refl w1.heap.size w1) |>.mono HB1.out.size))
      cases nd
      · rw [Bool.false_and] at HVA
        go_wp2_with fail
        go_region_law
          (first
          | (go_simp; go_at_call 31; refine (HNU.out w1.drew (HB0.out.trans (HD1.out.mono HB0.out.size))).mono ?_; rintro e w2 ⟨mb, mq, rfl, hlen, hq, hb2⟩; have HB2 := Lib.hid (HD1.out.trans (hb2.mono HD1.out.size)); have z0 := HBX.out w2 HB2.out; clear hb2))
        all_goals
          go_wp2_with fail
          go_region_law (fail)
          all_goals
            go_wp2_with fail
            go_ret
            exact ⟨by rw [HVA.out]; rfl, HB0.out.trans (HB2.out.drew.mono HB0.out.size)⟩
      · rw [Bool.true_and] at HVA
        go_wp2_with fail
        go_region_law
          (first
          | (go_simp; go_at_call 31; refine (HNU.out w1.drew (HB0.out.trans (HD1.out.mono HB0.out.size))).mono ?_; rintro e w2 ⟨mb, mq, rfl, hlen, hq, hb2⟩; have HB2 := Lib.hid (HD1.out.trans (hb2.mono HD1.out.size)); have z0 := HBX.out w2 HB2.out; have HD2 := Lib.hid (HB2.out.trans (Below.drew (Below.refl w2.heap.size w2) |>.mono HB2.out.size)); clear hb2))
        all_goals
          go_wp2_with fail
          go_region_law
            (first
            | (go_simp; go_at_call 32; refine (HDE.out w2.drew (HB0.out.trans (HD2.out.mono HB0.out.size))).mono ?_; rintro e w3 ⟨mb1, mb2, M1, M2, wq, xs2, G, rfl, hq1, hq2, hb3⟩; have HQ := Lib.hid (show DemIs l w3 mb1 mb2 M1 M2 wq xs2 G from ⟨hq1, hq2⟩); have HB3 := Lib.hid (HD2.out.trans (hb3.mono HD2.out.size)); clear hb3 hq1 hq2; have u0 := HBX.out w3 HB3.out)
            | (go_simp; go_at_call 29; refine (HA2.out mb1 mb2 M1 M2 wq xs2 G w3 (HB0.out.trans (HB3.out.mono HB0.out.size)) HQ.out).mono ?_; rintro e w4 ⟨rfl, hb4⟩; have HB4 := Lib.hid (HB3.out.trans (hb4.mono HB3.out.size)); clear hb4))
          all_goals
            go_wp2_with fail
            go_ret
            exact ⟨by rw [HVA.out]; rfl, HB0.out.trans (HB4.out.mono HB0.out.size)⟩
  · have h24i : (24 : Int) < (m : Int) := by omega
    rw [decide_eq_false h24, Bool.false_and] at HVA
    clear h24
    go_enter Tryz.func7, Tryz.ntmps7
    go_wp2_with fail
    rw [← HW0.out]
    go_ret
    exact ⟨by rw [HVA.out]; rfl, HB0.out⟩
end Go.Proofs.YtmndlhbgacgnlaaGreat

namespace Go.Proofs.YtmndlhbgacgnlaaGreat
open Go Go.RowKit

theorem acc_sizeO {l : List Ru} (k : Nat) (hz : rusTot l ≤ 1048576) (h24 : l.length ≤ 24) : (linesOf ⟨#[]⟩ (l.take k)).size ≤ 104857600 := by
  have h1 := linesOf_size (l.take k) ⟨#[]⟩ (fun r hr => by have := rusTot_mem (List.mem_of_mem_take hr); omega)
  have h2 : (l.take k).length ≤ 24 := by rw [List.length_take]; omega
  have h3 : (⟨#[]⟩ : ByteArray).size = 0 := rfl
  have h4 : (l.take k).length * 4194305 ≤ 24 * 4194305 := Nat.mul_le_mul_right _ h2
  omega

set_option maxRecDepth 100000 in
set_option maxHeartbeats 4000000 in
theorem own_prtext (l : List Ru) (v : Value) (bs : List Nat) (w : World) (hv : PrIs w v l bs) (hfr : Thawed w bs) (hz : rusTot l ≤ 1048576) :
    Calls Tryz.prog 25 #[v] w (RetPost (.string (prStr l)) w) := by
  have hll := rusTot_ge l
  have HVAL := Lib.hid (fun (W : World) (hW : Below w.heap.size w W) => own_validp l v bs W (hv.below hW) (hfr.below hW) hz)
  have HRU := Lib.hid (fun (r : Ru) (hm : r ∈ l) (v2 : Value) (b2 : List Nat) (W : World) (h2 : RuIs W v2 r b2) => own_rutext r v2 b2 W h2 (by have := rusTot_mem hm; omega))
  have HPR := Lib.hid (show prStr l = if validR l then linesOf ⟨#[]⟩ l else ⟨#[]⟩ from rfl)
  have HVL := Lib.hid (fun (h : validR l = true) => validR_len h)
  have HRS := Lib.hid (fun (r : Ru) (hm : r ∈ l) => ruStr_size (r := r) (by have := rusTot_mem hm; omega))
  have HAC := Lib.hid (fun (k : Nat) (h24 : l.length ≤ 24) => acc_sizeO (l := l) k hz h24)
  obtain ⟨u, rfl, hu⟩ := id hv
  obtain ⟨A, c, rfl, hc1, hc2, -⟩ := id hu
  obtain ⟨m, hm⟩ : ∃ m, m = l.length := ⟨_, rfl⟩
  have HU := Lib.hid hu
  rw [← hm] at hc1 HU hll HVAL HVL HAC ⊢
  have HM := Lib.hid hm
  have hb0 : Below w.heap.size w (w.alloc (.cells #[.slice A m c] 26)) := (Below.refl w.heap.size w).alloc (Nat.le_refl _) (.cells #[.slice A m c] 26)
  have HBX := Lib.hid (fun (W : World) (h : Below (w.alloc (.cells #[.slice A m c] 26)).heap.size (w.alloc (.cells #[.slice A m c] 26)) W) => pbox h)
  have hmi : (m : Int) ≤ 1048576 := by omega
  obtain ⟨W0, hW0⟩ : ∃ W0, W0 = w.alloc (.cells #[.slice A m c] 26) := ⟨_, rfl⟩
  rw [← hW0] at hb0 HBX
  have HB0 := Lib.hid hb0
  have HW0 := Lib.hid hW0
  clear hu hm hv hz hll hfr hW0 hb0
  generalize prStr l = R at *
  go_enter Tryz.func25, Tryz.ntmps25
  go_wp2_with fail
  rw [← HW0.out]
  go_at_call 7
  refine (HVAL.out W0 HB0.out).mono ?_
  rintro e w1 ⟨rfl, hb1⟩
  have HB1 := Lib.hid hb1
  have y0 := HBX.out w1 hb1
  clear hb1
  cases hva : validR l
  · rw [hva] at HPR
    have HE := Lib.hid (show R = ⟨#[]⟩ by rw [HPR.out]; rfl)
    clear hva
    go_wp2_with fail
    go_ret
    exact ⟨by rw [HE.out]; rfl, HB0.out.trans (HB1.out.mono HB0.out.size)⟩
  · rw [hva] at HPR
    have h24 := HVL.out hva
    have HE := Lib.hid (show R = linesOf ⟨#[]⟩ l by rw [HPR.out]; rfl)
    clear hva
    go_wp2_with fail
    go_loopw [3, 12] (fun out i wr => ∃ (k : Nat), k ≤ m ∧ out = .string (linesOf ⟨#[]⟩ (l.take k)) ∧ i = .int .i64 (k : Int) ∧ Hid (Below W0.heap.size W0 wr)) (fun _ i _ => m - (intOf i).toNat)
    case atStart => exact ⟨0, Nat.zero_le _, rfl, rfl, HB1⟩
    case round =>
      obtain ⟨k, hk, rfl, rfl, HB⟩ := hrel
      have HL := Lib.hid (HB0.out.trans (HB.out.mono HB0.out.size))
      by_cases hlt : k < m
      · obtain ⟨g, o, r, v1, v2, y, b, hA⟩ := (HU.out.below HL.out).get k (by rw [← HM.out]; exact hlt)
        obtain rfl := hA.eq
        obtain ⟨e0, e1, e2, e3, e4, e5, e6⟩ := hA.cells
        obtain ⟨b1, b2, b3, -, -, -, h3, h4, h5⟩ := hA.is.parts
        obtain ⟨A1, c1, rfl⟩ := h3.slice
        obtain ⟨A2, c2, rfl⟩ := h4.slice
        obtain ⟨A3, q3, c3, rfl⟩ := his_slice0 h5
        have hlo2 : Below wr.heap.size wr (wr.alloc (.cells #[.string r.name, .string r.con, .slice A1 r.vars.length c1, .slice A2 r.params.length c2, .int .i64 r.body.kind, .string r.body.name, .slice A3 q3 c3] 34)) := (Below.refl _ wr).alloc (Nat.le_refl _) _
        have HRT := Lib.hid (HRU.out r hA.mem _ b (wr.alloc (.cells #[.string r.name, .string r.con, .slice A1 r.vars.length c1, .slice A2 r.params.length c2, .int .i64 r.body.kind, .string r.body.name, .slice A3 q3 c3] 34)) (hA.is.below hlo2))
        have HB2 := Lib.hid (HB.out.trans (hlo2.mono HB.out.size))
        have hs1 := HAC.out k h24
        have hs2 := HRS.out r hA.mem
        have htk := take_ru l k r hA.get
        obtain ⟨p1, hp1⟩ : ∃ x : ByteArray, x = ruStr r ++ nlStr := ⟨_, rfl⟩
        have hp2 : linesOf ⟨#[]⟩ (l.take (k + 1)) = linesOf ⟨#[]⟩ (l.take k) ++ p1 := by rw [htk, linesOf_snoc, hp1]
        have hq1 : p1.size = (ruStr r).size + 1 := by rw [hp1]; exact ByteArray.size_append
        have hA1 : ∀ W, (Op.stringOp .add (ruStr r) ⟨#[10]⟩).run Tryz.prog W = .ok (.string p1) W := fun W => by
          rw [hp1]; exact run_string_add_sum W _ ⟨#[10]⟩ (by show _ + 1 ≤ _; omega)
        have hA2 : ∀ W, (Op.stringOp .add (linesOf ⟨#[]⟩ (l.take k)) p1).run Tryz.prog W = .ok (.string (linesOf ⟨#[]⟩ (l.take (k + 1)))) W := fun W => by
          rw [hp2]; exact run_string_add_sum W _ p1 (by omega)
        have hk0 : (0 : Int) ≤ (k : Int) := by omega
        have hkn : (k : Int) < (m : Int) := by omega
        clear hA h3 h4 h5 hs1 hs2 htk hp1 hp2 hq1 hlo2
        generalize linesOf ⟨#[]⟩ (l.take k) = acc at *
        generalize hac2 : linesOf ⟨#[]⟩ (l.take (k + 1)) = acc2 at *
        have HAC2 := Lib.hid hac2
        generalize ruStr r = rs at *
        clear hac2
        go_wp2_with (go_at_call 55; refine HRT.out.mono ?_; rintro e w3 ⟨rfl, hb3⟩; have HB3 := Lib.hid (HB2.out.trans (hb3.mono HB2.out.size)); clear hb3)
        go_roundw
        case rel => exact ⟨k + 1, by omega, by rw [HAC2.out], by go_num, HB3⟩
        case measure => simp [intOf]; omega
      · have hE2 : linesOf ⟨#[]⟩ (l.take k) = R := by rw [HE.out, List.take_of_length_le (by rw [← HM.out]; omega)]
        rw [hE2]
        clear hE2
        go_wp2
        go_ret
        exact ⟨rfl, HL.out⟩
end Go.Proofs.YtmndlhbgacgnlaaGreat
