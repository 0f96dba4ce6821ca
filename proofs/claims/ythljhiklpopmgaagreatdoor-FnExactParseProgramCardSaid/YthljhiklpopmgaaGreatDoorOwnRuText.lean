/- A part of the proof of the seat's statement: OwnRuText. Condition: as each says. -/
import Derived.Test.YthljhiklpopmgaaGreatDoorLineMath
import Derived.Test.YthljhiklpopmgaaGreatDoorOwnSize
import Derived.Test.YthljhiklpopmgaaGreatDoorShelf
import Derived.LoopNIn
import Derived.LoopIn
import Derived.BigRegion
import Derived.Test.YthljhiklpopmgaaGreatDoorBack
import Derived.Test.YthljhiklpopmgaaGreatDoorRuNames
import Derived.Lib.AppendZerosOnto
import Derived.Test.YthljhiklpopmgaaGreatDoorExSz
import Derived.Test.YthljhiklpopmgaaGreatDoorKids
import Derived.ProofKit
import Derived.OpenShut
import Derived.Lib.SmallJoins
import Derived.Deep.Fields
import Derived.Test.YthljhiklpopmgaaGreatDoorPrText
import Derived.Test.YthljhiklpopmgaaGreatDoorRuCon
import Derived.Lib.QuietBelow
set_option maxHeartbeats 8000000
namespace Go.Proofs.YthljhiklpopmgaaGreatDoor
open Go Go.RowKit Go.Shelf
attribute [local go_sem] Oper.semAt_some
theorem lines_start (s : ByteArray) (w : World) : Calls Tryz.prog 22 #[.string s] w fun e w2 => e = .returned (.func (.func 44) #[] #[.pointer (some ⟨w.heap.size, 0, none⟩)]) ∧ w2 = w.alloc (.cells #[.string s] 9) := by
 go_enter Tryz.func22, Tryz.ntmps22
 go_wp2
 go_ret
 exact ⟨rfl, rfl⟩
set_option maxRecDepth 100000 in
theorem lines_in (F : Fence) (n : Nat) (hFw : F = Fence.wide) (hro : F.round = none) (hF : ∀ k, F.fn k) (hn : 3 ≤ n) (l Bs : Nat) (wo : World) (s : ByteArray) (hs : s.size ≤ 1048576)
 (J Jx : List Ln → List Nat → World → Prop) (hJ : Minds J) (hJx : Minds Jx)
 (hY : ∀ pre x M W1, J pre M W1 → (∀ k ∈ M, k < W1.heap.size) → pre.length < (lineL s).length → YieldAt F (n - 1) Tryz.prog l #[.string x.1] W1 fun e W2 =>
  (e = .returned (.bool true) ∧ J (pre ++ [x]) M W2 ∧ Kept wo.heap.size M W1 W2) ∨ (e = .returned (.bool false) ∧ Jx (pre ++ [x]) M W2 ∧ Kept wo.heap.size M W1 W2))
 (W : World) (hBs : Boxed W Bs 9 (.string s)) (h0 : J [] [Bs] W) :
 CallsIn F n Tryz.prog 44 #[.func (.yield l) #[] #[], .pointer (some ⟨Bs, 0, none⟩)] W fun e W2 => (∃ v, e = .returned v) ∧
  ((∃ (xs : List Ln) (M : List Nat), xs.map trimL = lineL s ∧ J xs M W2) ∨ (∃ (pre : List Ln) (M : List Nat), (∃ t, pre.map trimL ++ t = lineL s) ∧ Jx pre M W2)) := by
 have hq1 : 1 ≤ n := by omega
 have HFW := zH hFw
 have HS := zH hs
 have HY := zH hY
 have HJ := zH hJ
 have HJX := zH hJx
 have HB0 := zH hBs
 have HJ0 := zH h0
 have HFF := zH hF
 clear hFw hs hY hJ hJx hBs h0
 refine callsIn_of_wp Tryz.func44 rfl (HFF.out _) ?_ hro
 simp only [Tryz.ntmps44, List.size_toArray, List.length_cons, List.length_nil, Nat.reduceAdd, Nat.reduceSub, Array.replicate_succ, Array.replicate_zero, List.push_toArray, List.append_toArray, List.nil_append, List.cons_append]
 gi_wp2
 gi_loopw [3] (fun _ wr => ∃ (pre : List Ln) (left : ByteArray), Hid (J pre [Bs] wr) ∧ Hid (Boxed wr Bs 9 (.string left)) ∧ Hid (LInv s pre left)) (fun _ wr => strLen ((wr.cell? ⟨Bs, 0, none⟩).getD (.string ⟨#[]⟩)))
 case atStart => exact ⟨[], s, HJ0, HB0, zH (LInv.start s)⟩
 case round =>
  obtain ⟨pre, left, HJP, HBX, HI⟩ := hrel
  have hlz : left.size ≤ 1048576 := Nat.le_trans HI.out.2 HS.out
  have hlz2 : (left.size : Int) ≤ 1048576 := by omega
  have hbc := HBX.out.cell
  have hbf := HBX.out.frozen
  have hbl := HBX.out.lt
  have HME := zH (show strLen ((wr.cell? ⟨Bs, 0, none⟩).getD (.string ⟨#[]⟩)) = left.size by rw [hbc]; rfl)
  by_cases hz : left.size = 0
  · have hzi : ¬ (0 : Int) < (left.size : Int) := by omega
    have hzj : (left.size : Int) ≤ 0 := by omega
    have HD := zH (HI.out.done hz)
    clear hz
    gi_wp2
    go_end0
    exact ⟨⟨_, rfl⟩, .inl ⟨pre, HD.out, _, HJP.out⟩⟩
  have hzi : (0 : Int) < (left.size : Int) := by omega
  have HIX := zH (Tryz.strings_IndexByte left 10 wr)
  have h10 : (10 : Int).toNat.toUInt8 = 10 := by decide
  rw [h10] at HIX
  rcases Int.lt_or_le (Lib.indexByte left.data.toList 10) 0 with hneg | hpos
  · have hm1 : Lib.indexByte left.data.toList 10 = -1 := by have := Lib.indexByte_ge left.data.toList 10; omega
    rw [hm1] at HIX
    have HN := zH (HI.out.miss hm1 hz ⟨left, hlz⟩ rfl)
    clear hz hneg hm1 h10
    gi_wp2_with (gi_at_call 45; refine (wide_in (n := n - 1) HFW.out HIX.out).mono ?_; rintro r w2 ⟨rfl, rfl⟩)
    obtain ⟨V, hV⟩ : ∃ V, V = w2.setCell ⟨Bs, 0, none⟩ (.string ⟨#[]⟩) := ⟨_, rfl⟩
    have hfv : Fr [Bs] w2 V := by rw [hV]; exact Fr.set (S := [Bs]) w2 ⟨Bs, 0, none⟩ _ (by simp)
    have hbv : Boxed V Bs 9 (.string ⟨#[]⟩) := by rw [hV]; exact HBX.out.set _
    rw [← hV]
    have HFV := zH hfv
    have HBV := zH hbv
    have HV := zH hV
    obtain ⟨fn, tmps, assign, body, hy, hR⟩ := HY.out pre ⟨left, hlz⟩ [Bs] V (HJ.out _ _ _ _ _ HJP.out hfv (fun k hk => Or.inl hk)) (fun k hk => by rw [List.mem_singleton] at hk; subst hk; exact hbv.lt) HN.out.room
    clear hV hfv hbv
    have hy2 : (Instr.yield l #[.string left]).run Tryz.prog V = .ok (.round l fn tmps assign body) V := hy
    rw [hy2]
    refine ⟨fun _ => hq1, hR.mono ?_⟩
    clear hy hy2 hR
    rintro r W3 (⟨rfl, hj3, hk3⟩ | ⟨rfl, hjx3, hk3⟩)
    · have HJ3 := zH hj3
      have HBX3 := zH (box_on HBV.out (hk3.2 Bs (by simp)))
      have HME3 := zH (show strLen ((W3.cell? ⟨Bs, 0, none⟩).getD (.string ⟨#[]⟩)) < strLen ((w2.cell? ⟨Bs, 0, none⟩).getD (.string ⟨#[]⟩)) by rw [HME.out, HBX3.out.cell]; exact (by show 0 < _; omega))
      clear hj3 hk3
      gi_wp2
      go_roundw
      case rel => exact ⟨_, _, HJ3, HBX3, HN⟩
      case measure => exact HME3.out
    have HJ3 := zH hjx3
    clear hjx3 hk3
    gi_wp2
    refine bodyPost_ret (results_none rfl _ _ _) rfl ?_
    exact ⟨⟨_, rfl⟩, .inr ⟨_, _, HN.out.pre, HJ3.out⟩⟩
  obtain ⟨i, hi⟩ : ∃ i : Nat, Lib.indexByte left.data.toList 10 = i := ⟨(Lib.indexByte left.data.toList 10).toNat, by omega⟩
  rw [hi] at HIX
  have hxz : (left.extract 0 (i + 1)).size ≤ 1048576 := by rw [ByteArray.size_extract]; omega
  obtain ⟨hn1, hn2⟩ := HI.out.hit hi ⟨left.extract 0 (i + 1), hxz⟩ rfl
  have HN := zH hn1
  have hn3 : (i : Int) < (left.size : Int) := by omega
  have hi0 : (0 : Int) ≤ (i : Int) := by omega
  clear hz hpos hi h10 hn1
  gi_wp2_with (gi_at_call 45; refine (wide_in (n := n - 1) HFW.out HIX.out).mono ?_; rintro r w2 ⟨rfl, rfl⟩)
  rw [HFW.out]
  refine drop_rest (wpIn_wide.2 ?_)
  go_region
  all_goals
   gi_wp2
   obtain ⟨V, hV⟩ : ∃ V, V = (w2.setCell ⟨Bs, 0, none⟩ (.string (left.extract (i + 1) left.size))).drew := ⟨_, rfl⟩
   have hfv : Fr [Bs] w2 V := by rw [hV]; exact (Fr.set (S := [Bs]) w2 ⟨Bs, 0, none⟩ _ (by simp)).drew
   have hbv : Boxed V Bs 9 (.string (left.extract (i + 1) left.size)) := by rw [hV]; exact Boxed.set _ HBX.out
   rw [← hV]
   have HFV := zH hfv
   have HBV := zH hbv
   have HV := zH hV
   obtain ⟨fn, tmps, assign, body, hy, hR⟩ := HY.out pre ⟨left.extract 0 (i + 1), hxz⟩ [Bs] V (HJ.out _ _ _ _ _ HJP.out hfv (fun k hk => Or.inl hk)) (fun k hk => by rw [List.mem_singleton] at hk; subst hk; exact hbv.lt) HN.out.room
   clear hV hfv hbv
   have hy2 : (Instr.yield l #[.string (left.extract 0 (i + 1))]).run Tryz.prog V = .ok (.round l fn tmps assign body) V := hy
   rw [hy2]
   refine ⟨fun _ => hq1, hR.mono ?_⟩
   clear hy hy2 hR
   rintro r W3 (⟨rfl, hj3, hk3⟩ | ⟨rfl, hjx3, hk3⟩)
   · have HJ3 := zH hj3
     have HBX3 := zH (box_on HBV.out (hk3.2 Bs (by simp)))
     have HME3 := zH (show strLen ((W3.cell? ⟨Bs, 0, none⟩).getD (.string ⟨#[]⟩)) < strLen ((w2.cell? ⟨Bs, 0, none⟩).getD (.string ⟨#[]⟩)) by rw [HME.out, HBX3.out.cell]; exact (by show (ByteArray.extract _ _ _).size < _; rw [ByteArray.size_extract]; omega))
     clear hj3 hk3
     gi_wp2
     go_roundw
     case rel => exact ⟨_, _, HJ3, HBX3, HN⟩
     case measure => exact HME3.out
   have HJ3 := zH hjx3
   clear hjx3 hk3
   gi_wp2
   refine bodyPost_ret (results_none rfl _ _ _) rfl ?_
   exact ⟨⟨_, rfl⟩, .inr ⟨_, _, HN.out.pre, HJ3.out⟩⟩
open Go Go.RowKit
theorem wpList_append_run {P : Program} {w w' : World} {ops : Array Oper} {rest : List Oper} {o : Oper} {a : Act} {Q : Exit → Act → World → Prop} (hgd : o.guard = none) (s x : Operand) (ts : Array TypeId)
 (ho : o.op = .call { callee := .builtin .append, args := #[s, x], argTypes := ts }) {v x' v' : Value} (hs : a.eval s = v) (hx : a.eval x = x') (hr : (Builtin.append_ ts o.type #[v, x']).run P w = .ok v' w')
 (h : wpList P ops Q rest (a.put o.dst v') w') : wpList P ops Q (o :: rest) a w := by
 refine wpList_plain hgd fun K hK => ?_
 unfold Oper.wp execOp
 simp only [ho, resolve, invoke, builtin, Sem.run_bind, Sem.run_pure, Result.andThen_ok, List.map_toArray, List.map_cons, List.map_nil, hs, hx, hr]
 exact hK _ _ h
def StrsPost (xs : List ByteArray) (w : World) (e : Ending) (w' : World) : Prop := ∃ v, e = .returned v ∧ OwnsL w.heap.size w' v xs ∧ Below w.heap.size w w'
theorem grow_row (w : World) (n cp : Nat) (h1 : n ≤ cp) (h2 : cp ≤ maxLen) : OwnsL w.heap.size (w.drew.alloc (.cells (Builtin.zeroCells #[.string ⟨#[]⟩] n ++ Builtin.zeroCells #[.string ⟨#[]⟩] (cp - n)) 9)) (.slice (some ⟨w.heap.size, 0, none⟩) 0 cp) [] := by
 refine ⟨rfl, Or.inr ⟨w.heap.size, cp, _, rfl, Nat.le_refl _, heap_alloc_new w.drew _, Nat.zero_le _, h2, ?_, by simp⟩⟩
 simp [Builtin.zeroCells]; omega
theorem lib_grow (n : Nat) (w : World) (hn : n ≤ 1099511627776) : Calls Tryz.prog 146 #[.slice none 0 0, .int .i64 (n : Int)] w (StrsPost [] w) := by
 have hni : (n : Int) ≤ 1099511627776 := by omega
 by_cases h0 : n = 0
 · subst h0
   show Calls Tryz.prog 146 #[.slice none 0 0, .int .i64 0] w (StrsPost [] w)
   go_enter Tryz.func146, Tryz.ntmps146
   go_wp2_with fail
   go_ret
   exact ⟨_, rfl, World.ownsRow_nil _ _ _ _, Below.refl _ _⟩
 have hp : 0 < n := by omega
 have hpi : (0 : Int) < (n : Int) := by omega
 have hx := Tryz.info9u
 cases hi : Tryz.prog.info? 9 with
 | none => rw [hi] at hx; cases hx
 | some i =>
 rw [hi] at hx
 simp only [Option.map_some, Option.some.injEq, Prod.mk.injEq] at hx
 obtain ⟨hz, hsz, hby⟩ := hx
 have HR := zH (fun (ty : TypeId) => Lib.run_append_nil_zeros (P := Tryz.prog) w 30 3 ty 9 i (.string ⟨#[]⟩) .i64 .i64 Tryz.underlying30 Tryz.underlying3 hi hz n hp (by omega) (by omega) (by rw [hby]; omega))
 have hc1 := grownCap_ge w n 0 9
 have hc2 := grownCap_le_maxLen w n 0 9 (by unfold maxLen; omega)
 have HROW := zH (grow_row w n _ hc1 hc2)
 have HB := zH (show Below w.heap.size w (w.drew.alloc (.cells (Builtin.zeroCells #[.string ⟨#[]⟩] n ++ Builtin.zeroCells #[.string ⟨#[]⟩] (grownCap w n 0 9 - n)) 9)) from (Below.refl _ _).drew.alloc (Nat.le_refl _) _)
 generalize grownCap w n 0 9 = cp at *
 have hcp : (cp : Int) ≤ 9223372036854775807 := by unfold maxLen at hc2; omega
 clear hc1 hc2 hz hsz hby hi h0
 go_enter Tryz.func146, Tryz.ntmps146
 go_wp2_with (at_builtin; (refine wpList_append_run rfl (.tmp 20) (.tmp 21) #[30, 3] rfl rfl rfl (HR.out _) ?_))
 go_ret
 exact ⟨_, rfl, HROW.out, HB.out⟩
theorem lib_concat (g : Nat) (A1 A2 : Option Addr) (xs ys : List ByteArray) (c1 c2 : Nat) (w : World) (h0 : w.cell? ⟨g, 0, none⟩ = some (.slice A1 xs.length c1)) (h1 : w.cell? ⟨g, 1, none⟩ = some (.slice A2 ys.length c2))
 (hs1 : Strs w A1 xs) (hs2 : Strs w A2 ys) (hx : xs.length ≤ 1048576) (hy : ys.length ≤ 1048576) : Calls Tryz.prog 132 #[.slice (some ⟨g, 0, none⟩) 2 2] w (StrsPost (xs ++ ys) w) := by
 have hg := World.block_lt_of_cell? w _ h0
 have HG := zH (lib_grow (xs.length + ys.length) w (by omega))
 have HC := zH (fun (W : World) (hW : Below w.heap.size w W) => show W.cell? ⟨g, 0, none⟩ = some (.slice A1 xs.length c1) ∧ W.cell? ⟨g, 1, none⟩ = some (.slice A2 ys.length c2) from ⟨(hW.cell (p := ⟨g, 0, none⟩) hg).trans h0, (hW.cell (p := ⟨g, 1, none⟩) hg).trans h1⟩)
 have HS1 := zH (fun (W : World) (hW : Below w.heap.size w W) => hs1.below hW)
 have HS2 := zH (fun (W : World) (hW : Below w.heap.size w W) => hs2.below hW)
 have HX := zH hx
 have HY := zH hy
 obtain ⟨n, hn⟩ : ∃ n, n = xs.length := ⟨_, rfl⟩
 obtain ⟨m, hm⟩ : ∃ m, m = ys.length := ⟨_, rfl⟩
 have hni : (n : Int) ≤ 1048576 := by omega
 have hmi : (m : Int) ≤ 1048576 := by omega
 have HN := zH hn
 have HM := zH hm
 rw [← hn, ← hm] at HG HC
 rw [← hn] at h0
 rw [← hm] at h1
 have HGC := zH (show Calls Tryz.prog 146 #[.slice none 0 0, .int .i64 ((n : Int) + (m : Int))] w (StrsPost [] w) by have h := HG.out; rw [Int.natCast_add] at h; exact h)
 have hn0 : (0 : Int) ≤ (n : Int) := by omega
 have hm0 : (0 : Int) ≤ (n : Int) + (m : Int) := by omega
 have hnl : ¬ (n : Int) < 0 := by omega
 have hml : ¬ (n : Int) + (m : Int) < 0 := by omega
 clear hs1 hs2 hx hy hn hm HG hg
 go_enter Tryz.func132, Tryz.ntmps132
 go_wp2_with fail
 refine wp_loop_rounds 3 ?_
 rw [rounds_succ]
 go_wp2_with fail
 rw [rounds_succ]
 go_wp2_with fail
 rw [rounds_succ]
 go_wp2_with fail
 go_at_call 146
 refine HGC.out.mono ?_
 rintro e w1 ⟨v, rfl, ho, hb⟩
 have HO := zH ho
 have HB := zH hb
 clear ho hb
 obtain ⟨d0, d1⟩ := HC.out w1 HB.out
 go_wp2_with fail
 refine wp_loop_rounds 3 ?_
 rw [rounds_succ]
 go_wp2_with (at_builtin; (refine wpList_append_strs rfl (.tmp 31) (.tmp 32) rfl w.heap.size v [] rfl HO.out A1 xs c1 (by rw [← HN.out]; rfl) (HS1.out w1 HB.out) (by have := HX.out; simp; omega) HB.out.size ?_); intro v7 w7 ho7 hg7; have HO7 := zH ho7; have HB7 := zH (OwnsL.grown HB.out HO.out hg7); clear ho7 hg7; obtain ⟨z0, z1⟩ := HC.out w7 HB7.out)
 rw [rounds_succ]
 go_wp2_with (at_builtin; (refine wpList_append_strs rfl (.tmp 31) (.tmp 32) rfl w.heap.size v7 ([] ++ xs) rfl HO7.out A2 ys c2 (by rw [← HM.out]; rfl) (HS2.out w7 HB7.out) (by have := HX.out; have := HY.out; simp; omega) HB7.out.size ?_); intro v8 w8 ho8 hg8; have HO8 := zH ho8; have HB8 := zH (OwnsL.grown HB7.out HO7.out hg8); clear ho8 hg8)
 rw [rounds_succ]
 go_wp2_with fail
 go_ret
 exact ⟨_, rfl, HO8.out, HB8.out⟩
theorem names_snoc (L : List Ex) (k : Nat) (e : Ex) (h : L[k]? = some e) : (L.take (k + 1)).map Ex.name = (L.take k).map Ex.name ++ [e.name] := by
 obtain ⟨h1, h2⟩ := List.getElem?_eq_some_iff.1 h
 rw [List.take_succ_eq_append_getElem h1, h2, List.map_append]; rfl
theorem l6names_any (L : List Ex) (A : Option Addr) (m c : Nat) (bs : List Nat) (w : World) (hu : SlIs w (.slice A m c) L bs) (hm : m ≤ 1048576) :
 Calls Tryz.prog 18 #[.slice A m c] w (StrsPost (L.map Ex.name) w) := by
 have HU := zH hu
 have HM := zH hu.len.1
 have hmi : (m : Int) ≤ 1048576 := by omega
 have H0 := zH (show OwnsL w.heap.size (w.alloc (.cells #[] 9)) (.slice (some ⟨w.heap.size, 0, none⟩) 0 0) ((L.take 0).map Ex.name) from World.ownsRow_lit w #[] 0 (Nat.le_refl _) (by unfold maxLen; omega) rfl)
 have HB0 := zH ((Below.refl w.heap.size w).alloc (Nat.le_refl _) (.cells #[] 9))
 clear hu
 go_enter Tryz.func18, Tryz.ntmps18
 go_wp2_with fail
 go_loopw [3, 4] (fun v i wr => ∃ (k : Nat), k ≤ m ∧ i = .int .i64 (k : Int) ∧ Hid (OwnsL w.heap.size wr v ((L.take k).map Ex.name)) ∧ Hid (Below w.heap.size w wr)) (fun _ i _ => m - (intOf i).toNat)
 case atStart => exact ⟨0, Nat.zero_le _, rfl, H0, HB0⟩
 case round =>
  obtain ⟨k, hk, rfl, HO, HB⟩ := hrel
  by_cases hlt : k < m
  · obtain ⟨g, o, e1, u, b1, rfl, hbl, hget, hmem, c0, c1, c2, his, -⟩ := (HU.out.below HB.out).get k (by rw [← HM.out]; exact hlt)
    have HT := zH (names_snoc L k e1 hget)
    have HLE := zH (show ((L.take k).map Ex.name).length = k by rw [List.length_map, List.length_take, ← HM.out]; omega)
    have HO2 := zH (show OwnsL w.heap.size (wr.alloc (.cells #[.string e1.name] 9)) u3 ((L.take k).map Ex.name) from World.ownsRow.alloc HO.out _)
    have HB2 := zH (HB.out.alloc HB.out.size (.cells #[.string e1.name] 9))
    have HONE := zH (strs_one wr e1.name)
    have hk0 : (0 : Int) ≤ (k : Int) := by omega
    have hkn : (k : Int) < (m : Int) := by omega
    clear hget hmem his hbl
    go_wp2_with (at_builtin; (refine wpList_append_strs rfl (.tmp 12) (.tmp 18) rfl w.heap.size u3 ((L.take k).map Ex.name) rfl HO2.out (some ⟨wr.heap.size, 0, none⟩) [e1.name] 1 rfl HONE.out (by have := HLE.out; simp; omega) HB2.out.size ?_); intro v7 w7 ho7 hg7; have HO7 := zH ho7; have HB7 := zH (OwnsL.grown HB2.out HO2.out hg7); clear ho7 hg7)
    rw [← HT.out] at HO7
    go_roundw
    case rel => exact ⟨k + 1, by omega, by go_num, HO7, HB7⟩
    case measure => simp [intOf]; omega
  have hall : L.take k = L := List.take_of_length_le (by rw [← HM.out]; omega)
  rw [hall] at HO
  go_wp2
  go_ret
  exact ⟨_, rfl, HO.out, HB.out⟩
end Go.Proofs.YthljhiklpopmgaaGreatDoor
namespace Go.Proofs.YthljhiklpopmgaaGreatDoor
open Go Go.ChangeShapes Go.WideShapes Go.ChangeAt Go.RowKit Go.Deep Go.Joins
theorem add_litO (g o k : Nat) : (⟨g, o, none⟩ : Addr).add k = ⟨g, o + k, none⟩ := by
 unfold Addr.add
 split <;> simp_all
theorem spot_none {w : World} {a : Addr} {v : Value} (h : w.cell? a = some v) : a = ⟨a.block, a.off, none⟩ ∧ a.block < w.heap.size := by
 have hb : a.block < w.heap.size := by
  rcases Nat.lt_or_ge a.block w.heap.size with h' | h'
  · exact h'
  simp [World.cell?, Array.getElem?_eq_none h'] at h
 refine ⟨?_, hb⟩
 obtain ⟨b, o, s⟩ := a
 cases s with
 | none => rfl
 | some s =>
  simp only [World.cell?] at h
  split at h <;> simp at h
open Go Go.RowKit
theorem add_litJ (g o k : Nat) : (⟨g, o, none⟩ : Addr).add k = ⟨g, o + k, none⟩ := add_litO g o k
theorem own_join : OwnJoin := by
 intro A xs c s w hs hc ht hsep
 have hlen := joined_le xs s xs.length (Nat.le_refl _) ht hsep
 rw [List.take_length] at hlen
 by_cases h0 : xs = []
 · subst h0
   have HP := zH (show JoinPost [] s w (.returned (.string ⟨#[]⟩)) w from ⟨rfl, Below.refl _ _⟩)
   have HA := zH (Tryz.strings_Join_none A c s w)
   clear hs hc ht hsep hlen
   show Calls Tryz.prog 114 #[.slice A 0 c, .string s] w _
   go_enter Tryz.func114, Tryz.ntmps114
   go_wp2_with (go_at_call 137; refine HA.out.mono ?_; rintro e w' ⟨rfl, hb⟩; rw [hb])
   go_ret
   exact HP.out
 have hl : 0 < xs.length := List.length_pos_iff.2 h0
 obtain ⟨a, rfl, hcell, -⟩ := hs.at_ 0 hl
 obtain ⟨g, o, hgo, hlt⟩ : ∃ g o, a = ⟨g, o, none⟩ ∧ g < w.heap.size := by
  have hz : a.add 0 = a := by
   obtain ⟨b, o, q⟩ := a
   unfold Addr.add
   split <;> simp_all
  rw [hz] at hcell
  have h := spot_none hcell
  exact ⟨_, _, h.1, h.2⟩
 subst hgo
 have HA := zH (Tryz.strings_Join g o c xs s w (fun j x hx => by
  obtain ⟨a, e, hcell, -⟩ := hs j x hx
  obtain rfl := Option.some.inj e
  rw [add_litJ] at hcell
  exact hcell) hlt (by omega) hc (by unfold listsS at hlen; omega))
 clear hs hlt hc ht hsep hlen hcell hl h0
 go_enter Tryz.func114, Tryz.ntmps114
 go_wp2_with (go_at_call 137; refine HA.out.mono ?_; rintro e w' ⟨rfl, hb⟩)
 go_ret
 exact ⟨rfl, hb⟩
theorem own_format_any : ∀ (e : Ex) (v : Value) (bs : List Nat) (W : World), ExIs W v e bs → exTot e ≤ 1048576 → Calls Tryz.prog 76 #[v] W (RetPost (.string (exFmt e)) W) :=
 fun e v bs W hv hb => own_format own_join e v bs W hv (by have := (tot_size (exSize e)).1 e (Nat.le_refl _); omega)
end Go.Proofs.YthljhiklpopmgaaGreatDoor
namespace Go.Proofs.YthljhiklpopmgaaGreatDoor
open Go Go.RowKit Go.Sort
theorem own_pat (r : Ru) (A : Option Addr) (c : Nat) (w : World) (hs : Strs w A r.vars) (hc : r.vars.length ≤ c) (hz : ruTot r ≤ 1048576) :
 Calls Tryz.prog 83 #[.string r.con, .slice A r.vars.length c] w (RetPost (.string (patStr r)) w) := by
 have ht : totS r.vars + r.vars.length ≤ 2097152 := by unfold ruTot ssTot at hz; rw [totS_totN]; omega
 have HP := zH (own_inpar own_join A r.vars c w hs hc ht)
 have hps := parS_size r.vars
 have HE := zH (show patStr r = if r.vars.length = 0 then r.con else r.con ++ parS r.vars from rfl)
 obtain ⟨p, hp⟩ : ∃ x : ByteArray, x = r.con ++ parS r.vars := ⟨_, rfl⟩
 have hA1 : ∀ W, (Op.stringOp .add r.con (parS r.vars)).run Tryz.prog W = .ok (.string p) W := fun W => by
  rw [hp]; exact run_string_add_sum W r.con (parS r.vars) (by unfold ruTot at hz; omega)
 rw [← hp] at HE
 generalize parS r.vars = P at *
 generalize r.vars.length = m at *
 clear hs hc hz ht hps hp
 by_cases h0 : m = 0
 · subst h0
   go_enter Tryz.func83, Tryz.ntmps83
   go_wp2_with fail
   go_ret
   exact ⟨by rw [HE.out]; rfl, Below.refl _ _⟩
 have hz : ((m : Int) == 0) = false := by simpa using h0
 rw [if_neg h0] at HE
 clear h0
 go_enter Tryz.func83, Tryz.ntmps83
 go_wp2_with (go_at_call 84; refine HP.out.mono ?_; rintro e w1 ⟨rfl, hb1⟩; have HB1 := zH hb1; clear hb1)
 go_ret
 exact ⟨by rw [HE.out]; rfl, HB1.out⟩
theorem rt_end {W0 W : World} {v : Value} {xs : List ByteArray} (ho : OwnsL W0.heap.size W v xs) : ∃ A c, v = .slice A xs.length c ∧ xs.length ≤ c ∧ Strs W A xs := by
 obtain ⟨A8, c8, rfl, hst⟩ := ho.shape
 refine ⟨A8, c8, rfl, ?_, hst⟩
 rcases ho.2 with ⟨h0, -⟩ | ⟨g, cap, cur, h0, -, -, hn, -⟩
 · simp only [Value.slice.injEq] at h0; omega
 simp only [Value.slice.injEq] at h0; omega
set_option maxRecDepth 100000 in
theorem own_rutext (r : Ru) (v : Value) (b : List Nat) (w : World) (hv : RuIs w v r b) (hz : ruTot r ≤ 1048576) :
 Calls Tryz.prog 50 #[v] w (RetPost (.string (ruStr r)) w) := by
 obtain ⟨v1, v2, u, b1, b2, b3, rfl, h1, h2, rfl, h3, h4, h5⟩ := hv
 obtain ⟨A1, c1, rfl⟩ := h3.slice
 obtain ⟨A2, c2, rfl⟩ := h4.slice
 obtain ⟨A3, q3, c3, rfl⟩ := his_slice0 h5
 obtain ⟨-, hc1, hc2, hs1, -⟩ := h3.strs
 obtain ⟨-, hc3, hc4, hs2, -⟩ := h4.strs
 have hl : r.vars.length ≤ 1048576 ∧ r.params.length ≤ 1048576 := by unfold ruTot ssTot at hz; omega
 have HL := zH hl
 have HZ := zH hz
 have HH := zH h5
 have HC1 := zH hc1
 have HK := zH (fun (W : World) => flat_kind r.name r.con r.body.name A1 A2 A3 r.vars.length c1 r.params.length c2 q3 c3 r.body.kind W)
 have HR := zH (show ruStr r = ((r.name ++ parS (argTexts r)) ++ eqStr) ++ exFmt r.body from rfl)
 obtain ⟨W0, hW0⟩ : ∃ W0, W0 = w.alloc (.cells #[.string r.name, .string r.con, .slice A1 r.vars.length c1, .slice A2 r.params.length c2, .int .i64 r.body.kind, .string r.body.name, .slice A3 q3 c3] 36) := ⟨_, rfl⟩
 have hlow : Below w.heap.size w W0 := by rw [hW0]; exact (Below.refl _ w).alloc (Nat.le_refl _) _
 have hbx : Box7 W0 w.heap.size 36 (.string r.name) (.string r.con) (.slice A1 r.vars.length c1) (.slice A2 r.params.length c2) (.int .i64 r.body.kind) (.string r.body.name) (.slice A3 q3 c3) := by rw [hW0]; exact heap_alloc_new w _
 have HLW := zH hlow
 have HBX := zH (fun (W : World) (hb : Below W0.heap.size W0 W) => (show Box7 W w.heap.size 36 (.string r.name) (.string r.con) (.slice A1 r.vars.length c1) (.slice A2 r.params.length c2) (.int .i64 r.body.kind) (.string r.body.name) (.slice A3 q3 c3) from (hb.block _ hbx.lt).trans hbx).cells)
 have HS1 := zH (fun (W : World) (hb : Below W0.heap.size W0 W) => (hs1.below hlow).below hb)
 have HS2 := zH (fun (W : World) (hb : Below W0.heap.size W0 W) => (hs2.below hlow).below hb)
 have HW0 := zH hW0
 clear hl hz h3 h4 h5 hs1 hs2 hW0 hlow hbx hc1 hc3
 have HFIN : Hid (∀ (W : World) (A8 : Option Addr) (c8 : Nat), Below W0.heap.size W0 W → (argTexts r).length ≤ c8 → Strs W A8 (argTexts r) → ∀ (d : Nat) (os : Array Obj), Calls Tryz.prog 84 #[.slice A8 (argTexts r).length c8] (grow (redrawn W d) os) fun e w' => e = .returned (.string (parS (argTexts r))) ∧ ∃ p : Regrown, w' = grow (redrawn W p.d) p.os) :=
  zH (fun W A8 c8 hb hc hst d os => Calls.regrown_of ((own_inpar own_join A8 (argTexts r) c8 (grow (redrawn W d) os) (hst.below (below_regrown W d os)) hc (argTexts_le HZ.out)).mono (fun _ _ h => h)))
 have HEXP : Hid (∀ (W : World), Below W0.heap.size W0 W → ∀ (d : Nat) (os : Array Obj), Calls Tryz.prog 76 #[.agg #[.int .i64 r.body.kind, .string r.body.name, .slice A3 q3 c3]] (grow (redrawn W d) os) fun e w' => e = .returned (.string (exFmt r.body)) ∧ ∃ p : Regrown, w' = grow (redrawn W p.d) p.os) :=
  zH (fun W hb d os => Calls.regrown_of ((own_format_any r.body _ b3 (grow (redrawn W d) os) (((HH.out.below HLW.out).below hb).below (below_regrown W d os)) (by have := HZ.out; unfold ruTot at this; omega)).mono (fun _ _ h => h)))
 have hps := parS_size (argTexts r)
 have hat := argTexts_le HZ.out
 have hns : r.name.size ≤ 1048576 := by have := HZ.out; unfold ruTot at this; omega
 have hes := exFmt_size r.body
 obtain ⟨p1, hp1⟩ : ∃ x : ByteArray, x = r.name ++ parS (argTexts r) := ⟨_, rfl⟩
 obtain ⟨p2, hp2⟩ : ∃ x : ByteArray, x = p1 ++ eqStr := ⟨_, rfl⟩
 obtain ⟨p3, hp3⟩ : ∃ x : ByteArray, x = p2 ++ exFmt r.body := ⟨_, rfl⟩
 have hq1 : p1.size = r.name.size + (parS (argTexts r)).size := by rw [hp1]; exact ByteArray.size_append
 have hq2 : p2.size = p1.size + 3 := by rw [hp2]; exact ByteArray.size_append
 have hA1 : ∀ W, (Op.stringOp .add r.name (parS (argTexts r))).run Tryz.prog W = .ok (.string p1) W := fun W => by
  rw [hp1]; exact run_string_add_sum W r.name (parS (argTexts r)) (by omega)
 have hA2 : ∀ W, (Op.stringOp .add p1 ⟨#[32, 61, 32]⟩).run Tryz.prog W = .ok (.string p2) W := fun W => by
  rw [hp2]; exact run_string_add_sum W p1 ⟨#[32, 61, 32]⟩ (by show _ + 3 ≤ _; omega)
 have hA3 : ∀ W, (Op.stringOp .add p2 (exFmt r.body)).run Tryz.prog W = .ok (.string p3) W := fun W => by
  rw [hp3]; exact run_string_add_sum W p2 (exFmt r.body) (by omega)
 have HRE := zH (show ruStr r = p3 by rw [HR.out, hp3, hp2, hp1])
 clear hps hns hes hq1 hq2 hp1 hp2 hp3 HR
 have HAT := zH hat
 clear hat
 by_cases hcon : r.con.size = 0
 · have HXS := zH (show argTexts r = [] ++ r.params by unfold argTexts; rw [if_pos hcon])
   have HKI := zH (show kindS r.con = 1 by unfold kindS; rw [if_pos hcon])
   have HO0 := zH (fun (W : World) => (World.ownsRow_nil W W0.heap.size 9 1 : OwnsL W0.heap.size W (.slice none 0 0) []))
   clear hcon
   go_enter Tryz.func50, Tryz.ntmps50
   go_wp2_with fail
   rw [← HW0.out]
   go_at_call 82
   refine (HK.out W0).mono ?_
   rintro e w1 ⟨rfl, hb1⟩
   rw [HKI.out]
   have HB1 := zH hb1
   clear hb1
   obtain ⟨x0, x1, x2, x3, x4, x5, x6⟩ := HBX.out w1 HB1.out
   go_wp2_with (at_builtin; (refine wpList_append_strs rfl (.tmp 15) (.tmp 17) rfl W0.heap.size (.slice none 0 0) [] rfl (HO0.out w1) A2 r.params c2 rfl (HS2.out w1 HB1.out) (by have := HL.out; simp; omega) HB1.out.size ?_); intro v8 w8 ho8 hg8; have HO8 := zH ho8; have HB8 := zH (HB1.out.grown hg8 HB1.out.size (fun k hk => by cases hk)); clear ho8 hg8)
   rw [← HXS.out] at HO8
   obtain ⟨A8, c8, rfl, hc8, hst⟩ := rt_end HO8.out
   have hP := HFIN.out w8 A8 c8 HB8.out hc8 hst
   have hE := HEXP.out w8 HB8.out
   obtain ⟨y0, y1, y2, y3, y4, y5, y6⟩ := HBX.out w8 HB8.out
   have s0 := fun d os => cell_regrown y0 d os
   have s4 := fun d os => cell_regrown y4 d os
   have s5 := fun d os => cell_regrown y5 d os
   have s6 := fun d os => cell_regrown y6 d os
   generalize (argTexts r).length = my at *
   clear hst hc8
   refine wp_region_quiet_below (by kernel_rfl) (by kernel_rfl) ?_
   repeat (quiet_step (first | exact hP _ _ | exact hE _ _))
   refine wpQuiet_nil ?_
   intro _ hw'
   obtain ⟨⟨dq, osq⟩, hw''⟩ := hw'
   subst hw''
   have hlo := HLW.out.trans ((HB8.out.trans ((below_regrown w8 dq osq).mono HB8.out.size)).mono HLW.out.size)
   go_wp2
   go_ret
   exact ⟨by rw [HRE.out]; rfl, hlo⟩
 have HXS := zH (show argTexts r = ([] ++ [patStr r]) ++ r.params by unfold argTexts; rw [if_neg hcon]; rfl)
 have HKI := zH (show kindS r.con = 2 by unfold kindS; rw [if_neg hcon])
 have HO0 := zH (fun (W : World) => (World.ownsRow_nil W W0.heap.size 9 1 : OwnsL W0.heap.size W (.slice none 0 0) []))
 have HPAT := zH (fun (W : World) (hb : Below W0.heap.size W0 W) => own_pat r A1 c1 W (HS1.out W hb) HC1.out HZ.out)
 clear hcon
 go_enter Tryz.func50, Tryz.ntmps50
 go_wp2_with fail
 rw [← HW0.out]
 go_at_call 82
 refine (HK.out W0).mono ?_
 rintro e w1 ⟨rfl, hb1⟩
 rw [HKI.out]
 have HB1 := zH hb1
 clear hb1
 obtain ⟨x0, x1, x2, x3, x4, x5, x6⟩ := HBX.out w1 HB1.out
 go_wp2_with (first
  | (go_at_call 83; refine (HPAT.out w1 HB1.out).mono ?_; rintro e w2 ⟨rfl, hb2⟩; have HB2 := zH (HB1.out.trans (hb2.mono HB1.out.size)); have HB2a := zH (HB2.out.alloc HB2.out.size (.cells #[.string (patStr r)] 9)); have HONE := zH (strs_one w2 (patStr r)); clear hb2)
  | (at_builtin; (refine wpList_append_strs rfl (.tmp 7) (.tmp 13) rfl W0.heap.size (.slice none 0 0) [] rfl (HO0.out _) (some ⟨w2.heap.size, 0, none⟩) [patStr r] 1 rfl HONE.out (by simp) HB2a.out.size ?_); intro v7 w7 ho7 hg7; have HO7 := zH ho7; have HB7 := zH (HB2a.out.grown hg7 HB2a.out.size (fun k hk => by cases hk)); clear ho7 hg7; obtain ⟨z0, z1, z2, z3, z4, z5, z6⟩ := HBX.out w7 HB7.out)
  | (at_builtin; (refine wpList_append_strs rfl (.tmp 15) (.tmp 17) rfl W0.heap.size v7 ([] ++ [patStr r]) rfl HO7.out A2 r.params c2 rfl (HS2.out w7 HB7.out) (by have := HL.out; simp; omega) HB7.out.size ?_); intro v8 w8 ho8 hg8; have HO8 := zH ho8; have HB8 := zH (OwnsL.grown HB7.out HO7.out hg8); clear ho8 hg8))
 rw [← HXS.out] at HO8
 obtain ⟨A8, c8, rfl, hc8, hst⟩ := rt_end HO8.out
 have hP := HFIN.out w8 A8 c8 HB8.out hc8 hst
 have hE := HEXP.out w8 HB8.out
 obtain ⟨y0, y1, y2, y3, y4, y5, y6⟩ := HBX.out w8 HB8.out
 have s0 := fun d os => cell_regrown y0 d os
 have s4 := fun d os => cell_regrown y4 d os
 have s5 := fun d os => cell_regrown y5 d os
 have s6 := fun d os => cell_regrown y6 d os
 generalize (argTexts r).length = my at *
 clear hst hc8
 refine wp_region_quiet_below (by kernel_rfl) (by kernel_rfl) ?_
 repeat (quiet_step (first | exact hP _ _ | exact hE _ _))
 refine wpQuiet_nil ?_
 intro _ hw'
 obtain ⟨⟨dq, osq⟩, hw''⟩ := hw'
 subst hw''
 have hlo := HLW.out.trans ((HB8.out.trans ((below_regrown w8 dq osq).mono HB8.out.size)).mono HLW.out.size)
 go_wp2
 go_ret
 exact ⟨by rw [HRE.out]; rfl, hlo⟩
end Go.Proofs.YthljhiklpopmgaaGreatDoor
