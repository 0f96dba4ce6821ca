/- A part of the proof of the seat's statement: Marks. Condition: as each says. -/
import Derived.Test.YthljhiklpopmgaaGreatDoorRows
import Derived.WalkKit
import Derived.LaidEql
import Derived.Stop.Asserts
import Derived.RowKitTokens
import Derived.Test.YthljhiklpopmgaaGreatDoorSpecRead
import Derived.Test.YthljhiklpopmgaaGreatDoorOwnProg
import Derived.WalkSpells
import Derived.WalkLawsBesides
import Derived.Lib.Hide
import Derived.Lib.ItoaLen
import Derived.Test.YthljhiklpopmgaaGreatDoorSpecNames
import Derived.Deep.RegionHeld3
set_option maxHeartbeats 8000000
namespace Go.Proofs.YthljhiklpopmgaaGreatDoor
open Go Go.RowKit Go.Extern.Stop Go.Stop Go.Extern
theorem as_nil (t : Value) (w : World) :
 Calls Tryz.prog 13 #[.nilIface, t] w fun e w' => e = .returned (.bool false) ∧ w' = w := by
 go_enter Tryz.func13, Tryz.ntmps13
 go_wp2
 go_ret
 exact ⟨rfl, rfl⟩
theorem Tryz.valueOfP (t : Addr) (w : World) : (ReflectliteValue.unpack (.iface 47 (.pointer (some t)))).run Tryz.prog w
 = .ok (.agg #[.pointer (some ⟨2, 47, none⟩), .pointer (some ⟨w.heap.size, 0, none⟩), .int .u64 150]) (w.alloc (.cells #[.pointer (some t)] 47)) := by kernel_rfl
theorem Tryz.typeP (a : Addr) (w : World) : (ReflectliteValue.methodAny (ReflectliteValue.valueError "reflectlite.Value.Type" 0) (fun t _ _ _ => ReflectliteType.toType t) #[.agg #[.pointer (some ⟨2, 47, none⟩), .pointer (some a), .int .u64 150]]).run Tryz.prog w
 = .ok (.iface 90 (.agg #[.pointer (some ⟨2, 47, none⟩)])) w := by kernel_rfl
theorem Tryz.kindP (w : World) : ((ReflectliteType.abiMethod fun t => (fun a : Nat => Value.int IntKind.u8 (a : Int)) <$> Rtype.kind t) #[.pointer (some ⟨2, 47, none⟩)]).run Tryz.prog w = .ok (.int .u8 22) w := by kernel_rfl
theorem Tryz.kindE (w : World) : ((ReflectliteType.abiMethod fun t => (fun a : Nat => Value.int IntKind.u8 (a : Int)) <$> Rtype.kind t) #[.pointer (some ⟨2, 45, none⟩)]).run Tryz.prog w = .ok (.int .u8 25) w := by kernel_rfl
theorem Tryz.methodKind (h : Value) (w : World) : (Go.method 343 90 (.agg #[h]) "Kind").run Tryz.prog w = .ok (175, h) w := by kernel_rfl
theorem Tryz.methodElem (h : Value) (w : World) : (Go.method 343 90 (.agg #[h]) "Elem").run Tryz.prog w = .ok (185, .agg #[h]) w := by kernel_rfl
theorem Tryz.methodImplements (h : Value) (w : World) : (Go.method 343 90 (.agg #[h]) "Implements").run Tryz.prog w = .ok (186, .agg #[h]) w := by kernel_rfl
theorem Tryz.methodAssignableTo (h : Value) (w : World) : (Go.method 343 90 (.agg #[h]) "AssignableTo").run Tryz.prog w = .ok (183, .agg #[h]) w := by kernel_rfl
theorem rlm (z : Sem Value) (f : TypeId → Addr → Nat → Nat → Sem Value) (v : Value) :
 ReflectliteValue.method z f #[v] = (do match ← ReflectliteValue.parts v with | none => z | some (t, a, fl) => f t a fl (fl % 32)) := rfl
theorem Tryz.partsP (a : Addr) (w : World) : (ReflectliteValue.parts (.agg #[.pointer (some ⟨2, 47, none⟩), .pointer (some a), .int .u64 150])).run Tryz.prog w = .ok (some (47, a, 150)) w := by kernel_rfl
theorem Tryz.isNilP (a p : Addr) (W : World) (ha : W.cell? a = some (.pointer (some p))) :
 (ReflectliteValue.method (ReflectliteValue.valueError "reflectlite.Value.IsNil" 0) ReflectliteValue.isNil #[.agg #[.pointer (some ⟨2, 47, none⟩), .pointer (some a), .int .u64 150]]).run Tryz.prog W = .ok (.bool false) W := by
 rw [rlm]
 simp only [Sem.run_bind, Tryz.partsP, Result.andThen]
 simp [ReflectliteValue.isNil, loadVar, isAgg, underlying, Tryz.underlying47, ha, Result.andThen]
theorem Tryz.elemP (w : World) : (ReflectliteType.method ReflectliteType.elem #[.agg #[.pointer (some ⟨2, 47, none⟩)]]).run Tryz.prog w = .ok (.iface 90 (.agg #[.pointer (some ⟨2, 45, none⟩)])) w := by kernel_rfl
theorem Tryz.implementsE (w : World) : (ReflectliteType.relation "Implements" ReflectliteType.implements_ #[.agg #[.pointer (some ⟨2, 45, none⟩)], .iface 90 (.agg #[.pointer (some ⟨2, 41, none⟩)])]).run Tryz.prog w = .ok (.bool true) w := by kernel_rfl
theorem Tryz.typeOfE (v : Value) (w : World) : (ReflectliteType.typeOf #[.iface 45 v]).run Tryz.prog w = .ok (.iface 90 (.agg #[.pointer (some ⟨2, 45, none⟩)])) w := by kernel_rfl
theorem Tryz.assignableE (w : World) : (ReflectliteType.relation "AssignableTo" ReflectliteType.assignableTo #[.agg #[.pointer (some ⟨2, 45, none⟩)], .iface 90 (.agg #[.pointer (some ⟨2, 45, none⟩)])]).run Tryz.prog w = .ok (.bool true) w := by kernel_rfl
theorem Tryz.valueOfE (k : Int) (w : World) : (ReflectliteValue.unpack (.iface 45 (.agg #[.int .i64 k]))).run Tryz.prog w
 = .ok (.agg #[.pointer (some ⟨2, 45, none⟩), .pointer (some ⟨w.heap.size, 0, none⟩), .int .u64 153]) (w.alloc (.cells #[.int .i64 k] 45)) := by kernel_rfl
theorem Tryz.elemOfP (w : World) : (Rtype.elem? 47).run Tryz.prog w = .ok (some 45) w := by kernel_rfl
theorem Tryz.mkE (p : Addr) (w : World) : (ReflectliteValue.mk 45 p ReflectliteValue.flagAddr).run Tryz.prog w = .ok (.agg #[.pointer (some ⟨2, 45, none⟩), .pointer (some p), .int .u64 409]) w := by kernel_rfl
theorem Tryz.elemVP (a p : Addr) (W : World) (ha : W.cell? a = some (.pointer (some p))) :
 (ReflectliteValue.method (ReflectliteValue.valueError "reflectlite.Value.Elem" 0) ReflectliteValue.elem #[.agg #[.pointer (some ⟨2, 47, none⟩), .pointer (some a), .int .u64 150]]).run Tryz.prog W
  = .ok (.agg #[.pointer (some ⟨2, 45, none⟩), .pointer (some p), .int .u64 409]) W := by
 rw [rlm]
 simp only [Sem.run_bind, Tryz.partsP, Result.andThen]
 simp [ReflectliteValue.elem, loadVar, isAgg, underlying, Tryz.underlying47, ha, Result.andThen, Tryz.elemOfP, Tryz.mkE]
theorem rls (v x : Value) : ReflectliteValue.set #[v, x] = (do
 let (some (dst, a, fl), some (src, b, _)) := (← ReflectliteValue.parts v, ← ReflectliteValue.parts x)
  | unsupported (.noEntry "extern/(internal/reflectlite.Value).Set.zeroValue")
 if fl / ReflectliteValue.flagAddr % 2 == 0 then unsupported (.noEntry "extern/(internal/reflectlite.Value).Set.unaddressable")
 let val ← loadVar src b
 if ← Rtype.directlyAssignable dst src then storeVar dst a val
 else if ← Rtype.implements dst src then
  if (← Rtype.kind src) == 20 then
   match val with
   | .nilIface => unsupported (.noEntry "extern/reflectlite: a nil value of one interface type handed on as a value of another")
   | _ => storeVar dst a val
  else storeVar dst a (.iface src val)
 else panicString ("reflectlite.Set: value of type " ++ (← Rtype.spelt src) ++ " is not assignable to type " ++ (← Rtype.spelt dst))
 pure (.tuple #[])) := rfl
theorem Tryz.partsEa (a : Addr) (w : World) : (ReflectliteValue.parts (.agg #[.pointer (some ⟨2, 45, none⟩), .pointer (some a), .int .u64 409])).run Tryz.prog w = .ok (some (45, a, 409)) w := by kernel_rfl
theorem Tryz.partsE (a : Addr) (w : World) : (ReflectliteValue.parts (.agg #[.pointer (some ⟨2, 45, none⟩), .pointer (some a), .int .u64 153])).run Tryz.prog w = .ok (some (45, a, 153)) w := by kernel_rfl
theorem Tryz.directE (w : World) : (Rtype.directlyAssignable 45 45).run Tryz.prog w = .ok true w := by kernel_rfl
theorem load_one {P : Program} (b : Nat) (v : Value) (W : World) (hb : W.cell? ⟨b, 0, none⟩ = some v) : (loadCells ⟨b, 0, none⟩ 1).run P W = .ok #[v] W := by
 have h := run_loadCells_list (P := P) W ⟨b, 0, none⟩ [v] (fun k u hk => by
  rcases k with _ | k
  · simp at hk; subst hk; exact hb
  simp at hk)
 exact h
theorem Tryz.setE (tb b : Nat) (k : Int) (old : Value) (W : World) (hb : W.cell? ⟨b, 0, none⟩ = some (.int .i64 k)) (ht : W.cell? ⟨tb, 0, none⟩ = some old) (hf : W.frozen? ⟨tb, 0, none⟩ = false) :
 (ReflectliteValue.set #[.agg #[.pointer (some ⟨2, 45, none⟩), .pointer (some ⟨tb, 0, none⟩), .int .u64 409], .agg #[.pointer (some ⟨2, 45, none⟩), .pointer (some ⟨b, 0, none⟩), .int .u64 153]]).run Tryz.prog W
  = .ok (.tuple #[]) (W.setCell ⟨tb, 0, none⟩ (.int .i64 k)) := by
 have hl := load_one (P := Tryz.prog) b _ W hb
 have hst : (storeCells ⟨tb, 0, none⟩ [Value.int .i64 k]).run Tryz.prog W = .ok () (W.setCell ⟨tb, 0, none⟩ (.int .i64 k)) := by
  simp only [storeCells, Addr.add, Sem.run_bind, if_true]
  rw [run_store Tryz.prog W ⟨tb, 0, none⟩ _ _ (by rfl)]
  simp [ht, hf, Result.andThen]
 rw [rls]
 simp only [Sem.run_bind, Tryz.partsEa, Tryz.partsE, Result.andThen]
 simp [ReflectliteValue.flagAddr, loadVar, isAgg, underlying, Tryz.underlying45, Result.andThen, Tryz.directE, storeVar, Value.cells, hl, hst]
set_option maxRecDepth 100000 in
theorem as_hit (k : Int) (tb : Nat) (old : Value) (w : World) (hg : w.cell? ⟨0, 0, none⟩ = some (.iface 90 (.agg #[.pointer (some ⟨2, 41, none⟩)]))) (ht0 : w.cell? ⟨tb, 0, none⟩ = some old) (hf0 : w.frozen? ⟨tb, 0, none⟩ = false) :
 Calls Tryz.prog 13 #[.iface 45 (.agg #[.int .i64 k]), .iface 47 (.pointer (some ⟨tb, 0, none⟩))] w fun ev w' => ev = .returned (.bool true) ∧ Fr [tb] w w' ∧ w'.cell? ⟨tb, 0, none⟩ = some (.int .i64 k) := by
 have h6 := @run_callFunc_extern Tryz.prog 26 _ (fun args => ReflectliteValue.unpack (args.getD 0 (.tuple #[]))) Tryz.func26 (by kernel_rfl) (by kernel_rfl) (by kernel_rfl) (by kernel_rfl)
 have h7 := @run_callFunc_extern Tryz.prog 27 _ (ReflectliteValue.methodAny (ReflectliteValue.valueError "reflectlite.Value.Type" 0) (fun t _ _ _ => ReflectliteType.toType t)) Tryz.func27 (by kernel_rfl) (by kernel_rfl) (by kernel_rfl) (by kernel_rfl)
 have h8 := @run_callFunc_extern Tryz.prog 28 _ (ReflectliteValue.method (ReflectliteValue.valueError "reflectlite.Value.IsNil" 0) ReflectliteValue.isNil) Tryz.func28 (by kernel_rfl) (by kernel_rfl) (by kernel_rfl) (by kernel_rfl)
 have h27 := @run_callFunc_extern Tryz.prog 175 _ (ReflectliteType.abiMethod fun t => do pure (.int .u8 (← Rtype.kind t))) Tryz.func175 (by kernel_rfl) (by kernel_rfl) (by kernel_rfl) (by kernel_rfl)
 have h37 := @run_callFunc_extern Tryz.prog 185 _ (ReflectliteType.method ReflectliteType.elem) Tryz.func185 (by kernel_rfl) (by kernel_rfl) (by kernel_rfl) (by kernel_rfl)
 have h38 := @run_callFunc_extern Tryz.prog 186 _ (ReflectliteType.relation "Implements" ReflectliteType.implements_) Tryz.func186 (by kernel_rfl) (by kernel_rfl) (by kernel_rfl) (by kernel_rfl)
 have h10 := @run_callFunc_extern Tryz.prog 53 _ ReflectliteType.typeOf Tryz.func53 (by kernel_rfl) (by kernel_rfl) (by kernel_rfl) (by kernel_rfl)
 have h35 := @run_callFunc_extern Tryz.prog 183 _ (ReflectliteType.relation "AssignableTo" ReflectliteType.assignableTo) Tryz.func183 (by kernel_rfl) (by kernel_rfl) (by kernel_rfl) (by kernel_rfl)
 have h11 := @run_callFunc_extern Tryz.prog 54 _ (ReflectliteValue.method (ReflectliteValue.valueError "reflectlite.Value.Elem" 0) ReflectliteValue.elem) Tryz.func54 (by kernel_rfl) (by kernel_rfl) (by kernel_rfl) (by kernel_rfl)
 have h12 := @run_callFunc_extern Tryz.prog 55 _ ReflectliteValue.set Tryz.func55 (by kernel_rfl) (by kernel_rfl) (by kernel_rfl) (by kernel_rfl)
 have tO := Tryz.typeOfE
 have a25 := Tryz.assignableE
 have v25 := Tryz.valueOfE k
 have f6 := Tryz.valueOfP
 have f7 := Tryz.typeP
 have k27 := Tryz.kindP
 have k25 := Tryz.kindE
 have e27 := Tryz.elemP
 have i25 := Tryz.implementsE
 have mK := Tryz.methodKind
 have mE := Tryz.methodElem
 have mI := Tryz.methodImplements
 have mA := Tryz.methodAssignableTo
 obtain ⟨W1, hW1⟩ : ∃ W1, W1 = (w.alloc (.cells #[.pointer (some ⟨tb, 0, none⟩)] 47)).alloc (.cells #[.pointer (some ⟨2, 47, none⟩), .pointer (some ⟨w.heap.size, 0, none⟩), .int .u64 150] 63) := ⟨_, rfl⟩
 have n8 := Tryz.isNilP ⟨w.heap.size, 0, none⟩ ⟨tb, 0, none⟩ ((w.alloc (.cells #[.pointer (some ⟨tb, 0, none⟩)] 47)).alloc (.cells #[.pointer (some ⟨2, 47, none⟩), .pointer (some ⟨w.heap.size, 0, none⟩), .int .u64 150] 63)) (by simp)
 have hlt : 0 < w.heap.size := World.block_lt_of_cell? w _ hg
 have hg2 : ((w.alloc (.cells #[.pointer (some ⟨tb, 0, none⟩)] 47)).alloc (.cells #[.pointer (some ⟨2, 47, none⟩), .pointer (some ⟨w.heap.size, 0, none⟩), .int .u64 150] 63)).cell? ⟨0, 0, none⟩ = some (.iface 90 (.agg #[.pointer (some ⟨2, 41, none⟩)])) := by
  rw [World.cell?_alloc_lt _ _ ⟨0, 0, none⟩ (by simp), World.cell?_alloc_lt _ _ ⟨0, 0, none⟩ hlt]; exact hg
 have htl : tb < w.heap.size := World.block_lt_of_cell? w _ ht0
 have el := Tryz.elemVP ⟨w.heap.size, 0, none⟩ ⟨tb, 0, none⟩ (((w.alloc (.cells #[.pointer (some ⟨tb, 0, none⟩)] 47)).alloc (.cells #[.pointer (some ⟨2, 47, none⟩), .pointer (some ⟨w.heap.size, 0, none⟩), .int .u64 150] 63)).alloc (.cells #[.pointer (some ⟨2, 47, none⟩), .pointer (some ⟨w.heap.size, 0, none⟩), .int .u64 150] 63)) (by rw [World.cell?_alloc_lt _ _ ⟨w.heap.size, 0, none⟩ (by simp; omega)]; simp)
 obtain ⟨W4, hW4⟩ : ∃ W4, W4 = (((w.alloc (.cells #[.pointer (some ⟨tb, 0, none⟩)] 47)).alloc (.cells #[.pointer (some ⟨2, 47, none⟩), .pointer (some ⟨w.heap.size, 0, none⟩), .int .u64 150] 63)).alloc (.cells #[.pointer (some ⟨2, 47, none⟩), .pointer (some ⟨w.heap.size, 0, none⟩), .int .u64 150] 63)).alloc (.cells #[.int .i64 k] 45) := ⟨_, rfl⟩
 have hb4 : Below w.heap.size w W4 := by rw [hW4]; exact ((((Below.refl _ w).alloc (Nat.le_refl _) _).alloc (by simp) _).alloc (by simp; omega) _).alloc (by simp; omega) _
 have ht4 : W4.cell? ⟨tb, 0, none⟩ = some old := (hb4.cell (p := ⟨tb, 0, none⟩) htl).trans ht0
 have hf4 : W4.frozen? ⟨tb, 0, none⟩ = false := (hb4.frozen (p := ⟨tb, 0, none⟩) htl).trans hf0
 have st := Tryz.setE tb (w.heap.size + 1 + 1 + 1) k old W4 (by rw [hW4, World.cell?_alloc_at _ _ _ _ (by simp)]; rfl) ht4 hf4
 have HFIN := zH (show Fr [tb] w (W4.setCell ⟨tb, 0, none⟩ (.int .i64 k)) ∧ (W4.setCell ⟨tb, 0, none⟩ (.int .i64 k)).cell? ⟨tb, 0, none⟩ = some (.int .i64 k) from ⟨(Fr.of_below (S := [tb]) hb4).trans (Fr.set (S := [tb]) W4 ⟨tb, 0, none⟩ _ (by simp)) (fun x hx => Or.inl hx), by simp [World.cell?_setCell_same, ht4]⟩)
 rw [hW4] at st HFIN
 clear hb4 ht4 hf4 hW4 W4 hW1 W1 hg ht0 hf0
 go_enter Tryz.func13, Tryz.ntmps13
 go_wp2
 refine wp_loop_rounds 1 ?_
 rw [rounds_succ]
 go_wp2
 go_ret
 exact ⟨rfl, HFIN.out⟩
open Go Go.RowKit
theorem read_empty {s : ByteArray} {k : Nat} (h : (readPr s).2 = (k : Int)) : (readPr s).1 = [] := by
 unfold readPr at h ⊢
 split at h
 · rfl
 rename_i l e
 by_cases hh : prStr l = s
 · rw [if_pos hh] at h
   exact absurd h (by show ¬ (-1 : Int) = _; omega)
 rw [if_neg hh]
set_option maxRecDepth 100000 in
theorem own_readpr (s : ByteArray) (w : World) (mx : Int) (hmx : w.cell? ⟨1, 0, none⟩ = some (.int .i64 mx)) (hg : w.cell? ⟨0, 0, none⟩ = some (.iface 90 (.agg #[.pointer (some ⟨2, 41, none⟩)]))) (hs : s.size ≤ 1048576) :
 Calls Tryz.prog 5 #[.string s] w (PrPost (readPr s) w) := by
 obtain ⟨W0, hW0⟩ : ∃ W0, W0 = w.alloc (.cells #[.slice none 0 0] 24) := ⟨_, rfl⟩
 have hb0 : Below w.heap.size w W0 := by rw [hW0]; exact (Below.refl _ w).alloc (Nat.le_refl _) _
 have hr0 : Boxed W0 w.heap.size 24 (.slice none 0 0) := by rw [hW0]; exact Boxed.new w _ _
 have hl0 : 0 < w.heap.size := World.block_lt_of_cell? w _ hg
 have hl1 : 1 < w.heap.size := World.block_lt_of_cell? w _ hmx
 have HPT := zH (own_prog s W0 mx ((hb0.cell (p := ⟨1, 0, none⟩) hl1).trans hmx) hs)
 have HB0 := zH hb0
 have HR0 := zH hr0
 have HW0 := zH hW0
 have HG := zH (fun (Y : World) (hY : Below w.heap.size w Y) => (hY.cell (p := ⟨0, 0, none⟩) hl0).trans hg)
 clear hW0 hb0 hr0 hmx hg hs hl0 hl1
 go_enter Tryz.func5, Tryz.ntmps5
 go_wp2_with fail
 go_at_call 12
 rw [← HW0.out]
 refine HPT.out.mono ?_
 rintro e w1 ⟨v1, bs, ev, rfl, hpr, hmi, hb1, hev⟩
 obtain ⟨u1, rfl, hrs⟩ := id hpr
 obtain ⟨A, c, rfl, -⟩ := id hrs
 obtain ⟨q, hq⟩ : ∃ q, q = (readPr s).1.length := ⟨_, rfl⟩
 rw [← hq] at hpr ⊢
 have hr1 := box_on HR0.out (hb1.block _ HR0.out.lt)
 have hwl : w.heap.size < w1.heap.size := hr1.lt
 have hlw : Below w.heap.size w w1 := HB0.out.trans (hb1.mono HB0.out.size)
 have r1c := hr1.cell
 have r1f := hr1.frozen
 have HR1 := zH hr1
 have HPR := zH hpr
 have HMI := zH (hmi.mono (C := w.heap.size + 1) (by have := HR0.out.lt; omega))
 have HLW := zH hlw
 clear hrs hpr hmi hb1 hr1 hlw hq
 rcases hev with ⟨hk, rfl⟩ | ⟨k, hk, rfl⟩
 · have HK := zH hk
   clear hk
   go_wp2_with (go_at_call 13; refine (as_nil _ _).mono ?_; rintro e w2 ⟨rfl, rfl⟩)
   obtain ⟨Wf, hWf⟩ : ∃ W, W = ((w1.setCell ⟨w.heap.size, 0, none⟩ (.slice A q c)).alloc (.cells #[.slice A q c] 24)).alloc (.cells #[.int .i64 0] 45) := ⟨_, rfl⟩
   rw [← hWf]
   have hfr : Fr [w.heap.size] w1 Wf := by rw [hWf]; exact ((Fr.set (S := [w.heap.size]) w1 ⟨w.heap.size, 0, none⟩ _ (by simp)).trans (Fr.alloc _ _) (fun y hy => Or.inl hy)).trans (Fr.alloc _ _) (fun y hy => Or.inl hy)
   have hbx : Boxed Wf w.heap.size 24 (.slice A q c) := by rw [hWf]; exact ((HR1.out.set _).alloc _).alloc _
   have k0 := hbx.cell
   have hkk : Keeps w1 Wf bs := fr_keeps hfr (fun y hy => by have := (HMI.out.range y hy).1; simp; omega)
   refine bodyPost_ret (v := .tuple #[.agg #[.slice A q c], .int .i64 (-1)]) (by simp [results, Tryz.results5, go_sem, k0]) rfl ?_
   exact ⟨_, bs, by rw [HK.out], HPR.out.keeps hkk, (HMI.out.keeps hkk).mono (by omega), HLW.out.trans (hfr.below (by simp) HLW.out.size)⟩
 have HK := zH hk
 have HE := zH (read_empty hk)
 clear hk
 obtain ⟨W2, hW2⟩ : ∃ W2, W2 = (w1.alloc (.cells #[.slice A q c] 24)).alloc (.cells #[.int .i64 0] 45) := ⟨_, rfl⟩
 have hb2 : Below w1.heap.size w1 W2 := by rw [hW2]; exact ((Below.refl _ w1).alloc (Nat.le_refl _) _).alloc (by simp) _
 have hbx : Boxed W2 (w1.heap.size + 1) 45 (.int .i64 0) := by
  rw [hW2]
  have h9 := Boxed.new (w1.alloc (.cells #[.slice A q c] 24)) 45 (.int .i64 0)
  simp only [World.size_alloc] at h9
  exact h9
 have HAS := zH (as_hit k (w1.heap.size + 1) (.int .i64 0) W2 (HG.out W2 (HLW.out.trans (hb2.mono HLW.out.size))) hbx.cell hbx.frozen)
 have hr2 := box_on HR1.out (hb2.block _ HR1.out.lt)
 have HR2 := zH hr2
 have HL2 := zH (HLW.out.trans (hb2.mono HLW.out.size))
 have HW2 := zH hW2
 have HLT := zH (show w1.heap.size + 1 < W2.heap.size from hbx.lt)
 clear hb2 hbx hr2 hW2
 go_wp2_with fail
 go_at_call 13
 rw [← HW2.out]
 refine HAS.out.mono ?_
 rintro e w3 ⟨rfl, hf3, hc3⟩
 have hr3 := box_on HR2.out (hf3.block _ HR2.out.lt (by simp; omega))
 have r3c := hr3.cell
 have r3f := hr3.frozen
 have r3l := hr3.lt
 have HR3 := zH hr3
 have HL3 := zH (HL2.out.trans (hf3.below (by simp; omega) HL2.out.size))
 clear hf3 hr3
 go_wp2_with fail
 go_region
 all_goals
  go_wp2
  obtain ⟨Wf, hWf⟩ : ∃ W, W = (w3.setCell ⟨w.heap.size, 0, none⟩ (.slice none 0 0)).drew := ⟨_, rfl⟩
  rw [← hWf]
  have hbx : Boxed Wf w.heap.size 24 (.slice none 0 0) := by rw [hWf]; exact HR3.out.set _
  have hlf : Below w.heap.size w Wf := by rw [hWf]; exact (HL3.out.setCell (p := ⟨w.heap.size, 0, none⟩) (Nat.le_refl _) _).drew
  have k0 := hbx.cell
  refine bodyPost_ret (v := .tuple #[.agg #[.slice none 0 0], .int .i64 (k : Int)]) (by simp [results, Tryz.results5, go_sem, k0]) rfl ?_
  exact ⟨_, [], by rw [HK.out], by rw [HE.out]; exact pr_nil Wf, Mine.nil _ _, hlf⟩
theorem conv_one (W : World) (v : Int) : (convert 105 9 (.slice (some ⟨W.heap.size, 0, none⟩) 1 1)).run Tryz.prog (W.alloc (.cells #[.int .u8 v] 5)) = .ok (.string ⟨#[UInt8.ofNat v.toNat]⟩) (W.alloc (.cells #[.int .u8 v] 5)) :=
 run_convert_bytes_arg (P := Tryz.prog) _ 105 5 Tryz.underlying105 Tryz.underlying5 W.heap.size 0 1 1 [v] rfl (fun i hi => by
  obtain rfl : i = 0 := by omega
  exact World.cell?_alloc_new _ _ _ _) 9 Tryz.underlying9
theorem dz_int (a : Int) (h : 0 < a) : dz a.toNat = dz (a / 10).toNat ++ [UInt8.ofNat (48 + a % 10).toNat] := by
 have e1 : (a / 10).toNat = a.toNat / 10 := by omega
 have e2 : (48 + a % 10).toNat = 48 + a.toNat % 10 := by omega
 rw [e1, e2]; exact dz_step a.toNat (by omega)
theorem dz_len (n : Int) (h0 : 0 < n) (h1 : n ≤ 9223372036854775807) : (dz n.toNat).length ≤ 21 := by
 have h := Lib.itoa_length_le n (by omega) h1
 rw [show n = ((n.toNat : Nat) : Int) by omega, itoa_pos n.toNat (by omega)] at h
 exact h
def mt (m : Int) : ByteArray := ⟨(109 :: dz m.toNat).toArray⟩
theorem mark_text (n : Int) (h0 : 0 < n) (h1 : n ≤ 9223372036854775807) (w : World) :
 Calls Tryz.prog 31 #[.int .i64 n] w fun e w' => e = .returned (.string (mt n)) ∧ Below w.heap.size w w' := by
 have HN := zH (dz_len n h0 h1)
 go_enter Tryz.func31, Tryz.ntmps31
 go_wp2
 go_loopw [0, 3] (fun m o wr => ∃ a : Int, ∃ l : List UInt8, 0 ≤ a ∧ a ≤ 9223372036854775807 ∧ dz a.toNat ++ l = dz n.toNat ∧ m = .int .i64 a ∧ o = .string ⟨l.toArray⟩ ∧ Below w.heap.size w wr) (fun m _ _ => (intOf m).toNat)
 case atStart => exact ⟨n, [], by omega, h1, by simp, rfl, rfl, Below.refl _ _⟩
 case round =>
  obtain ⟨a, l, hk0, hk1, hl, rfl, rfl, hb⟩ := hrel
  have hlen : l.length ≤ 21 := by
   have e := congrArg List.length hl
   have e2 := HN.out
   rw [List.length_append] at e
   omega
  have HL := zH hl
  clear hl
  by_cases hz : 0 < a
  · have hz3 : 0 ≤ a % 10 := by omega
    have hz4 : a % 10 < 10 := by omega
    have hs := zH hb.size
    have kc := fun (W : World) (v : Int) => conv_one W v
    go_wp2
    go_roundw
    case rel =>
     refine ⟨a / 10, UInt8.ofNat (48 + a % 10).toNat :: l, by omega, by omega, ?_, rfl, rfl, hb.alloc hs.out _⟩
     rw [← HL.out, dz_int a hz, List.append_assoc]
     rfl
    case measure => simp [intOf]; omega
  obtain rfl : a = 0 := by omega
  go_wp2
  go_ret
  have e := HL.out
  simp [dz_zero] at e
  refine ⟨?_, hb⟩
  unfold mt
  rw [← e]; rfl
def mlist (M : Int) (n : Nat) : List ByteArray := (List.range n).map fun (k : Nat) => mt (M + (k : Int))
theorem mlist_length (M : Int) (n : Nat) : (mlist M n).length = n := by simp [mlist]
theorem mlist_at (M : Int) (n k : Nat) (h : k < n) : (mlist M n)[k]? = some (mt (M + (k : Int))) := by simp [mlist, h]
theorem below_drew1 {B : Nat} {w w' : World} (h : Below B w w') : Below B w w'.drew := ⟨h.os, h.tape, h.output, h.size, h.block⟩
theorem keep_start {wr : World} {a : Addr} {x : Value} (h : wr.cell? a = some x) : wr.drew.cell? a = some x ∧ Hid (Below wr.heap.size wr wr.drew) := ⟨h, zH (below_drew1 (Below.refl _ _))⟩
theorem keep_step {wr X w2 : World} {a : Addr} {x : Value} (hg : a.block < wr.heap.size) (hb : Below X.heap.size X w2) (h : X.cell? a = some x ∧ Hid (Below wr.heap.size wr X)) : w2.cell? a = some x ∧ Hid (Below wr.heap.size wr w2) :=
 ⟨(hb.cell (p := a) (Nat.lt_of_lt_of_le hg h.2.out.size)).trans h.1, zH (h.2.out.trans (hb.mono h.2.out.size))⟩
def HeldPost (M : Int) (n : Nat) (w : World) (e : Ending) (w' : World) : Prop := e = .returned (.int .i64 (M + (n : Int))) ∧ Below w.heap.size w w'
end Go.Proofs.YthljhiklpopmgaaGreatDoor
