/- Two closed facts of the program that every last step wants. No condition. The contract of the model's AllDistinct. Condition: a list of fewer than 2^40 elements. The contracts of the model's l5Names and l5Within. Conditions: the list lies in memory; fewer than 2^40 elements; each of at most 1048576 bytes. Appending a slice of strings in memory, empty or not, to a row of our own: at a step of a region that draws its order. Condition: fewer than 2^40 elements together. The contract of the model's l5Head. Condition: names of at most 1048576 bytes, lists of at most 1048576 elements. The contract of the model's VarsOf. Condition: fewer than 2^40 nodes. Validity of a program as plain data: rule by rule as the model asks it, and in turns as the program does; both are the same. No condition. The contract of the model's l5Rule. Condition: nodes and letters together at most 1048576. The contract of the model's IsValidProgram. Condition: nodes and letters together at most 1048576. The walk of the law FnExactIsValidProgram, from a contract of the program's own function where no string shares the memory of the program. Conditions: that contract; the argument lies in memory. The laws FnExactIsValidProgram, each from a contract of the program's own function. Conditions: those contracts; the reach of the form. -/
import Derived.Test.YtmndlhbgacgnlaaExOpen
import Derived.ProofKit
import Derived.SizedLaws
import Derived.OpenShut
import Derived.Test.YtmndlhbgacgnlaaSpecNames
import Derived.Deep.QuietTactic
import Derived.BigQuiet
import Derived.Test.YtmndlhbgacgnlaaRuFind
import Derived.Test.YtmndlhbgacgnlaaOwnsL
import Derived.Test.YtmndlhbgacgnlaaStrs
import Derived.Deep.AppendLies
import Derived.Deep.RegionLaw
import Derived.Test.YtmndlhbgacgnlaaOwnFor
import Derived.Test.YtmndlhbgacgnlaaRuLight
import Derived.Test.YtmndlhbgacgnlaaSpecSizes
import Derived.Test.YtmndlhbgacgnlaaExSz
import Derived.Maps.AppendAt
import Derived.Test.YtmndlhbgacgnlaaRuFits
import Derived.Lib.QuietBelow
import Derived.Test.YtmndlhbgacgnlaaLawRu
import Derived.Test.YtmndlhbgacgnlaaHoldsRuFits
import Derived.Test.YtmndlhbgacgnlaaRuOpen
namespace Go.Proofs.Ytmndlhbgacgnlaa
open Go Go.ChangeShapes Go.WideShapes Go.ChangeAt Go.RowKit

end Go.Proofs.Ytmndlhbgacgnlaa

namespace Go.Proofs.Ytmndlhbgacgnlaa
open Go Go.RowKit

/-- The first k elements. -/
theorem Strs.take {w : World} {A : Option Addr} {xs : List ByteArray} (h : Strs w A xs) (k : Nat) : Strs w A (xs.take k) := fun i x hx => by
  rw [List.getElem?_take] at hx
  split at hx
  · exact h i x hx
  · cases hx
theorem Strs.drewN {w : World} {A : Option Addr} {xs : List ByteArray} (h : Strs w A xs) (q : Nat) : Strs (w.drewN q) A xs := h
theorem quiet_sameL {P : Program} {f : FuncId} {args : Array Value} {w : World} {n : Nat} {v : Value}
    (h : Calls P f args (w.drewN n) fun e w' => e = .returned v ∧ w.drewN n = w') : Calls P f args (w.drewN n) fun e w'' => e = .returned v ∧ ∃ m, w'' = w.drewN m :=
  h.mono fun _ _ ⟨he, hm⟩ => ⟨he, n, hm.symm⟩
def DistPost (xs : List ByteArray) (w : World) (e : Ending) (w' : World) : Prop := e = .returned (.bool (distinct xs)) ∧ ∃ q, w' = w.drewN q

theorem dist_end {xs : List ByteArray} {w wr : World} {q n : Nat} {b : Bool} (hb : b = distinct xs) (hw : wr = w.drewN q) : DistPost xs w (.returned (.bool b)) (wr.drewN n) :=
  ⟨by rw [hb], q + n, by rw [hw, World.drewN_drewN]⟩

set_option maxHeartbeats 1000000 in
theorem dist_any (A : Option Addr) (xs : List ByteArray) (cap : Nat) (w : World) (hs : Strs w A xs) (hn : xs.length ≤ 1099511627776) (hcap : xs.length ≤ cap) (_hc2 : cap ≤ 9223372036854775807) :
    Calls Try.prog 159 #[.slice A xs.length cap] w (DistPost xs w) := by
  obtain ⟨n, hnn⟩ : ∃ n, n = xs.length := ⟨_, rfl⟩
  have HN := Lib.hid hnn
  have HS := Lib.hid hs
  rw [← hnn]
  rw [← hnn] at hn hcap
  clear hs hnn
  go_enter Try.func159, Try.ntmps159
  go_wp2
  go_loopw [3] (fun i wr => ∃ (k q : Nat), k ≤ n ∧ i = .int .i64 (k : Int) ∧ Hid ((xs.take k).Nodup) ∧ Hid (wr = w.drewN q)) (fun i _ => n - (intOf i).toNat)
  case atStart => exact ⟨0, 0, Nat.zero_le _, rfl, Lib.hid (by simp), Lib.hid (by simp [World.drewN_zero])⟩
  case round =>
    obtain ⟨k, q, hk, rfl, HK, HW⟩ := hrel
    by_cases hlt : k < n
    · obtain ⟨a, x, rfl, hc0, -, hx, htake, -⟩ := HS.out.get k (by rw [← HN.out]; exact hlt)
      have hc : wr.cell? (a.add k) = some (.string x) := by rw [HW.out]; exact hc0
      have hk0 : 0 ≤ (k : Int) := by omega
      have hkn : (k : Int) < (n : Int) := by omega
      have hkc : (k : Int) ≤ (cap : Int) := by omega
      have HD := Lib.hid (nodup_take xs k x htake)
      have HL := Lib.hid (show (xs.take k).length = k by rw [List.length_take, ← HN.out]; omega)
      have hI := fun (m : Nat) => idx_any (some a) (xs.take k) cap x (wr.drewN m) (by rw [HW.out]; exact (HS.out.take k)) (by rw [HL.out]; omega)
      rw [HL.out] at hI
      have hge := idx_ge (xs.take k) x
      have HM := Lib.hid (idx_mem (xs.take k) x)
      clear hx htake hc0
      generalize idx (xs.take k) x = r at *
      have HI := Lib.hid hI
      clear hI
      by_cases hr : 0 ≤ r
      · have HF := Lib.hid (nodup_of_take xs (k + 1) (fun h => (HD.out.1 h).2 (HM.out.1 hr)))
        go_wp2
        go_quiet ((go_at_call 108; exact quiet_sameL (HI.out _)))
        go_wp2
        go_ret
        exact dist_end (by unfold distinct; exact (decide_eq_false HF.out).symm) HW.out
      · have HG := Lib.hid (HD.out.2 ⟨HK.out, fun h => hr (HM.out.2 h)⟩)
        go_wp2
        go_quiet ((go_at_call 108; exact quiet_sameL (HI.out _)))
        go_wp2
        go_roundw
        case rel => exact ⟨k + 1, q + nq, by omega, by go_num, HG, Lib.hid (by rw [HW.out, World.drewN_drewN])⟩
        case measure => simp [intOf]; omega
    · have HF := Lib.hid (show xs.Nodup by have h := HK.out; rw [List.take_of_length_le (by rw [← HN.out]; omega)] at h; exact h)
      go_wp2
      go_ret
      exact dist_end (n := 0) (by unfold distinct; exact (decide_eq_true HF.out).symm) HW.out
end Go.Proofs.Ytmndlhbgacgnlaa

namespace Go.Proofs.Ytmndlhbgacgnlaa
open Go Go.RowKit

def isNm (s : ByteArray) : Bool := nameL 97 122 s.data.toList
def allNm (xs : List ByteArray) : Bool := xs.all isNm
def within (xs all : List ByteArray) : Bool := xs.all (fun s => decide (0 ≤ idx all s))
theorem allNm_here {xs : List ByteArray} {k : Nat} {x : ByteArray} (h : xs[k]? = some x) : allNm (xs.drop k) = (isNm x && allNm (xs.drop (k + 1))) := by
  obtain ⟨h1, h2⟩ := List.getElem?_eq_some_iff.1 h
  rw [List.drop_eq_getElem_cons h1, h2, allNm, List.all_cons]; rfl
theorem within_here {xs all : List ByteArray} {k : Nat} {x : ByteArray} (h : xs[k]? = some x) : within (xs.drop k) all = (decide (0 ≤ idx all x) && within (xs.drop (k + 1)) all) := by
  obtain ⟨h1, h2⟩ := List.getElem?_eq_some_iff.1 h
  rw [List.drop_eq_getElem_cons h1, h2, within, List.all_cons]; rfl

set_option maxHeartbeats 1000000 in
theorem names_any (A : Option Addr) (xs : List ByteArray) (cap : Nat) (w : World) (hs : Strs w A xs) (hn : xs.length ≤ 1099511627776) (hz : ∀ x ∈ xs, x.size ≤ 1048576) :
    Calls Try.prog 160 #[.slice A xs.length cap] w fun e w' => e = .returned (.bool (allNm xs)) ∧ w = w' := by
  obtain ⟨n, hm⟩ : ∃ n, n = xs.length := ⟨_, rfl⟩
  rw [← hm] at hn ⊢
  have HN := Lib.hid hm
  have HS := Lib.hid hs
  have HZ := Lib.hid hz
  clear hs hm hz
  go_enter Try.func160, Try.ntmps160
  go_wp2_with fail
  go_loopw [3] (fun i wr => ∃ (k : Nat), k ≤ n ∧ i = .int .i64 (k : Int) ∧ Hid (allNm xs = allNm (xs.drop k)) ∧ wr = w) (fun i _ => n - (intOf i).toNat)
  case atStart => exact ⟨0, Nat.zero_le _, rfl, Lib.hid rfl, rfl⟩
  case round =>
    obtain ⟨k, hk, rfl, HK, rfl⟩ := hrel
    by_cases hlt : k < n
    · obtain ⟨a, e1, hca, hla⟩ := HS.out.at_ k (by rw [← HN.out]; exact hlt)
      have HG := Lib.hid (allNm_here (xs := xs) (k := k) (List.getElem?_eq_getElem (by rw [← HN.out]; exact hlt)))
      have hzx := HZ.out (xs[k]'(by rw [← HN.out]; exact hlt)) (List.getElem_mem _)
      subst e1
      generalize xs[k]'(by rw [← HN.out]; exact hlt) = x at *
      have HC := Lib.hid (isname_any x wr hzx)
      have hk0 : (0 : Int) ≤ (k : Int) := by omega
      have hkn : (k : Int) < (n : Int) := by omega
      cases hnm : isNm x
      · have HE := Lib.hid (show allNm xs = false by rw [HK.out, HG.out, hnm, Bool.false_and])
        have HNM := Lib.hid (show nameL 97 122 x.data.toList = false from hnm)
        clear hnm
        go_wp2_with (go_at_call 124; refine HC.out.mono ?_; rintro r w2 ⟨rfl, rfl⟩; rw [HNM.out])
        go_ret
        exact ⟨by rw [HE.out]; rfl, rfl⟩
      · have HE := Lib.hid (show allNm xs = allNm (xs.drop (k + 1)) by rw [HK.out, HG.out, hnm, Bool.true_and])
        have HNM := Lib.hid (show nameL 97 122 x.data.toList = true from hnm)
        clear hnm
        go_wp2_with (go_at_call 124; refine HC.out.mono ?_; rintro r w2 ⟨rfl, rfl⟩; rw [HNM.out])
        go_roundw
        case rel => exact ⟨k + 1, by omega, by go_num, HE, trivial⟩
        case measure => simp [intOf]; omega
    · have HE := Lib.hid (show allNm xs = true by rw [HK.out, List.drop_eq_nil_of_le (by rw [← HN.out]; omega)]; rfl)
      go_wp2
      go_ret
      exact ⟨by rw [HE.out]; rfl, rfl⟩

set_option maxHeartbeats 1000000 in
theorem within_any (A B : Option Addr) (xs ys : List ByteArray) (cap cap2 : Nat) (w : World) (hs : Strs w A xs) (hs2 : Strs w B ys) (hn : xs.length ≤ 1099511627776) (hm : ys.length ≤ 1099511627776) :
    Calls Try.prog 134 #[.slice A xs.length cap, .slice B ys.length cap2] w fun e w' => e = .returned (.bool (within xs ys)) ∧ w = w' := by
  obtain ⟨n, hl⟩ : ∃ n, n = xs.length := ⟨_, rfl⟩
  rw [← hl] at hn ⊢
  have HN := Lib.hid hl
  have HS := Lib.hid hs
  have HC := Lib.hid (fun (s : ByteArray) => idx_any B ys cap2 s w hs2 (by omega))
  generalize hq : ys.length = q at *
  clear hs hs2 hl hm hq
  go_enter Try.func134, Try.ntmps134
  go_wp2_with fail
  go_loopw [5] (fun i wr => ∃ (k : Nat), k ≤ n ∧ i = .int .i64 (k : Int) ∧ Hid (within xs ys = within (xs.drop k) ys) ∧ wr = w) (fun i _ => n - (intOf i).toNat)
  case atStart => exact ⟨0, Nat.zero_le _, rfl, Lib.hid rfl, rfl⟩
  case round =>
    obtain ⟨k, hk, rfl, HK, rfl⟩ := hrel
    by_cases hlt : k < n
    · obtain ⟨a, e1, hca, hla⟩ := HS.out.at_ k (by rw [← HN.out]; exact hlt)
      have HG := Lib.hid (within_here (xs := xs) (all := ys) (k := k) (List.getElem?_eq_getElem (by rw [← HN.out]; exact hlt)))
      subst e1
      generalize xs[k]'(by rw [← HN.out]; exact hlt) = x at *
      have hk0 : (0 : Int) ≤ (k : Int) := by omega
      have hkn : (k : Int) < (n : Int) := by omega
      have HCX := Lib.hid (HC.out x)
      by_cases hx : 0 ≤ idx ys x
      · have HE := Lib.hid (show within xs ys = within (xs.drop (k + 1)) ys by rw [HK.out, HG.out, decide_eq_true hx, Bool.true_and])
        generalize idx ys x = z at *
        go_wp2_with (go_at_call 108; refine HCX.out.mono ?_; rintro r w2 ⟨rfl, rfl⟩)
        go_roundw
        case rel => exact ⟨k + 1, by omega, by go_num, HE, trivial⟩
        case measure => simp [intOf]; omega
      · have HE := Lib.hid (show within xs ys = false by rw [HK.out, HG.out, decide_eq_false hx, Bool.false_and])
        generalize idx ys x = z at *
        have hx2 : z < 0 := by omega
        go_wp2_with (go_at_call 108; refine HCX.out.mono ?_; rintro r w2 ⟨rfl, rfl⟩)
        go_ret
        exact ⟨by rw [HE.out]; rfl, rfl⟩
    · have HE := Lib.hid (show within xs ys = true by rw [HK.out, List.drop_eq_nil_of_le (by rw [← HN.out]; omega)]; rfl)
      go_wp2
      go_ret
      exact ⟨by rw [HE.out]; rfl, rfl⟩
end Go.Proofs.Ytmndlhbgacgnlaa

namespace Go.Proofs.Ytmndlhbgacgnlaa
open Go Go.RowKit

theorem run_append_none {P : Program} (w : World) (t ty e : TypeId) (i : TypeInfo) (ht : P.underlying t = some (.slice e)) (hi : P.info? e = some i) (A A2 : Option Addr) (n c c2 : Nat) (h : n ≤ c) :
    (Builtin.append_ #[t, t] ty #[.slice A n c, .slice A2 0 c2]).run P w = .ok (.slice A n c) w := by
  cases A2 <;> cases A <;> simp [Builtin.append_, run_underlying ht, sizeOf, typeInfo, hi, Builtin.lenOf, Builtin.firstCells, loadCells, loadCellsFrom, h, storeCells]
theorem run_append_strs (w : World) (ty : TypeId) (base : Nat) (v : Value) (xs : List ByteArray) (hown : OwnsL base w v xs) (A : Option Addr) (ys : List ByteArray) (c : Nat) (hys : Strs w A ys) (h63 : xs.length + ys.length ≤ 1099511627776) (hbase : base ≤ w.heap.size) :
    ∃ v' w', (Builtin.append_ #[31, 31] ty #[v, .slice A ys.length c]).run Try.prog w = .ok v' w' ∧ OwnsL base w' v' (xs ++ ys) ∧ w.grownBy w' v.ownBlock := by
  have hx := Try.info9u
  cases hi : Try.prog.info? 9 with
  | none => rw [hi] at hx; cases hx
  | some i =>
    rw [hi] at hx
    simp only [Option.map_some, Option.some.injEq, Prod.mk.injEq] at hx
    obtain ⟨hz, hsz, hby⟩ := hx
    cases ys with
    | nil =>
      have hle : ∃ A0 c0, v = .slice A0 xs.length c0 ∧ xs.length ≤ c0 := by
        obtain ⟨A0, c0, rfl, -⟩ := hown.shape
        refine ⟨A0, c0, rfl, ?_⟩
        rcases hown.2 with ⟨h0, -⟩ | ⟨g, cap, cur, h0, -, -, hn, -⟩
        · simp only [Value.slice.injEq] at h0; omega
        · simp only [Value.slice.injEq] at h0; omega
      obtain ⟨A0, c0, rfl, hle⟩ := hle
      refine ⟨_, w, run_append_none w _ ty _ i Try.underlying31 hi _ _ _ _ _ hle, by rw [List.append_nil]; exact hown, ?_⟩
      exact ⟨rfl, rfl, rfl, Nat.le_refl _, fun _ _ _ => rfl⟩
    | cons y t =>
      obtain ⟨ad, rfl, -, -⟩ := hys.at_ 0 (by simp)
      obtain ⟨g, cap, w', hr, h2, h3, -, -⟩ := run_append_lies (P := Try.prog) (w := w) 31 ty base 9 i (.string ⟨#[]⟩) 1 16 Try.underlying31 hi hz hsz hby rfl (by decide) v xs.length (xs.map Value.string) hown ad (y :: t).length c ((y :: t).map Value.string) (by simp)
        (fun j u hj => by
          rw [List.getElem?_map] at hj
          cases hjj : (y :: t)[j]? with
          | none => rw [hjj] at hj; cases hj
          | some s =>
            rw [hjj] at hj
            cases hj
            obtain ⟨h1, h2⟩ := List.getElem?_eq_some_iff.1 hjj
            obtain ⟨a, e, h3, -⟩ := hys.at_ j h1
            cases e
            rw [h3, h2])
        (fun u hu => by
          obtain ⟨s, -, rfl⟩ := List.mem_map.1 hu
          rfl) (by simp) (by unfold maxLen; simp at h63 ⊢; omega) (by simp at h63 ⊢; omega) hbase w.heap.size rfl
      refine ⟨_, w', hr, ?_, h3⟩
      unfold OwnsL
      rw [List.length_append, List.map_append]
      exact h2
theorem step_append_strs {ops : Array Oper} {o : Oper} {a : Act} {w : World} {K : Act → World → Prop} {Q : Exit → Act → World → Prop} {E : Prop} (hgd : o.guard = none) (s x : Operand)
    (ho : o.op = .call { callee := .builtin .append, args := #[s, x], argTypes := #[31, 31] })
    (base : Nat) (v : Value) (xs : List ByteArray) (hs : a.eval s = v) (hown : OwnsL base w v xs) (A : Option Addr) (ys : List ByteArray) (c : Nat) (hx : a.eval x = .slice A ys.length c) (hys : Strs w A ys) (h63 : xs.length + ys.length ≤ 1099511627776) (hbase : base ≤ w.heap.size)
    (h : ∀ v' w', OwnsL base w' v' (xs ++ ys) → w.grownBy w' v.ownBlock → K (a.put o.dst v') w') :
    if Region.wanted o (yielded ops a.tmps) = true then Oper.wp Try.prog o a w K Q else E := by
  have hw : Region.wanted o (yielded ops a.tmps) = true := by simp [Region.wanted, hgd]
  rw [if_pos hw]
  obtain ⟨v', w', hr, h2, h3⟩ := run_append_strs w o.type base v xs hown A ys c hys h63 hbase
  unfold Oper.wp execOp
  simp only [ho, resolve, invoke, builtin, Sem.run_bind, Sem.run_pure, Result.andThen_ok, List.map_toArray, List.map_cons, List.map_nil, hs, hx, hr]
  exact h v' w' h2 h3
theorem wpList_append_strs {w : World} {ops : Array Oper} {rest : List Oper} {o : Oper} {a : Act} {Q : Exit → Act → World → Prop} (hgd : o.guard = none) (s x : Operand)
    (ho : o.op = .call { callee := .builtin .append, args := #[s, x], argTypes := #[31, 31] })
    (base : Nat) (v : Value) (xs : List ByteArray) (hs : a.eval s = v) (hown : OwnsL base w v xs) (A : Option Addr) (ys : List ByteArray) (c : Nat) (hx : a.eval x = .slice A ys.length c) (hys : Strs w A ys) (h63 : xs.length + ys.length ≤ 1099511627776) (hbase : base ≤ w.heap.size)
    (h : ∀ v' w', OwnsL base w' v' (xs ++ ys) → w.grownBy w' v.ownBlock → wpList Try.prog ops Q rest (a.put o.dst v') w') : wpList Try.prog ops Q (o :: rest) a w := by
  refine wpList_plain hgd fun K hK => ?_
  obtain ⟨v', w', hr, h2, h3⟩ := run_append_strs w o.type base v xs hown A ys c hys h63 hbase
  unfold Oper.wp execOp
  simp only [ho, resolve, invoke, builtin, Sem.run_bind, Sem.run_pure, Result.andThen_ok, List.map_toArray, List.map_cons, List.map_nil, hs, hx, hr]
  exact hK _ _ (h v' w' h2 h3)
/-- A block of one string. -/
theorem strs_one (W : World) (x : ByteArray) : Strs (W.alloc (.cells #[.string x] 9)) (some ⟨W.heap.size, 0, none⟩) [x] := by
  intro i y hy
  refine ⟨_, rfl, ?_, by simp⟩
  have hi : i = 0 := by
    rcases i with _ | i
    · rfl
    · simp at hy
  subst hi
  simp at hy
  rw [← hy]; simp [go_sem]
end Go.Proofs.Ytmndlhbgacgnlaa

namespace Go.Proofs.Ytmndlhbgacgnlaa
open Go Go.RowKit

def isCn (s : ByteArray) : Bool := nameL 65 90 s.data.toList
def headOk (r : Ru) : Bool := (if r.con.size = 0 then decide (r.vars.length = 0) else isCn r.con) && (isNm r.name && (decide (r.vars.length ≤ 5) && (decide (r.params.length ≤ 4) && (distinct (r.vars ++ r.params) && allNm (r.vars ++ r.params)))))
theorem cut_region {P : Program} {c : Code} {K : Act → World → Prop} {Q : Exit → Act → World → Prop} {a : Act} {w : World} (R : Act → World → Prop) (h : c.wp P (onlyA R) a w) (hK : ∀ a W, R a W → K a W) : c.wp P (Exit.then K Q) a w :=
  wpIn_wide.1 (wpIn_mono (wpIn_wide.2 h : c.wpIn Fence.wide 0 P (onlyA R) a w) (fun e a W hq => by
    cases e with
    | normal => exact hK a W hq
    | exit id => exact hq.elim
    | goto t => exact hq.elim
    | ret => exact hq.elim
    | panic c => exact hq.elim
    | outgrown => exact hq.elim))
theorem owns_empty (W0 : World) : OwnsL W0.heap.size (W0.alloc (.cells #[] 9)).drew (.slice (some ⟨W0.heap.size, 0, none⟩) 0 0) [] :=
  World.ownsRow_lit W0 #[] 0 (Nat.le_refl _) (by unfold maxLen; omega) rfl
theorem old_cell {W0 W w2 : World} {v : Value} {xs : List ByteArray} {B o : Nat} {u : Value} (hb : Below W0.heap.size W0 W) (ho : OwnsL W0.heap.size W v xs) (hg : W.grownBy w2 v.ownBlock) (hB : B < W0.heap.size) (hc : W0.cell? ⟨B, o, none⟩ = some u) : w2.cell? ⟨B, o, none⟩ = some u :=
  ((OwnsL.grown hb ho hg).cell (p := ⟨B, o, none⟩) hB).trans hc

theorem drewN_low {n : Nat} {w W : World} (h : Below n w W) (q : Nat) : Below n w (W.drewN q) := ⟨h.os, h.tape, h.output, h.size, h.block⟩
theorem tot_mem {xs : List ByteArray} {x : ByteArray} (h : x ∈ xs) : x.size ≤ totN xs := by
  unfold totN
  induction xs with
  | nil => cases h
  | cons y t ih =>
    rw [List.map_cons, List.sum_cons]
    rcases List.mem_cons.1 h with rfl | h
    · omega
    · have := ih h; omega
set_option maxRecDepth 100000 in
set_option maxHeartbeats 4000000 in
theorem head_any (r : Ru) (v : Value) (b : List Nat) (w : World) (hv : RuIs w v r b) (hz : ruTot r ≤ 1048576) :
    Calls Try.prog 133 #[v] w (RetPost (.bool (headOk r)) w) := by
  obtain ⟨v1, v2, u, b1, b2, b3, rfl, h1, h2, rfl, h3, h4, h5⟩ := hv
  obtain ⟨A1, c1, rfl⟩ := h3.slice
  obtain ⟨A2, c2, rfl⟩ := h4.slice
  obtain ⟨A3, q3, c3, rfl⟩ := his_slice0 h5
  obtain ⟨-, hc1, hc2, hs1, -⟩ := h3.strs
  obtain ⟨-, hc3, hc4, hs2, -⟩ := h4.strs
  have hl : r.vars.length ≤ 1048576 ∧ r.params.length ≤ 1048576 := by unfold ruTot ssTot at hz; omega
  go_enter Try.func133, Try.ntmps133
  go_wp2_with fail
  obtain ⟨W0, hW0⟩ : ∃ W0, W0 = w.alloc (.cells #[.string r.name, .string r.con, .slice A1 r.vars.length c1, .slice A2 r.params.length c2, .int .i64 r.body.kind, .string r.body.name, .slice A3 q3 c3] 110) := ⟨_, rfl⟩
  rw [← hW0]
  have hbx : W0.heap[w.heap.size]? = some (.cells #[.string r.name, .string r.con, .slice A1 r.vars.length c1, .slice A2 r.params.length c2, .int .i64 r.body.kind, .string r.body.name, .slice A3 q3 c3] 110 (0, 0)) := by rw [hW0]; exact World.alloc_heap_new w _
  have x2 : W0.cell? ⟨w.heap.size, 2, none⟩ = some (.slice A1 r.vars.length c1) := by simp [World.cell?, hbx]
  have x3 : W0.cell? ⟨w.heap.size, 3, none⟩ = some (.slice A2 r.params.length c2) := by simp [World.cell?, hbx]
  have xl : w.heap.size < W0.heap.size := (Array.getElem?_eq_some_iff.1 hbx).1
  have hlow : Below w.heap.size w W0 := by rw [hW0]; exact (Below.refl _ w).alloc (Nat.le_refl _) _
  have HLW := Lib.hid hlow
  have HBX := Lib.hid hbx
  have HX3 := Lib.hid x3
  have HXL := Lib.hid xl
  have HL := Lib.hid hl
  have HO0 := Lib.hid (owns_empty W0)
  have HB0 := Lib.hid (((Below.refl W0.heap.size W0).alloc (Nat.le_refl _) (.cells #[] 9)).drew)
  have HS1 := Lib.hid (fun (Y : World) (hY : Below W0.heap.size W0 Y) => (hs1.below hlow).below hY)
  have HS2 := Lib.hid (fun (Y : World) (hY : Below W0.heap.size W0 Y) => (hs2.below hlow).below hY)
  have HZ := Lib.hid hz
  clear hW0 hbx hlow hl hs1 hs2 h3 h4 h5 hz
  refine cut_region (fun a W => ∃ v7 v8, a = { tmps := #[.agg #[.string r.name, .string r.con, .slice A1 r.vars.length c1, .slice A2 r.params.length c2, .int .i64 r.body.kind, .string r.body.name, .slice A3 q3 c3], .pointer (some ⟨w.heap.size, 0, none⟩), .bool false, v8, .slice (some ⟨W0.heap.size, 0, none⟩) 0 0, .pointer (some ⟨w.heap.size, 2, none⟩), .slice A1 r.vars.length c1, v7, .pointer (some ⟨w.heap.size, 3, none⟩), .slice A2 r.params.length c2, v8, undef, undef, undef, undef, undef, undef, undef, undef, undef, undef, undef, undef, undef, undef, undef, undef, undef, undef, undef, undef, undef, undef, undef, undef, undef, undef, undef, undef, undef, undef, undef, undef, undef, undef, undef, undef, undef, undef, undef, undef, undef, undef, undef], defers := [] } ∧ OwnsL W0.heap.size W v8 (r.vars ++ r.params) ∧ Below W0.heap.size W0 W) ?_ ?_
  · go_region_law
      (first
      | (refine step_append_strs (by rfl) (.tmp 4) (.tmp 6) (by rfl) W0.heap.size (.slice (some ⟨W0.heap.size, 0, none⟩) 0 0) [] (by rfl) HO0.out A1 r.vars c1 (by rfl) (HS1.out _ HB0.out) (by have := HL.out; simp; omega) HB0.out.size ?_; intro v7 w7 ho7 hg7; have y3 := old_cell HB0.out HO0.out hg7 HXL.out HX3.out; have HB7 := Lib.hid (OwnsL.grown HB0.out HO0.out hg7); have HO7 := Lib.hid ho7; clear ho7 hg7)
      | (refine step_append_strs (by rfl) (.tmp 7) (.tmp 9) (by rfl) W0.heap.size v7 ([] ++ r.vars) (by rfl) HO7.out A2 r.params c2 (by rfl) (HS2.out _ HB7.out) (by have := HL.out; simp; omega) HB7.out.size ?_; intro v8 w8 ho8 hg8; have HB8 := Lib.hid (OwnsL.grown HB7.out HO7.out hg8); have HO8 := Lib.hid ho8; clear ho8 hg8))
    all_goals
      exact ⟨v7, v8, rfl, HO8.out, HB8.out⟩
  · rintro _ W ⟨v7, v8, rfl, ho, hb⟩
    have hbw : W.heap[w.heap.size]? = some (.cells #[.string r.name, .string r.con, .slice A1 r.vars.length c1, .slice A2 r.params.length c2, .int .i64 r.body.kind, .string r.body.name, .slice A3 q3 c3] 110 (0, 0)) := (hb.block _ HXL.out).trans HBX.out
    have y0 : W.cell? ⟨w.heap.size, 0, none⟩ = some (.string r.name) := by simp [World.cell?, hbw]
    have y1 : W.cell? ⟨w.heap.size, 1, none⟩ = some (.string r.con) := by simp [World.cell?, hbw]
    have y2 : W.cell? ⟨w.heap.size, 2, none⟩ = some (.slice A1 r.vars.length c1) := by simp [World.cell?, hbw]
    have y3 : W.cell? ⟨w.heap.size, 3, none⟩ = some (.slice A2 r.params.length c2) := by simp [World.cell?, hbw]
    obtain ⟨A8, c8, rfl, hst⟩ := ho.shape
    have hc8 : (r.vars ++ r.params).length ≤ c8 ∧ c8 ≤ 9223372036854775807 := by
      rcases ho.2 with ⟨h0, -⟩ | ⟨g, cap, cur, h0, -, -, hn, hmx, -⟩
      · simp only [Value.slice.injEq] at h0; omega
      · simp only [Value.slice.injEq] at h0; unfold maxLen at hmx; omega
    have hly : (r.vars ++ r.params).length ≤ 1099511627776 := by have := HL.out; simp; omega
    have HH := Lib.hid (show headOk r = ((if r.con.size = 0 then decide (r.vars.length = 0) else isCn r.con) && (isNm r.name && (decide (r.vars.length ≤ 5) && (decide (r.params.length ≤ 4) && (distinct (r.vars ++ r.params) && allNm (r.vars ++ r.params)))))) from rfl)
    have HNS := Lib.hid (show r.name.size ≤ 1048576 by have := HZ.out; unfold ruTot at this; omega)
    have HCS := Lib.hid (show r.con.size ≤ 1048576 by have := HZ.out; unfold ruTot at this; omega)
    have hys1 : ∀ x ∈ r.vars ++ r.params, x.size ≤ 1048576 := by
      intro x hx
      have h9 := HZ.out
      unfold ruTot ssTot at h9
      rcases List.mem_append.1 hx with hx | hx
      · have := tot_mem hx; omega
      · have := tot_mem hx; omega
    have HDC := Lib.hid (dist_any A8 (r.vars ++ r.params) c8 W hst hly hc8.1 hc8.2)
    have HNC := Lib.hid (fun q => names_any A8 (r.vars ++ r.params) c8 (W.drewN q) (hst.drewN q) hly hys1)
    have HWW := Lib.hid (HLW.out.trans (hb.mono HLW.out.size))
    generalize hys : r.vars ++ r.params = ys at *
    generalize hym : ys.length = my at *
    generalize r.vars.length = n1 at *
    generalize r.params.length = n2 at *
    have hn1i : (n1 : Int) ≤ 1048576 := by have := HL.out; omega
    have hn2i : (n2 : Int) ≤ 1048576 := by have := HL.out; omega
    clear ho hb hbw hst hc8 hly hys1 hys hym
    by_cases hcon : r.con.size = 0
    · have hbe := empty_yes hcon
      by_cases hv0 : n1 = 0
      · have hv0i : ¬ (0 : Int) < (n1 : Int) := by omega
        have hv0j : (n1 : Int) ≤ 0 := by omega
        rw [if_pos hcon, decide_eq_true hv0, Bool.true_and] at HH
        cases hnm : isNm r.name
        · have HNM := Lib.hid (show nameL 97 122 r.name.data.toList = false from hnm)
          have HE := Lib.hid (show headOk r = false by rw [HH.out, hnm]; rfl)
          clear hnm
          go_wp2_with (first | (go_at_call 124; refine (isname_any _ _ HNS.out).mono ?_; rintro e w2 ⟨rfl, rfl⟩; rw [HNM.out]))
          go_ret
          exact ⟨by rw [HE.out]; rfl, HWW.out⟩
        · have HNM := Lib.hid (show nameL 97 122 r.name.data.toList = true from hnm)
          have h5 : n1 ≤ 5 := by omega
          have h5i : (n1 : Int) ≤ 5 := by omega
          by_cases h4 : n2 ≤ 4
          · have h4i : (n2 : Int) ≤ 4 := by omega
            cases hd : distinct ys
            · have HDI := Lib.hid hd
              have HE := Lib.hid (show headOk r = false by rw [HH.out, hnm, decide_eq_true h5, decide_eq_true h4, hd]; simp)
              clear hnm
              go_wp2_with (first | (go_at_call 124; refine (isname_any _ _ HNS.out).mono ?_; rintro e w2 ⟨rfl, rfl⟩; rw [HNM.out]) | (go_at_call 159; refine HDC.out.mono ?_; rintro e w2 ⟨rfl, q, rfl⟩; rw [HDI.out]))
              go_ret
              exact ⟨by rw [HE.out]; rfl, (drewN_low HWW.out _)⟩
            · have HDI := Lib.hid hd
              cases hn : allNm ys
              · have HAN := Lib.hid hn
                have HE := Lib.hid (show headOk r = false by rw [HH.out, hnm, decide_eq_true h5, decide_eq_true h4, hd, hn]; simp)
                clear hnm
                go_wp2_with (first | (go_at_call 124; refine (isname_any _ _ HNS.out).mono ?_; rintro e w2 ⟨rfl, rfl⟩; rw [HNM.out]) | (go_at_call 159; refine HDC.out.mono ?_; rintro e w2 ⟨rfl, q, rfl⟩; rw [HDI.out]) | (go_at_call 160; refine (HNC.out _).mono ?_; rintro e w2 ⟨rfl, rfl⟩; rw [HAN.out]))
                go_ret
                exact ⟨by rw [HE.out]; rfl, (drewN_low HWW.out _)⟩
              · have HAN := Lib.hid hn
                have HE := Lib.hid (show headOk r = true by rw [HH.out, hnm, decide_eq_true h5, decide_eq_true h4, hd, hn]; simp)
                clear hnm
                go_wp2_with (first | (go_at_call 124; refine (isname_any _ _ HNS.out).mono ?_; rintro e w2 ⟨rfl, rfl⟩; rw [HNM.out]) | (go_at_call 159; refine HDC.out.mono ?_; rintro e w2 ⟨rfl, q, rfl⟩; rw [HDI.out]) | (go_at_call 160; refine (HNC.out _).mono ?_; rintro e w2 ⟨rfl, rfl⟩; rw [HAN.out]))
                go_ret
                exact ⟨by rw [HE.out]; rfl, (drewN_low HWW.out _)⟩
          · have h4i : ¬ (n2 : Int) ≤ 4 := by omega
            have h4j : (4 : Int) < (n2 : Int) := by omega
            have HE := Lib.hid (show headOk r = false by rw [HH.out, hnm, decide_eq_true h5, decide_eq_false h4]; simp)
            clear hnm
            go_wp2_with (first | (go_at_call 124; refine (isname_any _ _ HNS.out).mono ?_; rintro e w2 ⟨rfl, rfl⟩; rw [HNM.out]))
            go_ret
            exact ⟨by rw [HE.out]; rfl, HWW.out⟩
      · have hv0i : (0 : Int) < (n1 : Int) := by omega
        rw [if_pos hcon, decide_eq_false hv0, Bool.false_and] at HH
        go_wp2_with fail
        go_ret
        exact ⟨by rw [HH.out]; rfl, HWW.out⟩
    · have hbe := empty_not hcon
      rw [if_neg hcon] at HH
      cases hcn : isCn r.con
      · have HCN := Lib.hid (show nameL 65 90 r.con.data.toList = false from hcn)
        rw [hcn, Bool.false_and] at HH
        go_wp2_with (go_at_call 146; refine (iscon_any _ _ HCS.out).mono ?_; rintro e w2 ⟨rfl, rfl⟩; rw [HCN.out])
        go_ret
        exact ⟨by rw [HH.out]; rfl, HWW.out⟩
      · have HCN := Lib.hid (show nameL 65 90 r.con.data.toList = true from hcn)
        rw [hcn, Bool.true_and] at HH
        cases hnm : isNm r.name
        · have HNM := Lib.hid (show nameL 97 122 r.name.data.toList = false from hnm)
          have HE := Lib.hid (show headOk r = false by rw [HH.out, hnm]; rfl)
          clear hnm
          go_wp2_with (first | (go_at_call 146; refine (iscon_any _ _ HCS.out).mono ?_; rintro e w2 ⟨rfl, rfl⟩; rw [HCN.out]) | (go_at_call 124; refine (isname_any _ _ HNS.out).mono ?_; rintro e w2 ⟨rfl, rfl⟩; rw [HNM.out]))
          go_ret
          exact ⟨by rw [HE.out]; rfl, HWW.out⟩
        · have HNM := Lib.hid (show nameL 97 122 r.name.data.toList = true from hnm)
          by_cases h5 : n1 ≤ 5
          · have h5i : (n1 : Int) ≤ 5 := by omega
            by_cases h4 : n2 ≤ 4
            · have h4i : (n2 : Int) ≤ 4 := by omega
              cases hd : distinct ys
              · have HDI := Lib.hid hd
                have HE := Lib.hid (show headOk r = false by rw [HH.out, hnm, decide_eq_true h5, decide_eq_true h4, hd]; simp)
                clear hnm
                go_wp2_with (first | (go_at_call 146; refine (iscon_any _ _ HCS.out).mono ?_; rintro e w2 ⟨rfl, rfl⟩; rw [HCN.out]) | (go_at_call 124; refine (isname_any _ _ HNS.out).mono ?_; rintro e w2 ⟨rfl, rfl⟩; rw [HNM.out]) | (go_at_call 159; refine HDC.out.mono ?_; rintro e w2 ⟨rfl, q, rfl⟩; rw [HDI.out]))
                go_ret
                exact ⟨by rw [HE.out]; rfl, (drewN_low HWW.out _)⟩
              · have HDI := Lib.hid hd
                cases hn : allNm ys
                · have HAN := Lib.hid hn
                  have HE := Lib.hid (show headOk r = false by rw [HH.out, hnm, decide_eq_true h5, decide_eq_true h4, hd, hn]; simp)
                  clear hnm
                  go_wp2_with (first | (go_at_call 146; refine (iscon_any _ _ HCS.out).mono ?_; rintro e w2 ⟨rfl, rfl⟩; rw [HCN.out]) | (go_at_call 124; refine (isname_any _ _ HNS.out).mono ?_; rintro e w2 ⟨rfl, rfl⟩; rw [HNM.out]) | (go_at_call 159; refine HDC.out.mono ?_; rintro e w2 ⟨rfl, q, rfl⟩; rw [HDI.out]) | (go_at_call 160; refine (HNC.out _).mono ?_; rintro e w2 ⟨rfl, rfl⟩; rw [HAN.out]))
                  go_ret
                  exact ⟨by rw [HE.out]; rfl, (drewN_low HWW.out _)⟩
                · have HAN := Lib.hid hn
                  have HE := Lib.hid (show headOk r = true by rw [HH.out, hnm, decide_eq_true h5, decide_eq_true h4, hd, hn]; simp)
                  clear hnm
                  go_wp2_with (first | (go_at_call 146; refine (iscon_any _ _ HCS.out).mono ?_; rintro e w2 ⟨rfl, rfl⟩; rw [HCN.out]) | (go_at_call 124; refine (isname_any _ _ HNS.out).mono ?_; rintro e w2 ⟨rfl, rfl⟩; rw [HNM.out]) | (go_at_call 159; refine HDC.out.mono ?_; rintro e w2 ⟨rfl, q, rfl⟩; rw [HDI.out]) | (go_at_call 160; refine (HNC.out _).mono ?_; rintro e w2 ⟨rfl, rfl⟩; rw [HAN.out]))
                  go_ret
                  exact ⟨by rw [HE.out]; rfl, (drewN_low HWW.out _)⟩
            · have h4i : ¬ (n2 : Int) ≤ 4 := by omega
              have h4j : (4 : Int) < (n2 : Int) := by omega
              have HE := Lib.hid (show headOk r = false by rw [HH.out, hnm, decide_eq_true h5, decide_eq_false h4]; simp)
              clear hnm
              go_wp2_with (first | (go_at_call 146; refine (iscon_any _ _ HCS.out).mono ?_; rintro e w2 ⟨rfl, rfl⟩; rw [HCN.out]) | (go_at_call 124; refine (isname_any _ _ HNS.out).mono ?_; rintro e w2 ⟨rfl, rfl⟩; rw [HNM.out]))
              go_ret
              exact ⟨by rw [HE.out]; rfl, HWW.out⟩
          · have h5i : ¬ (n1 : Int) ≤ 5 := by omega
            have h5j : (5 : Int) < (n1 : Int) := by omega
            have HE := Lib.hid (show headOk r = false by rw [HH.out, hnm, decide_eq_false h5]; simp)
            clear hnm
            go_wp2_with (first | (go_at_call 146; refine (iscon_any _ _ HCS.out).mono ?_; rintro e w2 ⟨rfl, rfl⟩; rw [HCN.out]) | (go_at_call 124; refine (isname_any _ _ HNS.out).mono ?_; rintro e w2 ⟨rfl, rfl⟩; rw [HNM.out]))
            go_ret
            exact ⟨by rw [HE.out]; rfl, HWW.out⟩
end Go.Proofs.Ytmndlhbgacgnlaa

namespace Go.Proofs.Ytmndlhbgacgnlaa
open Go Go.RowKit

def addName (out : List ByteArray) (s : ByteArray) : List ByteArray := if 0 ≤ idx out s then out else out ++ [s]
mutual
def exVars (out : List ByteArray) : Ex → List ByteArray
  | .mk k s l => exVarsL (if k = 1 then addName out s else out) l
def exVarsL (out : List ByteArray) : List Ex → List ByteArray
  | [] => out
  | e :: r => exVarsL (exVars out e) r
end
theorem addName_len (out : List ByteArray) (s : ByteArray) : (addName out s).length ≤ out.length + 1 := by
  unfold addName; split
  · omega
  · simp
theorem vars_len (n : Nat) : (∀ (e : Ex) (out : List ByteArray), exSize e ≤ n → (exVars out e).length ≤ out.length + exSize e) ∧ (∀ (l : List Ex) (out : List ByteArray), exSizes l ≤ n → (exVarsL out l).length ≤ out.length + exSizes l) := by
  induction n with
  | zero =>
    refine ⟨fun e out h => by have := exSize_pos e; omega, fun l out h => ?_⟩
    cases l with
    | nil => simp [exVarsL]
    | cons e r => rw [exSizes] at h; have := exSize_pos e; omega
  | succ n ih =>
    have hE : ∀ (e : Ex) (out : List ByteArray), exSize e ≤ n + 1 → (exVars out e).length ≤ out.length + exSize e := by
      intro e out h
      cases e with
      | mk k s l =>
        rw [exSize] at h ⊢
        rw [exVars]
        have h1 := ih.2 l (if k = 1 then addName out s else out) (by omega)
        have h2 := addName_len out s
        split at h1 <;> rename_i hk <;> simp only [hk, if_true, if_false] at * <;> omega
    refine ⟨hE, ?_⟩
    intro l
    induction l with
    | nil => intro out _; simp [exVarsL]
    | cons e r ihl =>
      intro out h
      rw [exSizes] at h ⊢
      rw [exVarsL]
      have h1 := hE e out (by omega)
      have h2 := ihl (exVars out e) (by omega)
      omega
theorem vars_step (o : List ByteArray) (l : List Ex) (k : Nat) (e : Ex) (h : l[k]? = some e) : exVarsL o (l.drop k) = exVarsL (exVars o e) (l.drop (k + 1)) := by
  have hk : k < l.length := (List.getElem?_eq_some_iff.1 h).1
  rw [List.drop_eq_getElem_cons hk, (List.getElem?_eq_some_iff.1 h).2, exVarsL]

/-- The blocks of an expression are there. -/
theorem ex_lt (n : Nat) : (∀ (e : Ex), exSize e ≤ n → ∀ (w : World) (g o : Nat) (bs : List Nat), ExAt w g o e bs → ∀ x ∈ bs, x < w.heap.size) ∧ (∀ (l : List Ex), exSizes l ≤ n → ∀ (w : World) (g o j : Nat) (bs : List Nat), ExsAt w g o j l bs → ∀ x ∈ bs, x < w.heap.size) := by
  induction n with
  | zero =>
    refine ⟨fun e h => by have := exSize_pos e; omega, fun l h => ?_⟩
    cases l with
    | nil => intro w g o j bs h1 x hx; rw [ExsAt] at h1; subst h1; cases hx
    | cons e r => rw [exSizes] at h; have := exSize_pos e; omega
  | succ n ih =>
    have hE : ∀ (e : Ex), exSize e ≤ n + 1 → ∀ (w : World) (g o : Nat) (bs : List Nat), ExAt w g o e bs → ∀ x ∈ bs, x < w.heap.size := by
      intro e he w g o bs h x hx
      cases e with
      | mk k s l =>
        rw [exSize] at he
        rw [ExAt] at h
        obtain ⟨-, -, -, A, c, -, -, -, h7⟩ := h
        rcases h7 with ⟨-, rfl⟩ | ⟨g', o', bs', rfl, hbl, rfl, h8⟩
        · cases hx
        · rcases List.mem_cons.1 hx with rfl | hx
          · exact hbl
          · exact ih.2 l (by omega) w g' o' 0 bs' h8 x hx
    refine ⟨hE, ?_⟩
    intro l
    induction l with
    | nil => intro _ w g o j bs h x hx; rw [ExsAt] at h; subst h; cases hx
    | cons e r ihl =>
      intro hl w g o j bs h x hx
      rw [exSizes] at hl
      have hp := exSize_pos e
      rw [ExsAt] at h
      obtain ⟨b1, b2, rfl, h1, h2⟩ := h
      rcases List.mem_append.1 hx with hx | hx
      · exact hE e (by omega) w g _ b1 h1 x hx
      · exact ihl (by omega) w g o (j + 1) b2 h2 x hx
theorem SlIs.blocks {w : World} {v : Value} {l : List Ex} {bs : List Nat} (h : SlIs w v l bs) : ∀ x ∈ bs, x < w.heap.size := by
  obtain ⟨A, c, -, -, -, h3⟩ := h
  intro x hx
  rcases h3 with ⟨-, rfl⟩ | ⟨g, o, bs', rfl, hb, rfl, h4⟩
  · cases hx
  · rcases List.mem_cons.1 hx with rfl | hx
    · exact hb
    · exact (ex_lt _).2 l (Nat.le_refl _) w g o 0 bs' h4 x hx

/-- A row of strings of one's own, grown. -/
structure VState (B : Nat) (w w' : World) (v v' : Value) (out : List ByteArray) : Prop where
  own : OwnsL B w' v' out
  grew : w.grownBy w' v.ownBlock
  lies : ∀ k, v'.ownBlock = some k → v.ownBlock = some k ∨ w.heap.size ≤ k
theorem VState.trans {B : Nat} {w w1 w2 : World} {v v1 v2 : Value} {o1 o2 : List ByteArray} (h : VState B w w1 v v1 o1) (k : VState B w1 w2 v1 v2 o2) : VState B w w2 v v2 o2 := by
  refine ⟨k.own, ⟨k.grew.os.trans h.grew.os, k.grew.tape.trans h.grew.tape, k.grew.output.trans h.grew.output, Nat.le_trans h.grew.size k.grew.size, fun i hi hne => ?_⟩, fun i hi => ?_⟩
  · refine (k.grew.block i (Nat.lt_of_lt_of_le hi h.grew.size) (fun e => ?_)).trans (h.grew.block i hi hne)
    rcases h.lies i e.symm with h1 | h1
    · exact hne h1.symm
    · omega
  · rcases k.lies i hi with h1 | h1
    · exact h.lies i h1
    · exact Or.inr (Nat.le_trans h.grew.size h1)
theorem VState.keeps {B : Nat} {w w' : World} {v v' : Value} {o : List ByteArray} {bs : List Nat} (h : VState B w w' v v' o) (hn : ∀ k, v.ownBlock = some k → k ∉ bs) : Keeps w w' bs :=
  ⟨h.grew.size, fun x hx hlt => h.grew.block x hlt (fun e => hn x e.symm hx)⟩
def VarsPost (B : Nat) (v : Value) (out : List ByteArray) (e : Ex) (w : World) (r : Ending) (w' : World) : Prop := ∃ v', r = .returned v' ∧ VState B w w' v v' (exVars out e)
theorem box_not {B : Nat} {w : World} {v : Value} {out : List ByteArray} (h : OwnsL B w v out) : v.ownBlock ≠ some w.heap.size := fun e => by
  have := (World.ownsRow.lt h _ e).2
  omega

theorem vars_app {B : Nat} {w w1 : World} {v v1 : Value} {out : List ByteArray} {S : ByteArray} {o : Obj} (h : VState B w (w.alloc o) v v out)
    (ho : ((w.alloc o).alloc (.cells #[.string S] 9)).ownsRow B 9 1 v out.length (out.map Value.string)) (ho1 : w1.ownsRow B 9 1 v1 (out.length + 1) (out.map Value.string ++ [Value.string S])) (hg1 : ((w.alloc o).alloc (.cells #[.string S] 9)).grownBy w1 v.ownBlock)
    (hat : v1.ownBlock = v.ownBlock ∨ v1.ownBlock = some ((w.alloc o).alloc (.cells #[.string S] 9)).heap.size) : VState B w w1 v v1 (out ++ [S]) := by
  refine h.trans (VState.trans (v1 := v) (o1 := out) ⟨ho, World.grownBy_alloc _ _ _, fun k hk => Or.inl hk⟩ ⟨OwnsL.next ho1, hg1, fun k hk => ?_⟩)
  rcases hat with e | e
  · exact Or.inl (e ▸ hk)
  · rw [e] at hk
    cases hk
    exact Or.inr (Nat.le_refl _)
theorem vars_new {w : World} {v v1 : Value} {S : ByteArray} {o : Obj} (hn : v.ownBlock ≠ some w.heap.size) (hat : v1.ownBlock = v.ownBlock ∨ v1.ownBlock = some ((w.alloc o).alloc (.cells #[.string S] 9)).heap.size) : v1.ownBlock ≠ some w.heap.size := by
  rcases hat with e | e
  · rw [e]; exact hn
  · rw [e]; simp; omega

set_option maxHeartbeats 4000000 in
theorem l3vars_any (n : Nat) : ∀ (e : Ex) (ve v : Value) (bs : List Nat) (out : List ByteArray) (B : Nat) (w : World), exSize e ≤ n → ExIs w ve e bs → OwnsL B w v out → B ≤ w.heap.size → (∀ k, v.ownBlock = some k → k ∉ bs) → out.length + exSize e ≤ 1099511627776 →
    Calls Try.prog 65 #[ve, v] w (VarsPost B v out e w) := by
  induction n with
  | zero => intro e ve v bs out B w h; have := exSize_pos e; omega
  | succ n ih =>
    intro e ve v bs out B w hle hv ho hB hno hlen
    obtain ⟨i0, hi, hz0, hz1, hz2⟩ := info_parts Try.info9u
    have HI := Lib.hid (And.intro hi (And.intro hz0 (And.intro hz1 hz2)))
    clear hi hz0 hz1 hz2
    obtain ⟨u, rfl, hsz, hu⟩ := hv
    obtain ⟨A, c, rfl, hc1, hc2, -⟩ := id hu
    have HU := Lib.hid hu
    have HBL := Lib.hid hu.blocks
    have HO := Lib.hid ho
    have HNO := Lib.hid hno
    have HBN := Lib.hid (box_not ho)
    obtain ⟨A2, c2, rfl, hso⟩ := ho.shape
    obtain ⟨K, hK⟩ : ∃ K, K = e.kind := ⟨_, rfl⟩
    obtain ⟨S, hS⟩ : ∃ S, S = e.name := ⟨_, rfl⟩
    obtain ⟨L, hL⟩ : ∃ L, L = e.args := ⟨_, rfl⟩
    obtain ⟨m, hm⟩ : ∃ m, m = L.length := ⟨_, rfl⟩
    have HE := Lib.hid (show exSize e = exSizes L + 1 by rw [hL]; cases e; rfl)
    have HF := Lib.hid (show exVars out e = exVarsL (if K = 1 then addName out S else out) L by rw [hL, hK, hS]; cases e; rfl)
    rw [← hK, ← hS, ← hL, ← hm]
    rw [← hS] at hsz
    rw [← hL, ← hm] at hc1 HU
    have HM := Lib.hid hm
    have HN := Lib.hid hle
    have HLEN := Lib.hid hlen
    have HIH := Lib.hid ih
    clear hu hK hS hL hm hle ih ho hno hlen
    have hc3 : (m : Int) ≤ 9223372036854775807 := by omega
    have hge := idx_ge out S
    have HJ := Lib.hid (fun (W : World) (hb : Below w.heap.size w W) => idx_any A2 out c2 S W (hso.below hb) (by have := HLEN.out; omega))
    have HB0 := Lib.hid ((Below.refl w.heap.size w).alloc (Nat.le_refl _) (.cells #[.int .i64 K, .string S, .slice A m c] 26))
    have HBX := Lib.hid (heap_alloc_new w (.cells #[.int .i64 K, .string S, .slice A m c] 26))
    have HS0 := Lib.hid (show VState B w (w.alloc (.cells #[.int .i64 K, .string S, .slice A m c] 26)) (.slice A2 out.length c2) (.slice A2 out.length c2) out from ⟨World.ownsRow.alloc HO.out _, World.grownBy_alloc w _ _, fun k hk => Or.inl hk⟩)
    clear hso
    by_cases h1 : K = 1
    · by_cases hr : 0 ≤ idx out S
      · have HF1 := Lib.hid (show (if K = 1 then addName out S else out) = out by rw [if_pos h1]; unfold addName; rw [if_pos hr])
        have HV1 := Lib.hid (show exVars out e = exVarsL out (L.drop 0) by rw [HF.out, HF1.out, List.drop_zero])
        have HL1 := Lib.hid (show out.length ≤ out.length + 1 + exSizes (L.take 0) by omega)
        have HS1 := HS0
        have HN1 := HBN
        have HX1 := HBX
        have hk1 : (K == 1) = true := by simpa using h1
        subst h1
        generalize idx out S = r at *
        go_enter Try.func65, Try.ntmps65
        go_wp2_with (go_at_call 108; refine (HJ.out _ HB0.out).mono ?_; rintro r w' ⟨rfl, rfl⟩)
        go_loopw [1, 5] (fun vv i wr => ∃ (k : Nat) (o : List ByteArray), k ≤ m ∧ i = .int .i64 (k : Int) ∧ Hid (VState B w wr (.slice A2 out.length c2) vv o) ∧ Hid (exVars out e = exVarsL o (L.drop k)) ∧ Hid (o.length ≤ out.length + 1 + exSizes (L.take k)) ∧ Hid (vv.ownBlock ≠ some w.heap.size) ∧ wr.heap[w.heap.size]? = some (.cells #[.int .i64 1, .string S, .slice A m c] 26 (0, 0))) (fun _ i _ => m - (intOf i).toNat)
        case atStart => exact ⟨0, _, Nat.zero_le _, rfl, HS1, HV1, HL1, HN1, HX1.out⟩
        case round =>
          clear HS1 HV1 HL1 HN1 HX1
          obtain ⟨k, o, hk, rfl, HS, HV, HL, HNE, hbox⟩ := hrel
          have hd2 : wr.cell? ⟨w.heap.size, 2, none⟩ = some (.slice A m c) := by simp [World.cell?, hbox]
          have hgo := HS.out.grew.size
          have hboxlt : w.heap.size < wr.heap.size := (Array.getElem?_eq_some_iff.1 hbox).1
          have HBOX := Lib.hid hbox
          clear hbox
          by_cases hlt : k < m
          · obtain ⟨g, q, e1, u, b1, rfl, hbl, hget, hmem, d1, d3, d4, his, hsub⟩ := (HU.out.keeps (HS.out.keeps HNO.out)).get k (by rw [← HM.out]; exact hlt)
            have HST := Lib.hid (vars_step o L k e1 hget)
            have HSN := Lib.hid (sizes_snoc L k e1 hget)
            have HTK := Lib.hid (sizes_take L (k + 1))
            have HVL := Lib.hid ((vars_len (exSize e1)).1 e1 o (Nat.le_refl _))
            obtain ⟨A3, c3, rfl, -⟩ := HS.out.own.shape
            have HCALL := Lib.hid (HIH.out e1 _ _ b1 o B wr (by have := HE.out; have := exSizes_mem hmem; have := HN.out; omega) his HS.out.own (Nat.le_trans hB hgo) (fun x hx hm2 => by
              have h1 := hsub x hm2
              rcases HS.out.lies x hx with h2 | h2
              · exact HNO.out x h2 h1
              · have := HBL.out x h1; omega) (by have := HL.out; have := HSN.out; have := HTK.out; have := HE.out; have := HLEN.out; omega))
            clear his hget hmem hsub
            go_wp2_with (go_at_call 65; refine HCALL.out.mono ?_; rintro r w2 ⟨v2, rfl, hst2⟩; have HST2 := Lib.hid hst2; clear hst2)
            go_roundw
            case rel =>
              refine ⟨k + 1, exVars o e1, by omega, by go_num, Lib.hid (HS.out.trans HST2.out), Lib.hid (HV.out.trans HST.out), Lib.hid (by have := HL.out; have := HSN.out; have := HVL.out; omega), Lib.hid (fun h => ?_), (HST2.out.grew.block _ hboxlt (fun h => HNE.out h.symm)).trans HBOX.out⟩
              rcases HST2.out.lies _ h with h1 | h1
              · exact HNE.out h1
              · omega
            case measure => simp [intOf]; omega
          · have HE2 := Lib.hid (show exVars out e = o by
              rw [HV.out, List.drop_eq_nil_of_le (by rw [← HM.out]; omega), exVarsL])
            go_wp2_with fail
            go_ret
            exact ⟨_, rfl, by rw [HE2.out]; exact HS.out⟩
      · have HF1 := Lib.hid (show (if K = 1 then addName out S else out) = out ++ [S] by rw [if_pos h1]; unfold addName; rw [if_neg hr])
        have C1 := Lib.hid (show out.length + 1 ≤ maxLen by have := HLEN.out; unfold maxLen; omega)
        have C2 := Lib.hid (show (out.length + 1) * 16 ≤ 140737488355328 by have := HLEN.out; omega)
        have HV1 := Lib.hid (show exVars out e = exVarsL (out ++ [S]) (L.drop 0) by rw [HF.out, HF1.out, List.drop_zero])
        have HL1 := Lib.hid (show (out ++ [S]).length ≤ out.length + 1 + exSizes (L.take 0) by rw [List.length_append]; simp)
        have H1C := Lib.hid (one_new (x := S))
        subst h1
        generalize idx out S = r at *
        go_enter Try.func65, Try.ntmps65
        have C4 := Lib.hid (show B ≤ ((w.alloc (.cells #[.int .i64 1, .string S, .slice A m c] 26)).alloc (.cells #[.string S] 9)).heap.size by simp; omega)
        have HO2 := Lib.hid (World.ownsRow.alloc HS0.out.own (.cells #[.string S] 9))
        have hnw := cell_new (W := w.alloc (.cells #[.int .i64 1, .string S, .slice A m c] 26)) (x := S)
        rw [show (w.alloc (.cells #[.int .i64 1, .string S, .slice A m c] 26)).heap.size = w.heap.size + 1 by simp] at hnw
        have HNW := Lib.hid hnw
        clear hnw
        go_wp2_with (first
          | (go_at_call 108; refine (HJ.out _ HB0.out).mono ?_; rintro r w' ⟨rfl, rfl⟩)
          | (at_builtin; (refine wpList_append_own_at _ rfl (.tmp 16) (.tmp 19) 31 rfl B 9 i0 (.string ⟨#[]⟩) 1 16 Try.underlying31 HI.out.1 HI.out.2.1 HI.out.2.2.1 HI.out.2.2.2 rfl (by decide) (.slice A2 out.length c2) _ _ rfl HO2.out ⟨w.heap.size + 1, 0, none⟩ 1 1 [.string S] rfl rfl HNW.out H1C.out C1.out C2.out C4.out ?_); intro v1 w1 ho1 hg1 _ hat1; have HA1 := Lib.hid (And.intro ho1 (And.intro hg1 hat1)); clear ho1 hg1 hat1))
        have HS1 := Lib.hid (vars_app HS0.out HO2.out HA1.out.1 HA1.out.2.1 HA1.out.2.2)
        have HN1 := Lib.hid (vars_new (w := w) (o := .cells #[.int .i64 1, .string S, .slice A m c] 26) HBN.out HA1.out.2.2)
        have HX1 := Lib.hid ((HA1.out.2.1.block w.heap.size (by simp; omega) (fun h => HBN.out h.symm)).trans ((Below.heap_alloc _ _ _ (by simp)).trans HBX.out))
        go_loopw [1, 5] (fun vv i wr => ∃ (k : Nat) (o : List ByteArray), k ≤ m ∧ i = .int .i64 (k : Int) ∧ Hid (VState B w wr (.slice A2 out.length c2) vv o) ∧ Hid (exVars out e = exVarsL o (L.drop k)) ∧ Hid (o.length ≤ out.length + 1 + exSizes (L.take k)) ∧ Hid (vv.ownBlock ≠ some w.heap.size) ∧ wr.heap[w.heap.size]? = some (.cells #[.int .i64 1, .string S, .slice A m c] 26 (0, 0))) (fun _ i _ => m - (intOf i).toNat)
        case atStart => exact ⟨0, _, Nat.zero_le _, rfl, HS1, HV1, HL1, HN1, HX1.out⟩
        case round =>
          clear HS1 HV1 HL1 HN1 HX1
          obtain ⟨k, o, hk, rfl, HS, HV, HL, HNE, hbox⟩ := hrel
          have hd2 : wr.cell? ⟨w.heap.size, 2, none⟩ = some (.slice A m c) := by simp [World.cell?, hbox]
          have hgo := HS.out.grew.size
          have hboxlt : w.heap.size < wr.heap.size := (Array.getElem?_eq_some_iff.1 hbox).1
          have HBOX := Lib.hid hbox
          clear hbox
          by_cases hlt : k < m
          · obtain ⟨g, q, e1, u, b1, rfl, hbl, hget, hmem, d1, d3, d4, his, hsub⟩ := (HU.out.keeps (HS.out.keeps HNO.out)).get k (by rw [← HM.out]; exact hlt)
            have HST := Lib.hid (vars_step o L k e1 hget)
            have HSN := Lib.hid (sizes_snoc L k e1 hget)
            have HTK := Lib.hid (sizes_take L (k + 1))
            have HVL := Lib.hid ((vars_len (exSize e1)).1 e1 o (Nat.le_refl _))
            obtain ⟨A3, c3, rfl, -⟩ := HS.out.own.shape
            have HCALL := Lib.hid (HIH.out e1 _ _ b1 o B wr (by have := HE.out; have := exSizes_mem hmem; have := HN.out; omega) his HS.out.own (Nat.le_trans hB hgo) (fun x hx hm2 => by
              have h1 := hsub x hm2
              rcases HS.out.lies x hx with h2 | h2
              · exact HNO.out x h2 h1
              · have := HBL.out x h1; omega) (by have := HL.out; have := HSN.out; have := HTK.out; have := HE.out; have := HLEN.out; omega))
            clear his hget hmem hsub
            go_wp2_with (go_at_call 65; refine HCALL.out.mono ?_; rintro r w2 ⟨v2, rfl, hst2⟩; have HST2 := Lib.hid hst2; clear hst2)
            go_roundw
            case rel =>
              refine ⟨k + 1, exVars o e1, by omega, by go_num, Lib.hid (HS.out.trans HST2.out), Lib.hid (HV.out.trans HST.out), Lib.hid (by have := HL.out; have := HSN.out; have := HVL.out; omega), Lib.hid (fun h => ?_), (HST2.out.grew.block _ hboxlt (fun h => HNE.out h.symm)).trans HBOX.out⟩
              rcases HST2.out.lies _ h with h1 | h1
              · exact HNE.out h1
              · omega
            case measure => simp [intOf]; omega
          · have HE2 := Lib.hid (show exVars out e = o by
              rw [HV.out, List.drop_eq_nil_of_le (by rw [← HM.out]; omega), exVarsL])
            go_wp2_with fail
            go_ret
            exact ⟨_, rfl, by rw [HE2.out]; exact HS.out⟩
    · have HF1 := Lib.hid (show (if K = 1 then addName out S else out) = out by rw [if_neg h1])
      have HV1 := Lib.hid (show exVars out e = exVarsL out (L.drop 0) by rw [HF.out, HF1.out, List.drop_zero])
      have HL1 := Lib.hid (show out.length ≤ out.length + 1 + exSizes (L.take 0) by omega)
      have HS1 := HS0
      have HN1 := HBN
      have HX1 := HBX
      have hk1 : (K == 1) = false := by simpa using h1
      clear h1
      go_enter Try.func65, Try.ntmps65
      go_wp2_with fail
      go_loopw [1, 5] (fun vv i wr => ∃ (k : Nat) (o : List ByteArray), k ≤ m ∧ i = .int .i64 (k : Int) ∧ Hid (VState B w wr (.slice A2 out.length c2) vv o) ∧ Hid (exVars out e = exVarsL o (L.drop k)) ∧ Hid (o.length ≤ out.length + 1 + exSizes (L.take k)) ∧ Hid (vv.ownBlock ≠ some w.heap.size) ∧ wr.heap[w.heap.size]? = some (.cells #[.int .i64 K, .string S, .slice A m c] 26 (0, 0))) (fun _ i _ => m - (intOf i).toNat)
      case atStart => exact ⟨0, _, Nat.zero_le _, rfl, HS1, HV1, HL1, HN1, HX1.out⟩
      case round =>
        clear HS1 HV1 HL1 HN1 HX1
        obtain ⟨k, o, hk, rfl, HS, HV, HL, HNE, hbox⟩ := hrel
        have hd2 : wr.cell? ⟨w.heap.size, 2, none⟩ = some (.slice A m c) := by simp [World.cell?, hbox]
        have hgo := HS.out.grew.size
        have hboxlt : w.heap.size < wr.heap.size := (Array.getElem?_eq_some_iff.1 hbox).1
        have HBOX := Lib.hid hbox
        clear hbox
        by_cases hlt : k < m
        · obtain ⟨g, q, e1, u, b1, rfl, hbl, hget, hmem, d1, d3, d4, his, hsub⟩ := (HU.out.keeps (HS.out.keeps HNO.out)).get k (by rw [← HM.out]; exact hlt)
          have HST := Lib.hid (vars_step o L k e1 hget)
          have HSN := Lib.hid (sizes_snoc L k e1 hget)
          have HTK := Lib.hid (sizes_take L (k + 1))
          have HVL := Lib.hid ((vars_len (exSize e1)).1 e1 o (Nat.le_refl _))
          obtain ⟨A3, c3, rfl, -⟩ := HS.out.own.shape
          have HCALL := Lib.hid (HIH.out e1 _ _ b1 o B wr (by have := HE.out; have := exSizes_mem hmem; have := HN.out; omega) his HS.out.own (Nat.le_trans hB hgo) (fun x hx hm2 => by
            have h1 := hsub x hm2
            rcases HS.out.lies x hx with h2 | h2
            · exact HNO.out x h2 h1
            · have := HBL.out x h1; omega) (by have := HL.out; have := HSN.out; have := HTK.out; have := HE.out; have := HLEN.out; omega))
          clear his hget hmem hsub
          go_wp2_with (go_at_call 65; refine HCALL.out.mono ?_; rintro r w2 ⟨v2, rfl, hst2⟩; have HST2 := Lib.hid hst2; clear hst2)
          go_roundw
          case rel =>
            refine ⟨k + 1, exVars o e1, by omega, by go_num, Lib.hid (HS.out.trans HST2.out), Lib.hid (HV.out.trans HST.out), Lib.hid (by have := HL.out; have := HSN.out; have := HVL.out; omega), Lib.hid (fun h => ?_), (HST2.out.grew.block _ hboxlt (fun h => HNE.out h.symm)).trans HBOX.out⟩
            rcases HST2.out.lies _ h with h1 | h1
            · exact HNE.out h1
            · omega
          case measure => simp [intOf]; omega
        · have HE2 := Lib.hid (show exVars out e = o by
            rw [HV.out, List.drop_eq_nil_of_le (by rw [← HM.out]; omega), exVarsL])
          go_wp2_with fail
          go_ret
          exact ⟨_, rfl, by rw [HE2.out]; exact HS.out⟩

def NamesPost (xs : List ByteArray) (w : World) (e : Ending) (w' : World) : Prop := ∃ v, e = .returned v ∧ OwnsL w.heap.size w' v xs ∧ Below w.heap.size w w'

set_option maxHeartbeats 1000000 in
theorem vars_any (e : Ex) (v : Value) (bs : List Nat) (w : World) (hv : ExIs w v e bs) (hb : exSize e ≤ 1099511627776) :
    Calls Try.prog 19 #[v] w (NamesPost (exVars [] e) w) := by
  have HV := Lib.hid hv
  have HBL := Lib.hid (show ∀ x ∈ bs, x < w.heap.size by obtain ⟨u, -, -, hu⟩ := hv; exact hu.blocks)
  have HSZ := Lib.hid hb
  obtain ⟨u, rfl, -, hu⟩ := hv
  obtain ⟨A, c, rfl, -⟩ := id hu
  clear hu hb
  go_enter Try.func19, Try.ntmps19
  have HB0 := Lib.hid (((Below.refl w.heap.size w).alloc (Nat.le_refl _) (.cells #[.int .i64 e.kind, .string e.name, .slice A e.args.length c] 26)).alloc (by simp) (.cells #[] 9))
  have ho := World.ownsRow_made (base := w.heap.size) (e := 9) (size := 1) (w.alloc (.cells #[.int .i64 e.kind, .string e.name, .slice A e.args.length c] 26)) #[] 0 (by simp) (Nat.zero_le _) rfl
  rw [show (w.alloc (.cells #[.int .i64 e.kind, .string e.name, .slice A e.args.length c] 26)).heap.size = w.heap.size + 1 by simp] at ho
  have HO := Lib.hid (show OwnsL w.heap.size _ (.slice (some ⟨w.heap.size + 1, 0, none⟩) 0 0) [] from ho)
  clear ho
  go_wp2_with fail
  go_at_call 65
  refine (l3vars_any (exSize e) e _ _ bs [] w.heap.size _ (Nat.le_refl _) (HV.out.below HB0.out) HO.out (by simp; omega) (fun k hk hm => by
    have h1 := HBL.out k hm
    simp [Value.ownBlock] at hk
    omega) (by have := HSZ.out; simp; omega)).mono ?_
  rintro r w1 ⟨v1, rfl, hs1⟩
  have HS1 := Lib.hid hs1
  clear hs1
  go_wp2_with fail
  go_ret
  exact ⟨_, rfl, HS1.out.own, HB0.out.grown HS1.out.grew (by simp; omega) (fun k hk => by simp [Value.ownBlock] at hk; omega)⟩
end Go.Proofs.Ytmndlhbgacgnlaa

namespace Go.Proofs.Ytmndlhbgacgnlaa
open Go Go.RowKit

def sameAs (l : List Ru) (r : Ru) : Bool := match l.find? (named r.name) with
  | none => false
  | some f => (decide (f.con.size = 0) == decide (r.con.size = 0)) && (decide (f.params.length = r.params.length) && (decide (r.con.size = 0) || decide (conR r.con l = (r.vars.length : Int))))
def ruleOk (l : List Ru) (k : Nat) (r : Ru) : Bool := headOk r && (exFor l r.body && (within (exVars [] r.body) (r.vars ++ r.params) && (decide (findR l r.name r.con = (k : Int)) && sameAs l r)))
def rulesOk (l : List Ru) : Nat → List Ru → Bool
  | _, [] => true
  | k, r :: t => ruleOk l k r && rulesOk l (k + 1) t
def validR (l : List Ru) : Bool := rulesOk l 0 l && decide (l.length ≤ 24)
theorem rulesOk_here {l t : List Ru} {k j : Nat} {r : Ru} (h : t[k]? = some r) : rulesOk l j (t.drop k) = (ruleOk l j r && rulesOk l (j + 1) (t.drop (k + 1))) := by
  obtain ⟨h1, h2⟩ := List.getElem?_eq_some_iff.1 h
  rw [List.drop_eq_getElem_cons h1, h2, rulesOk]
theorem rulesOk_iff (l : List Ru) : ∀ (t : List Ru) (k : Nat), rulesOk l k t = true ↔ ∀ (j : Nat) (r : Ru), t[j]? = some r → ruleOk l (k + j) r = true := by
  intro t
  induction t with
  | nil => intro k; simp [rulesOk]
  | cons x t ih =>
    intro k
    rw [rulesOk, Bool.and_eq_true, ih]
    constructor
    · rintro ⟨h1, h2⟩ j r hj
      cases j with
      | zero => simp at hj; subst hj; exact h1
      | succ j => have := h2 j r (by simpa using hj); rw [show k + (j + 1) = k + 1 + j by omega]; exact this
    · intro h
      exact ⟨h 0 x rfl, fun j r hj => by rw [show k + 1 + j = k + (j + 1) by omega]; exact h (j + 1) r (by simpa using hj)⟩

def rightArgs (r : Ru) : Bool := (isCn r.con || (decide (r.con.size = 0) && decide (r.vars.length = 0))) && (decide (r.vars.length ≤ 5) && (decide (r.params.length ≤ 4) && (allNm (r.vars ++ r.params) && distinct (r.vars ++ r.params))))
def rightParts (r : Ru) : Bool := isNm r.name && (rightArgs r && exValid r.body)
def aloneOk (r : Ru) : Bool := rightParts r && within (exVars [] r.body) (r.vars ++ r.params)
def metOk (l : List Ru) (r : Ru) : Bool := sameAs l r && fitE l r.body r.body
def keyR (r : Ru) : ByteArray × ByteArray := (r.name, r.con)
theorem isCn_empty {s : ByteArray} (h : s.size = 0) : isCn s = false := by
  have : s.data.toList = [] := by
    apply List.eq_nil_of_length_eq_zero
    rw [Array.length_toList]; exact h
  unfold isCn
  rw [this]; rfl
theorem args_head (r : Ru) : (isNm r.name && rightArgs r) = headOk r := by
  unfold rightArgs headOk
  by_cases h : r.con.size = 0
  · rw [if_pos h, isCn_empty h, decide_eq_true h]
    generalize isNm r.name = a
    generalize distinct (r.vars ++ r.params) = b
    generalize allNm (r.vars ++ r.params) = c
    generalize decide (r.vars.length ≤ 5) = d
    generalize decide (r.params.length ≤ 4) = e
    generalize decide (r.vars.length = 0) = f
    cases a <;> cases b <;> cases c <;> cases d <;> cases e <;> cases f <;> rfl
  · rw [if_neg h, decide_eq_false h]
    generalize isNm r.name = a
    generalize distinct (r.vars ++ r.params) = b
    generalize allNm (r.vars ++ r.params) = c
    generalize decide (r.vars.length ≤ 5) = d
    generalize decide (r.params.length ≤ 4) = e
    generalize isCn r.con = f
    cases a <;> cases b <;> cases c <;> cases d <;> cases e <;> cases f <;> simp
theorem parts_head (r : Ru) : rightParts r = (headOk r && exValid r.body) := by
  unfold rightParts; rw [← args_head, Bool.and_assoc]
theorem find_key (l : List Ru) {j : Nat} {r : Ru} (h : l[j]? = some r) : ∃ (i : Nat) (r2 : Ru), findR l r.name r.con = (i : Int) ∧ l[i]? = some r2 ∧ keyR r2 = keyR r := by
  rcases ruIdx_spec (namedC r.name r.con) l 0 with ⟨-, h2⟩ | ⟨i, r2, h1, h2, -, h4⟩
  · rw [List.find?_eq_none] at h2
    exact absurd (by simp [namedC]) (h2 r (List.mem_of_getElem? h))
  · refine ⟨i, r2, by unfold findR; rw [h1]; simp, h2, ?_⟩
    simp [namedC] at h4
    simp [keyR, h4]
theorem keys_iff (l : List Ru) : (∀ (j : Nat) (r : Ru), l[j]? = some r → findR l r.name r.con = (j : Int)) ↔ (l.map keyR).Nodup := by
  show _ ↔ (l.map keyR).Pairwise (· ≠ ·)
  rw [List.pairwise_iff_getElem]
  constructor
  · intro h i j hi hj hij e
    rw [List.length_map] at hi hj
    rw [List.getElem_map, List.getElem_map] at e
    simp only [keyR, Prod.mk.injEq] at e
    have h1 := h i _ (List.getElem?_eq_getElem hi)
    have h2 := h j _ (List.getElem?_eq_getElem hj)
    rw [e.1, e.2, h2] at h1
    omega
  · intro h j r hj
    obtain ⟨i, r2, h1, h2, h3⟩ := find_key l hj
    obtain ⟨hi, ei⟩ := List.getElem?_eq_some_iff.1 h2
    obtain ⟨hj1, ej⟩ := List.getElem?_eq_some_iff.1 hj
    rcases Nat.lt_trichotomy i j with hlt | rfl | hlt
    · exact absurd (by rw [List.getElem_map, List.getElem_map, ei, ej, h3]) (h i j (by simpa using hi) (by simpa using hj1) hlt)
    · exact h1
    · exact absurd (by rw [List.getElem_map, List.getElem_map, ei, ej, h3]) (h j i (by simpa using hj1) (by simpa using hi) hlt)
/-- What the program asks, in its turns. -/
def validO (l : List Ru) : Bool := decide (l.length ≤ 24) && (l.all aloneOk && (decide ((l.map keyR).Nodup) && l.all (metOk l)))
theorem valid_eq (l : List Ru) : validR l = validO l := by
  rw [Bool.eq_iff_iff]
  unfold validR validO
  simp only [Bool.and_eq_true, decide_eq_true_eq, List.all_eq_true, rulesOk_iff, Nat.zero_add, ← keys_iff]
  have hal : ∀ r, aloneOk r = (headOk r && (exValid r.body && within (exVars [] r.body) (r.vars ++ r.params))) := fun r => by unfold aloneOk; rw [parts_head, Bool.and_assoc]
  constructor
  · rintro ⟨h1, h2⟩
    have h3 : ∀ (j : Nat) (r : Ru), l[j]? = some r → aloneOk r = true ∧ findR l r.name r.con = (j : Int) ∧ metOk l r = true := by
      intro j r hj
      have h4 := h1 j r hj
      unfold ruleOk exFor at h4
      simp only [Bool.and_eq_true, decide_eq_true_eq] at h4
      obtain ⟨a, ⟨b, c⟩, d, e, f⟩ := h4
      refine ⟨by rw [hal, a, b, d]; rfl, e, by unfold metOk; rw [f, c]; rfl⟩
    refine ⟨h2, fun r hr => ?_, fun j r hj => (h3 j r hj).2.1, fun r hr => ?_⟩
    · obtain ⟨j, hj⟩ := List.getElem?_of_mem hr
      exact (h3 j r hj).1
    · obtain ⟨j, hj⟩ := List.getElem?_of_mem hr
      exact (h3 j r hj).2.2
  · rintro ⟨h2, h3, h4, h5⟩
    refine ⟨fun j r hj => ?_, h2⟩
    have hm := List.mem_of_getElem? hj
    have a := h3 r hm
    have b := h5 r hm
    rw [hal] at a
    unfold metOk at b
    simp only [Bool.and_eq_true] at a b
    unfold ruleOk exFor
    rw [a.1, a.2.1, a.2.2, b.1, b.2, h4 j r hj]
    simp
end Go.Proofs.Ytmndlhbgacgnlaa

namespace Go.Proofs.Ytmndlhbgacgnlaa
open Go Go.RowKit Go.Sort

theorem fin_new {W w5 : World} {x0 x1 x2 x3 x4 x5 x6 : Value} (hb : Below W.heap.size W w5) : (w5.alloc (.cells #[x0, x1, x2, x3, x4, x5, x6] 110)).cell? ⟨w5.heap.size, 1, none⟩ = some x1 ∧ (w5.alloc (.cells #[x0, x1, x2, x3, x4, x5, x6] 110)).cell? ⟨w5.heap.size, 3, none⟩ = some x3 ∧ Below W.heap.size W (w5.alloc (.cells #[x0, x1, x2, x3, x4, x5, x6] 110)) := by
  have h := World.alloc_heap_new w5 (.cells #[x0, x1, x2, x3, x4, x5, x6] 110)
  exact ⟨by rw [World.cell?, h]; rfl, by rw [World.cell?, h]; rfl, hb.alloc hb.size _⟩
theorem fin_old {W w5 : World} {fb : Nat} {x0 x1 x2 x3 x4 x5 x6 u1 u3 : Value} (p1 : w5.cell? ⟨fb, 1, none⟩ = some u1) (p3 : w5.cell? ⟨fb, 3, none⟩ = some u3) (hl : W.heap.size ≤ fb) (hb : Below W.heap.size W w5) :
    (((((((w5.setCell ⟨fb, 0, none⟩ x0).setCell ⟨fb, 1, none⟩ x1).setCell ⟨fb, 2, none⟩ x2).setCell ⟨fb, 3, none⟩ x3).setCell ⟨fb, 4, none⟩ x4).setCell ⟨fb, 5, none⟩ x5).setCell ⟨fb, 6, none⟩ x6).cell? ⟨fb, 1, none⟩ = some x1 ∧
    (((((((w5.setCell ⟨fb, 0, none⟩ x0).setCell ⟨fb, 1, none⟩ x1).setCell ⟨fb, 2, none⟩ x2).setCell ⟨fb, 3, none⟩ x3).setCell ⟨fb, 4, none⟩ x4).setCell ⟨fb, 5, none⟩ x5).setCell ⟨fb, 6, none⟩ x6).cell? ⟨fb, 3, none⟩ = some x3 ∧
    Below W.heap.size W (((((((w5.setCell ⟨fb, 0, none⟩ x0).setCell ⟨fb, 1, none⟩ x1).setCell ⟨fb, 2, none⟩ x2).setCell ⟨fb, 3, none⟩ x3).setCell ⟨fb, 4, none⟩ x4).setCell ⟨fb, 5, none⟩ x5).setCell ⟨fb, 6, none⟩ x6) := by
  have ne : ∀ {W : World} {i j : Nat} {u : Value}, i ≠ j → (W.setCell ⟨fb, i, none⟩ u).cell? ⟨fb, j, none⟩ = W.cell? ⟨fb, j, none⟩ := fun {W i j u} h => World.cell?_setCell_other _ _ _ _ (by first | (simp; done) | (simp; exact h))
  refine ⟨?_, ?_, ?_⟩
  · rw [ne (by decide), ne (by decide), ne (by decide), ne (by decide), ne (by decide)]
    exact World.cell?_setCell_same _ _ _ (by rw [ne (by decide)]; exact p1)
  · rw [ne (by decide), ne (by decide), ne (by decide)]
    exact World.cell?_setCell_same _ _ _ (by rw [ne (by decide), ne (by decide), ne (by decide)]; exact p3)
  · exact ((((((hb.setCell (p := ⟨fb, 0, none⟩) hl x0).setCell (p := ⟨fb, 1, none⟩) hl x1).setCell (p := ⟨fb, 2, none⟩) hl x2).setCell (p := ⟨fb, 3, none⟩) hl x3).setCell (p := ⟨fb, 4, none⟩) hl x4).setCell (p := ⟨fb, 5, none⟩) hl x5).setCell (p := ⟨fb, 6, none⟩) hl x6
theorem zero_box {w4 w5 : World} (hb : Below ((w4.alloc (.cells #[.string ⟨#[]⟩, .string ⟨#[]⟩, .slice none 0 0, .slice none 0 0, .int .i64 0, .string ⟨#[]⟩, .slice none 0 0] 110)).drew).heap.size (w4.alloc (.cells #[.string ⟨#[]⟩, .string ⟨#[]⟩, .slice none 0 0, .slice none 0 0, .int .i64 0, .string ⟨#[]⟩, .slice none 0 0] 110)).drew w5) :
    w5.cell? ⟨w4.heap.size, 0, none⟩ = some (.string ⟨#[]⟩) ∧ w5.cell? ⟨w4.heap.size, 1, none⟩ = some (.string ⟨#[]⟩) ∧ w5.cell? ⟨w4.heap.size, 2, none⟩ = some (.slice none 0 0) ∧ w5.cell? ⟨w4.heap.size, 3, none⟩ = some (.slice none 0 0) ∧ w5.cell? ⟨w4.heap.size, 4, none⟩ = some (.int .i64 0) ∧ w5.cell? ⟨w4.heap.size, 5, none⟩ = some (.string ⟨#[]⟩) ∧ w5.cell? ⟨w4.heap.size, 6, none⟩ = some (.slice none 0 0) ∧
    w5.frozen? ⟨w4.heap.size, 0, none⟩ = false ∧ w5.frozen? ⟨w4.heap.size, 1, none⟩ = false ∧ w5.frozen? ⟨w4.heap.size, 2, none⟩ = false ∧ w5.frozen? ⟨w4.heap.size, 3, none⟩ = false ∧ w5.frozen? ⟨w4.heap.size, 4, none⟩ = false ∧ w5.frozen? ⟨w4.heap.size, 5, none⟩ = false ∧ w5.frozen? ⟨w4.heap.size, 6, none⟩ = false ∧ w4.heap.size < w5.heap.size := by
  have h : w5.heap[w4.heap.size]? = some (.cells #[.string ⟨#[]⟩, .string ⟨#[]⟩, .slice none 0 0, .slice none 0 0, .int .i64 0, .string ⟨#[]⟩, .slice none 0 0] 110 (0, 0)) := (hb.block _ (by show w4.heap.size < (w4.alloc _).heap.size; simp)).trans (World.alloc_heap_new w4 _)
  refine ⟨?_, ?_, ?_, ?_, ?_, ?_, ?_, ?_, ?_, ?_, ?_, ?_, ?_, ?_, (Array.getElem?_eq_some_iff.1 h).1⟩ <;> simp [World.cell?, World.frozen?, h]
set_option maxRecDepth 100000 in
set_option maxHeartbeats 40000000 in
theorem rule_any (l : List Ru) (k : Nat) (r0 : Ru) (v : Value) (bs : List Nat) (w : World) (hv : PrIs w v l bs) (hk : l[k]? = some r0) (hz : rusTot l ≤ 1048576) :
    Calls Try.prog 86 #[v, .int .i64 (k : Int)] w (RetPost (.bool (ruleOk l k r0)) w) := by
  have HV := Lib.hid hv
  obtain ⟨u, rfl, hu⟩ := id hv
  obtain ⟨A, c, rfl, hc1, hc2, -⟩ := id hu
  have hkl : k < l.length := (List.getElem?_eq_some_iff.1 hk).1
  obtain ⟨m, hm⟩ : ∃ m, m = l.length := ⟨_, rfl⟩
  obtain ⟨g, o, r, w1, w2, w3, b, hA⟩ := hu.get k hkl
  obtain rfl := hA.eq
  have hgr := hA.get
  rw [hk] at hgr
  obtain rfl := Option.some.inj hgr
  have HZR := Lib.hid (show ruTot r0 ≤ 1048576 by have := rusTot_mem hA.mem; omega)
  rw [← hm] at HV hc1 ⊢
  have hkm : k < m := by omega
  have hll : (m : Int) ≤ 1048576 := by have := rusTot_ge l; omega
  obtain ⟨x0, x1, x2, x3, x4, x5, x6⟩ := hA.cells
  have hgl := hA.lt
  have his := hA.is
  have HIS := Lib.hid hA.is
  have HMEM := Lib.hid hA.mem
  have HU := Lib.hid hu
  obtain ⟨b1, b2, b3, -, -, -, h3, h4, h5⟩ := his.parts
  obtain ⟨A1, c1, rfl⟩ := h3.slice
  obtain ⟨A2, c2, rfl⟩ := h4.slice
  obtain ⟨A3, q3, c3, rfl⟩ := his_slice0 h5
  obtain ⟨-, -, -, hs1, -⟩ := h3.strs
  obtain ⟨-, -, -, hs2, -⟩ := h4.strs
  have HBODY := Lib.hid h5
  have hl : r0.vars.length ≤ 1048576 ∧ r0.params.length ≤ 1048576 := by have := HZR.out; unfold ruTot ssTot at this; omega
  have HM := Lib.hid hm
  have HZ := Lib.hid hz
  have hk0 : (0 : Int) ≤ (k : Int) := by omega
  have hki : (k : Int) < (m : Int) := by omega
  clear hA hu hv hm his h3 h4 h5 hkl
  go_enter Try.func86, Try.ntmps86
  go_wp2_with fail
  obtain ⟨Wp, hWp⟩ : ∃ Wp, Wp = w.alloc (.cells #[.slice (some ⟨g, o, none⟩) m c] 53) := ⟨_, rfl⟩
  obtain ⟨W0, hW0⟩ : ∃ W0, W0 = Wp.alloc (.cells #[.string r0.name, .string r0.con, .slice A1 r0.vars.length c1, .slice A2 r0.params.length c2, .int .i64 r0.body.kind, .string r0.body.name, .slice A3 q3 c3] 110) := ⟨_, rfl⟩
  rw [← hWp, ← hW0]
  have hsp : Wp.heap.size = w.heap.size + 1 := by rw [hWp]; simp
  have hbx : W0.heap[w.heap.size + 1]? = some (.cells #[.string r0.name, .string r0.con, .slice A1 r0.vars.length c1, .slice A2 r0.params.length c2, .int .i64 r0.body.kind, .string r0.body.name, .slice A3 q3 c3] 110 (0, 0)) := by rw [hW0, ← hsp]; exact World.alloc_heap_new Wp _
  have hpx : W0.heap[w.heap.size]? = some (.cells #[.slice (some ⟨g, o, none⟩) m c] 53 (0, 0)) := by rw [hW0]; exact (Below.heap_alloc _ _ _ (by omega)).trans (by rw [hWp]; exact World.alloc_heap_new w _)
  have y2 : W0.cell? ⟨w.heap.size + 1, 2, none⟩ = some (.slice A1 r0.vars.length c1) := by simp [World.cell?, hbx]
  have y3 : W0.cell? ⟨w.heap.size + 1, 3, none⟩ = some (.slice A2 r0.params.length c2) := by simp [World.cell?, hbx]
  have xl : w.heap.size + 1 < W0.heap.size := (Array.getElem?_eq_some_iff.1 hbx).1
  have hlow : Below w.heap.size w W0 := by rw [hW0, hWp]; exact ((Below.refl _ w).alloc (Nat.le_refl _) _).alloc (by simp) _
  have HLW := Lib.hid hlow
  have HBX := Lib.hid hbx
  have HPX := Lib.hid hpx
  have HX3 := Lib.hid y3
  have HXL := Lib.hid xl
  have HL := Lib.hid hl
  have HO0 := Lib.hid (owns_empty W0)
  have HB0 := Lib.hid (((Below.refl W0.heap.size W0).alloc (Nat.le_refl _) (.cells #[] 9)).drew)
  have HS1 := Lib.hid (fun (Y : World) (hY : Below W0.heap.size W0 Y) => (hs1.below hlow).below hY)
  have HS2 := Lib.hid (fun (Y : World) (hY : Below W0.heap.size W0 Y) => (hs2.below hlow).below hY)
  clear hW0 hWp hsp hbx hpx hlow hl hs1 hs2 hz x0 x1 x2 x3 x4 x5 x6
  refine cut_region (fun a W => ∃ v7 v8, a = { tmps := #[.agg #[.slice (some ⟨g, o, none⟩) m c], .int .i64 (k : Int), .pointer (some ⟨w.heap.size, 0, none⟩), undef, .bool false, .pointer (some ⟨w.heap.size + 1, 0, none⟩), v8, undef, .pointer (some ⟨w.heap.size, 0, none⟩), .slice (some ⟨g, o, none⟩) m c, .int .i64 (k : Int), .pointer (some ⟨g, o + k * 7, none⟩), .agg #[.string r0.name, .string r0.con, .slice A1 r0.vars.length c1, .slice A2 r0.params.length c2, .int .i64 r0.body.kind, .string r0.body.name, .slice A3 q3 c3], .slice (some ⟨W0.heap.size, 0, none⟩) 0 0, .pointer (some ⟨w.heap.size + 1, 2, none⟩), .slice A1 r0.vars.length c1, v7, .pointer (some ⟨w.heap.size + 1, 3, none⟩), .slice A2 r0.params.length c2, v8, undef, undef, undef, undef, undef, undef, undef, undef, undef, undef, undef, undef, undef, undef, undef, undef, undef, undef, undef, undef, undef, undef, undef, undef, undef, undef, undef, undef, undef, undef, undef, undef, undef, undef, undef, undef, undef, undef, undef, undef, undef, undef, undef, undef, undef, undef, undef, undef, undef, undef, undef, undef, undef, undef, undef, undef, undef, undef, undef, undef, undef, undef, undef, undef, undef, undef, undef], defers := [] } ∧ OwnsL W0.heap.size W v8 (r0.vars ++ r0.params) ∧ Below W0.heap.size W0 W) ?_ ?_
  · go_region_law
      (first
      | (refine step_append_strs (by rfl) (.tmp 13) (.tmp 15) (by rfl) W0.heap.size (.slice (some ⟨W0.heap.size, 0, none⟩) 0 0) [] (by rfl) HO0.out A1 r0.vars c1 (by rfl) (HS1.out _ HB0.out) (by have := HL.out; simp; omega) HB0.out.size ?_; intro v7 w7 ho7 hg7; have y3 := old_cell HB0.out HO0.out hg7 HXL.out HX3.out; have HB7 := Lib.hid (OwnsL.grown HB0.out HO0.out hg7); have HO7 := Lib.hid ho7; clear ho7 hg7)
      | (refine step_append_strs (by rfl) (.tmp 16) (.tmp 18) (by rfl) W0.heap.size v7 ([] ++ r0.vars) (by rfl) HO7.out A2 r0.params c2 (by rfl) (HS2.out _ HB7.out) (by have := HL.out; simp; omega) HB7.out.size ?_; intro v8 w8 ho8 hg8; have HB8 := Lib.hid (OwnsL.grown HB7.out HO7.out hg8); have HO8 := Lib.hid ho8; clear ho8 hg8))
    all_goals
      exact ⟨v7, v8, rfl, HO8.out, HB8.out⟩
  · rintro _ W ⟨v7, v8, rfl, ho, hb⟩
    have hbw : W.heap[w.heap.size + 1]? = some (.cells #[.string r0.name, .string r0.con, .slice A1 r0.vars.length c1, .slice A2 r0.params.length c2, .int .i64 r0.body.kind, .string r0.body.name, .slice A3 q3 c3] 110 (0, 0)) := (hb.block _ HXL.out).trans HBX.out
    have hpw : W.heap[w.heap.size]? = some (.cells #[.slice (some ⟨g, o, none⟩) m c] 53 (0, 0)) := (hb.block _ (by have := HXL.out; omega)).trans HPX.out
    have HCL := Lib.hid (fun (Y : World) (hY : Below W.heap.size W Y) => show Y.cell? ⟨w.heap.size, 0, none⟩ = some (.slice (some ⟨g, o, none⟩) m c) ∧ Y.cell? ⟨w.heap.size + 1, 0, none⟩ = some (.string r0.name) ∧ Y.cell? ⟨w.heap.size + 1, 1, none⟩ = some (.string r0.con) ∧ Y.cell? ⟨w.heap.size + 1, 2, none⟩ = some (.slice A1 r0.vars.length c1) ∧ Y.cell? ⟨w.heap.size + 1, 3, none⟩ = some (.slice A2 r0.params.length c2) ∧ Y.cell? ⟨w.heap.size + 1, 4, none⟩ = some (.int .i64 r0.body.kind) ∧ Y.cell? ⟨w.heap.size + 1, 5, none⟩ = some (.string r0.body.name) ∧ Y.cell? ⟨w.heap.size + 1, 6, none⟩ = some (.slice A3 q3 c3) from by
      have h1 : Y.heap[w.heap.size + 1]? = _ := (hY.block _ (Array.getElem?_eq_some_iff.1 hbw).1).trans hbw
      have h2 : Y.heap[w.heap.size]? = _ := (hY.block _ (Array.getElem?_eq_some_iff.1 hpw).1).trans hpw
      exact ⟨by simp [World.cell?, h2], by simp [World.cell?, h1], by simp [World.cell?, h1], by simp [World.cell?, h1], by simp [World.cell?, h1], by simp [World.cell?, h1], by simp [World.cell?, h1], by simp [World.cell?, h1]⟩)
    obtain ⟨A8, c8, rfl, hst⟩ := ho.shape
    have hly : (r0.vars ++ r0.params).length ≤ 1099511627776 := by have := HL.out; simp; omega
    have HWW := Lib.hid (HLW.out.trans (hb.mono HLW.out.size))
    have HHEAD := Lib.hid (head_any r0 _ b W (HIS.out.below HWW.out) HZR.out)
    have hlt := HZR.out
    have HFOR := Lib.hid (fun (Y : World) (hY : Below W.heap.size W Y) => exfor_any l r0.body _ _ bs b3 Y (HV.out.below (HWW.out.trans (hY.mono HWW.out.size))) (HBODY.out.below (HWW.out.trans (hY.mono HWW.out.size))) HZ.out (by unfold ruTot at hlt; omega))
    have HVARS := Lib.hid (fun (Y : World) (hY : Below W.heap.size W Y) => vars_any r0.body _ b3 Y (HBODY.out.below (HWW.out.trans (hY.mono HWW.out.size))) (by have := (tot_size _).1 r0.body (Nat.le_refl _); unfold ruTot at hlt; omega))
    have HFIND := Lib.hid (fun (Y : World) (hY : Below W.heap.size W Y) => find_any l _ bs r0.name r0.con Y (HV.out.below (HWW.out.trans (hY.mono HWW.out.size))) (by have := HM.out; omega))
    have hvl := (vars_len _).1 r0.body [] (Nat.le_refl _)
    have HWITH := Lib.hid (fun (Y : World) (hY : Below W.heap.size W Y) (B : Option Addr) (cap : Nat) (hS : Strs Y B (exVars [] r0.body)) => within_any B A8 (exVars [] r0.body) (r0.vars ++ r0.params) cap c8 Y hS (hst.below hY) (by have := (tot_size _).1 r0.body (Nat.le_refl _); unfold ruTot at hlt; simp at hvl; omega) hly)
    have HR := Lib.hid (show ruleOk l k r0 = (headOk r0 && (exFor l r0.body && (within (exVars [] r0.body) (r0.vars ++ r0.params) && (decide (findR l r0.name r0.con = (k : Int)) && sameAs l r0)))) from rfl)
    obtain ⟨y0, y1, y2, y3, y4, y5, y6, y7⟩ := HCL.out W (Below.refl _ _)
    generalize hys : (r0.vars ++ r0.params).length = my at *
    clear hb hbw hpw hst hly hlt hvl ho hys
    cases hh : headOk r0
    · have HHD := Lib.hid hh
      have HE := Lib.hid (show ruleOk l k r0 = false by rw [HR.out, hh]; simp)
      clear hh
      go_wp2_with (first | (go_at_call 133; refine HHEAD.out.mono ?_; rintro e w1 ⟨rfl, hb1⟩; rw [HHD.out]; have HB1 := Lib.hid hb1; clear hb1; obtain ⟨a0, a1, a2, a3, a4, a5, a6, a7⟩ := HCL.out w1 HB1.out))
      go_ret
      exact ⟨by rw [HE.out]; rfl, HWW.out.trans (HB1.out.mono HWW.out.size)⟩
    · have HHD := Lib.hid hh
      cases hf : exFor l r0.body
      · have HFO := Lib.hid hf
        have HE := Lib.hid (show ruleOk l k r0 = false by rw [HR.out, hh, hf]; simp)
        clear hh hf
        go_wp2_with (first | (go_at_call 133; refine HHEAD.out.mono ?_; rintro e w1 ⟨rfl, hb1⟩; rw [HHD.out]; have HB1 := Lib.hid hb1; clear hb1; obtain ⟨a0, a1, a2, a3, a4, a5, a6, a7⟩ := HCL.out w1 HB1.out) | (go_at_call 42; refine (HFOR.out w1 HB1.out).mono ?_; rintro e w2 ⟨rfl, hb2⟩; rw [HFO.out]; have HB2 := Lib.hid (HB1.out.trans (hb2.mono HB1.out.size)); clear hb2; obtain ⟨d0, d1, d2, d3, d4, d5, d6, d7⟩ := HCL.out w2 HB2.out))
        go_ret
        exact ⟨by rw [HE.out]; rfl, HWW.out.trans (HB2.out.mono HWW.out.size)⟩
      · have HFO := Lib.hid hf
        cases hw : within (exVars [] r0.body) (r0.vars ++ r0.params)
        · have HWI := Lib.hid hw
          have HE := Lib.hid (show ruleOk l k r0 = false by rw [HR.out, hh, hf, hw]; simp)
          clear hh hf hw
          go_wp2_with (first | (go_at_call 133; refine HHEAD.out.mono ?_; rintro e w1 ⟨rfl, hb1⟩; rw [HHD.out]; have HB1 := Lib.hid hb1; clear hb1; obtain ⟨a0, a1, a2, a3, a4, a5, a6, a7⟩ := HCL.out w1 HB1.out) | (go_at_call 42; refine (HFOR.out w1 HB1.out).mono ?_; rintro e w2 ⟨rfl, hb2⟩; rw [HFO.out]; have HB2 := Lib.hid (HB1.out.trans (hb2.mono HB1.out.size)); clear hb2; obtain ⟨d0, d1, d2, d3, d4, d5, d6, d7⟩ := HCL.out w2 HB2.out) | (go_at_call 19; refine (HVARS.out w2 HB2.out).mono ?_; rintro e w3 ⟨vv, rfl, hov, hb3⟩; obtain ⟨AV, cv, rfl, hsv⟩ := hov.shape; have HB3 := Lib.hid (HB2.out.trans (hb3.mono HB2.out.size)); have HSV := Lib.hid hsv; clear hb3 hov hsv; obtain ⟨e0, e1, e2, e3, e4, e5, e6, e7⟩ := HCL.out w3 HB3.out) | (go_at_call 134; refine (HWITH.out w3 HB3.out AV cv HSV.out).mono ?_; rintro e w3b ⟨rfl, rfl⟩; rw [HWI.out]))
          go_ret
          exact ⟨by rw [HE.out]; rfl, HWW.out.trans (HB3.out.mono HWW.out.size)⟩
        · have HWI := Lib.hid hw
          by_cases hfi : findR l r0.name r0.con = (k : Int)
          · have HE := Lib.hid (show ruleOk l k r0 = sameAs l r0 by rw [HR.out, hh, hf, hw, decide_eq_true hfi]; simp)
            rw [hfi] at HFIND
            clear hh hf hw hfi
            go_wp2_with (first | (go_at_call 133; refine HHEAD.out.mono ?_; rintro e w1 ⟨rfl, hb1⟩; rw [HHD.out]; have HB1 := Lib.hid hb1; clear hb1; obtain ⟨a0, a1, a2, a3, a4, a5, a6, a7⟩ := HCL.out w1 HB1.out) | (go_at_call 42; refine (HFOR.out w1 HB1.out).mono ?_; rintro e w2 ⟨rfl, hb2⟩; rw [HFO.out]; have HB2 := Lib.hid (HB1.out.trans (hb2.mono HB1.out.size)); clear hb2; obtain ⟨d0, d1, d2, d3, d4, d5, d6, d7⟩ := HCL.out w2 HB2.out) | (go_at_call 19; refine (HVARS.out w2 HB2.out).mono ?_; rintro e w3 ⟨vv, rfl, hov, hb3⟩; obtain ⟨AV, cv, rfl, hsv⟩ := hov.shape; have HB3 := Lib.hid (HB2.out.trans (hb3.mono HB2.out.size)); have HSV := Lib.hid hsv; clear hb3 hov hsv; obtain ⟨e0, e1, e2, e3, e4, e5, e6, e7⟩ := HCL.out w3 HB3.out) | (go_at_call 134; refine (HWITH.out w3 HB3.out AV cv HSV.out).mono ?_; rintro e w3b ⟨rfl, rfl⟩; rw [HWI.out]) | (go_at_call 135; refine (HFIND.out w3 HB3.out).mono ?_; rintro e w4 ⟨rfl, hb4⟩; have HB4 := Lib.hid (HB3.out.trans (hb4.mono HB3.out.size)); clear hb4; obtain ⟨f0, f1, f2, f3, f4, f5, f6, f7⟩ := HCL.out w4 HB4.out))
            rcases first_at l r0.name with ⟨hj1, hj2⟩ | ⟨j, f, hj1, hj2, hj3⟩
            · exact absurd hj2 (by
                intro hh
                rw [List.find?_eq_none] at hh
                exact hh r0 HMEM.out (by simp [named]))
            have hjl : j < l.length := (List.getElem?_eq_some_iff.1 hj2).1
            obtain ⟨g', o', f', z1, z2, z3, zb, hF⟩ := HU.out.get j hjl
            have hge := hF.eq
            simp only [Option.some.injEq, Addr.mk.injEq, and_true] at hge
            obtain ⟨rfl, rfl⟩ := hge
            have hfe := hF.get
            rw [hj2] at hfe
            obtain rfl := Option.some.inj hfe
            obtain ⟨fb1, fb2, fb3, -, -, -, k3, k4, k5⟩ := hF.is.parts
            obtain ⟨F1, g1, rfl⟩ := k3.slice
            obtain ⟨F2, g2, rfl⟩ := k4.slice
            obtain ⟨F3, q5, g3, rfl⟩ := his_slice0 k5
            have hfl : f.params.length ≤ 1048576 := by have := rusTot_mem hF.mem; have := HZ.out; unfold ruTot ssTot at *; omega
            have HCF := Lib.hid (fun (Y : World) (hY : Below W.heap.size W Y) => hF.cells.of (w' := Y) (fun mm _ _ => (HWW.out.trans (hY.mono HWW.out.size)).cell (p := ⟨g, mm, none⟩) hF.lt))
            have HSA := Lib.hid (show sameAs l r0 = ((decide (f.con.size = 0) == decide (r0.con.size = 0)) && (decide (f.params.length = r0.params.length) && (decide (r0.con.size = 0) || decide (conR r0.con l = (r0.vars.length : Int))))) by unfold sameAs; rw [hj3])
            have HFIRST := Lib.hid (fun (Y : World) (hY : Below W.heap.size W Y) => first_any l _ bs r0.name Y (HV.out.below (HWW.out.trans (hY.mono HWW.out.size))) (by have := HM.out; omega))
            rw [hj1] at HFIRST
            have hj0 : (0 : Int) ≤ (j : Int) := by omega
            have hjm : (j : Int) < (m : Int) := by have := HM.out; omega
            have hjn : j < m := by have := HM.out; omega
            have HD4 := Lib.hid (show Below W.heap.size W w4.drew from HB4.out.drew)
            have HD5 := Lib.hid (show Below W.heap.size W (w4.alloc (.cells #[.string ⟨#[]⟩, .string ⟨#[]⟩, .slice none 0 0, .slice none 0 0, .int .i64 0, .string ⟨#[]⟩, .slice none 0 0] 110)).drew from (HB4.out.alloc HB4.out.size _).drew)
            have hg4 : g < w4.heap.size := Nat.lt_of_lt_of_le hgl (HWW.out.trans (HB4.out.mono HWW.out.size)).size
            have hw4 : w.heap.size + 1 < w4.heap.size := World.block_lt_of_cell? w4 _ f1
            have hw4' : w.heap.size < w4.heap.size := by omega
            clear hj1 hj2 hj3 hF k3 k4 k5 hjl
            refine cut_region (fun a Y => ∃ fb, a = { tmps := #[.agg #[.slice (some ⟨g, o, none⟩) m c], .int .i64 (k : Int), .pointer (some ⟨w.heap.size, 0, none⟩), undef, .bool false, .pointer (some ⟨w.heap.size + 1, 0, none⟩), .slice A8 my c8, .pointer (some ⟨fb, 0, none⟩), .pointer (some ⟨w.heap.size, 0, none⟩), .slice (some ⟨g, o, none⟩) m c, .int .i64 (k : Int), .pointer (some ⟨g, o + k * 7, none⟩), .agg #[.string r0.name, .string r0.con, .slice A1 r0.vars.length c1, .slice A2 r0.params.length c2, .int .i64 r0.body.kind, .string r0.body.name, .slice A3 q3 c3], .slice (some ⟨W0.heap.size, 0, none⟩) 0 0, .pointer (some ⟨w.heap.size + 1, 2, none⟩), .slice A1 r0.vars.length c1, v7, .pointer (some ⟨w.heap.size + 1, 3, none⟩), .slice A2 r0.params.length c2, .slice A8 my c8, .agg #[.string r0.name, .string r0.con, .slice A1 r0.vars.length c1, .slice A2 r0.params.length c2, .int .i64 r0.body.kind, .string r0.body.name, .slice A3 q3 c3], .bool true, .bool false, .bool false, .agg #[.slice (some ⟨g, o, none⟩) m c], .pointer (some ⟨w.heap.size + 1, 4, none⟩), .agg #[.int .i64 r0.body.kind, .string r0.body.name, .slice A3 q3 c3], .bool true, .bool false, .bool false, .bool false, .pointer (some ⟨w.heap.size + 1, 4, none⟩), .agg #[.int .i64 r0.body.kind, .string r0.body.name, .slice A3 q3 c3], .slice AV (exVars [] r0.body).length cv, .slice A8 my c8, .bool true, .bool false, .bool false, .bool false, .agg #[.slice (some ⟨g, o, none⟩) m c], .pointer (some ⟨w.heap.size + 1, 0, none⟩), .string r0.name, .pointer (some ⟨w.heap.size + 1, 1, none⟩), .string r0.con, .int .i64 (k : Int), .int .i64 (k : Int), .bool false, .bool false, .pointer (some ⟨w.heap.size, 0, none⟩), .slice (some ⟨g, o, none⟩) m c, .agg #[.slice (some ⟨g, o, none⟩) m c], .pointer (some ⟨w.heap.size + 1, 0, none⟩), .string r0.name, .int .i64 (j : Int), .pointer (some ⟨g, o + j * 7, none⟩), .agg #[.string f.name, .string f.con, .slice F1 f.vars.length g1, .slice F2 f.params.length g2, .int .i64 f.body.kind, .string f.body.name, .slice F3 q5 g3], undef, undef, undef, undef, undef, undef, undef, undef, undef, undef, undef, undef, undef, undef, undef, undef, undef, undef, undef, undef, undef, undef, undef, undef, undef, undef, undef, undef, undef, undef, undef], defers := [] } ∧ Y.cell? ⟨fb, 1, none⟩ = some (.string f.con) ∧ Y.cell? ⟨fb, 3, none⟩ = some (.slice F2 f.params.length g2) ∧ Below W.heap.size W Y) ?_ ?_
            · go_region_law
                (first
                | (go_simp; go_at_call 136; (with_reducible refine (HFIRST.out w4.drew HD4.out).mono ?_); rintro e w5 ⟨rfl, hb5⟩; have HB5 := Lib.hid (HD4.out.trans (hb5.mono HD4.out.size)); clear hb5; obtain ⟨h0, h1, h2, h3, h4, h5, h6, h7⟩ := HCL.out w5 HB5.out; obtain ⟨i0, i1, i2, i3, i4, i5, i6⟩ := HCF.out w5 HB5.out; have hg5 : g < w5.heap.size := Nat.lt_of_lt_of_le hgl (HWW.out.trans (HB5.out.mono HWW.out.size)).size; have hw5 : w.heap.size + 1 < w5.heap.size := World.block_lt_of_cell? w5 _ h1; have hw6 : w.heap.size < w5.heap.size := by omega)
                | (go_simp; go_at_call 136; (with_reducible refine (HFIRST.out _ HD5.out).mono ?_); rintro e w5 ⟨rfl, hb5⟩; obtain ⟨p0, p1, p2, p3, p4, p5, p6, q0, q1, q2, q3', q4, q5', q6, pl⟩ := zero_box hb5; have HB5 := Lib.hid (HD5.out.trans (hb5.mono HD5.out.size)); clear hb5; obtain ⟨h0, h1, h2, h3, h4, h5, h6, h7⟩ := HCL.out w5 HB5.out; obtain ⟨i0, i1, i2, i3, i4, i5, i6⟩ := HCF.out w5 HB5.out; have hg5 : g < w5.heap.size := Nat.lt_of_lt_of_le hgl (HWW.out.trans (HB5.out.mono HWW.out.size)).size; have hw5 : w.heap.size + 1 < w5.heap.size := World.block_lt_of_cell? w5 _ h1; have hw6 : w.heap.size < w5.heap.size := by omega))
              all_goals
                refine ⟨_, rfl, ?_⟩
                first
                | (with_reducible exact fin_new HB5.out)
                | (with_reducible exact fin_old p1 p3 HB4.out.size HB5.out)
            · rintro _ Y ⟨fb, rfl, hf1, hf3, hY⟩
              have HE0 := HE
              have HLY := Lib.hid (HWW.out.trans (hY.mono HWW.out.size))
              obtain ⟨y0, y1, y2, y3, y4, y5, y6, y7⟩ := HCL.out Y hY
              have s0 := fun d os => cell_regrown hf1 d os
              have s1 := fun d os => cell_regrown hf3 d os
              have s2 := fun d os => cell_regrown y0 d os
              have s3 := fun d os => cell_regrown y2 d os
              have s4 := fun d os => cell_regrown y3 d os
              have s5 := fun d os => cell_regrown y4 d os
              have cA := fun d os => Calls.regrown_of ((conr_any l _ bs r0.con (grow (redrawn Y d) os) (HV.out.below (HLY.out.trans ((below_regrown Y d os).mono HLY.out.size))) HZ.out).mono (fun e w' h => h))
              clear hY HE
              by_cases hfc : f.con.size = 0
              · have hbf := empty_yes hfc
                by_cases hrc : r0.con.size = 0
                · have hbr := empty_yes hrc
                  by_cases hpe : f.params.length = r0.params.length
                  · have hpi : ((f.params.length : Int) == (r0.params.length : Int)) = true := by simp [hpe]
                    have HE := Lib.hid (show ruleOk l k r0 = true by rw [HE0.out, HSA.out, decide_eq_true hfc, decide_eq_true hrc, decide_eq_true hpe]; simp)
                    go_wp2_with fail
                    refine wp_region_quiet_below (by kernel_rfl) (by kernel_rfl) ?_
                    repeat (go_big_quiet_step (exact cA _ _))
                    refine wpQuiet_nil ?_
                    intro _ hw'
                    obtain ⟨⟨dq, osq⟩, hw''⟩ := hw'
                    subst hw''
                    have hlo := HLY.out.trans ((below_regrown Y dq osq).mono HLY.out.size)
                    go_wp2
                    go_ret
                    exact ⟨by rw [HE.out]; rfl, hlo⟩
                  · have hpi : ((f.params.length : Int) == (r0.params.length : Int)) = false := by simp; omega
                    have HE := Lib.hid (show ruleOk l k r0 = false by rw [HE0.out, HSA.out, decide_eq_false hpe]; simp)
                    go_wp2_with fail
                    refine wp_region_quiet_below (by kernel_rfl) (by kernel_rfl) ?_
                    repeat (go_big_quiet_step (exact cA _ _))
                    refine wpQuiet_nil ?_
                    intro _ hw'
                    obtain ⟨⟨dq, osq⟩, hw''⟩ := hw'
                    subst hw''
                    have hlo := HLY.out.trans ((below_regrown Y dq osq).mono HLY.out.size)
                    go_wp2
                    go_ret
                    exact ⟨by rw [HE.out]; rfl, hlo⟩
                · have hbr := empty_not hrc
                  have HE := Lib.hid (show ruleOk l k r0 = false by rw [HE0.out, HSA.out, decide_eq_true hfc, decide_eq_false hrc]; simp)
                  go_wp2_with fail
                  refine wp_region_quiet_below (by kernel_rfl) (by kernel_rfl) ?_
                  repeat (go_big_quiet_step (exact cA _ _))
                  refine wpQuiet_nil ?_
                  intro _ hw'
                  obtain ⟨⟨dq, osq⟩, hw''⟩ := hw'
                  subst hw''
                  have hlo := HLY.out.trans ((below_regrown Y dq osq).mono HLY.out.size)
                  go_wp2
                  go_ret
                  exact ⟨by rw [HE.out]; rfl, hlo⟩
              · have hbf := empty_not hfc
                by_cases hrc : r0.con.size = 0
                · have hbr := empty_yes hrc
                  have HE := Lib.hid (show ruleOk l k r0 = false by rw [HE0.out, HSA.out, decide_eq_false hfc, decide_eq_true hrc]; simp)
                  go_wp2_with fail
                  refine wp_region_quiet_below (by kernel_rfl) (by kernel_rfl) ?_
                  repeat (go_big_quiet_step (exact cA _ _))
                  refine wpQuiet_nil ?_
                  intro _ hw'
                  obtain ⟨⟨dq, osq⟩, hw''⟩ := hw'
                  subst hw''
                  have hlo := HLY.out.trans ((below_regrown Y dq osq).mono HLY.out.size)
                  go_wp2
                  go_ret
                  exact ⟨by rw [HE.out]; rfl, hlo⟩
                · have hbr := empty_not hrc
                  by_cases hpe : f.params.length = r0.params.length
                  · have hpi : ((f.params.length : Int) == (r0.params.length : Int)) = true := by simp [hpe]
                    by_cases hce : conR r0.con l = (r0.vars.length : Int)
                    · have hci : (conR r0.con l == (r0.vars.length : Int)) = true := by simp [hce]
                      have HE := Lib.hid (show ruleOk l k r0 = true by rw [HE0.out, HSA.out, decide_eq_false hfc, decide_eq_false hrc, decide_eq_true hpe, decide_eq_true hce]; simp)
                      go_wp2_with fail
                      refine wp_region_quiet_below (by kernel_rfl) (by kernel_rfl) ?_
                      repeat (go_big_quiet_step (exact cA _ _))
                      refine wpQuiet_nil ?_
                      intro _ hw'
                      obtain ⟨⟨dq, osq⟩, hw''⟩ := hw'
                      subst hw''
                      have hlo := HLY.out.trans ((below_regrown Y dq osq).mono HLY.out.size)
                      go_wp2
                      go_ret
                      exact ⟨by rw [HE.out]; rfl, hlo⟩
                    · have hci : (conR r0.con l == (r0.vars.length : Int)) = false := by simp [hce]
                      have HE := Lib.hid (show ruleOk l k r0 = false by rw [HE0.out, HSA.out, decide_eq_false hrc, decide_eq_false hce]; simp)
                      go_wp2_with fail
                      refine wp_region_quiet_below (by kernel_rfl) (by kernel_rfl) ?_
                      repeat (go_big_quiet_step (exact cA _ _))
                      refine wpQuiet_nil ?_
                      intro _ hw'
                      obtain ⟨⟨dq, osq⟩, hw''⟩ := hw'
                      subst hw''
                      have hlo := HLY.out.trans ((below_regrown Y dq osq).mono HLY.out.size)
                      go_wp2
                      go_ret
                      exact ⟨by rw [HE.out]; rfl, hlo⟩
                  · have hpi : ((f.params.length : Int) == (r0.params.length : Int)) = false := by simp; omega
                    have HE := Lib.hid (show ruleOk l k r0 = false by rw [HE0.out, HSA.out, decide_eq_false hpe]; simp)
                    go_wp2_with fail
                    refine wp_region_quiet_below (by kernel_rfl) (by kernel_rfl) ?_
                    repeat (go_big_quiet_step (exact cA _ _))
                    refine wpQuiet_nil ?_
                    intro _ hw'
                    obtain ⟨⟨dq, osq⟩, hw''⟩ := hw'
                    subst hw''
                    have hlo := HLY.out.trans ((below_regrown Y dq osq).mono HLY.out.size)
                    go_wp2
                    go_ret
                    exact ⟨by rw [HE.out]; rfl, hlo⟩
          · have hne : (findR l r0.name r0.con != (k : Int)) = true := by simp [hfi]
            have HE := Lib.hid (show ruleOk l k r0 = false by rw [HR.out, hh, hf, hw, decide_eq_false hfi]; simp)
            clear hh hf hw hfi
            go_wp2_with (first | (go_at_call 133; refine HHEAD.out.mono ?_; rintro e w1 ⟨rfl, hb1⟩; rw [HHD.out]; have HB1 := Lib.hid hb1; clear hb1; obtain ⟨a0, a1, a2, a3, a4, a5, a6, a7⟩ := HCL.out w1 HB1.out) | (go_at_call 42; refine (HFOR.out w1 HB1.out).mono ?_; rintro e w2 ⟨rfl, hb2⟩; rw [HFO.out]; have HB2 := Lib.hid (HB1.out.trans (hb2.mono HB1.out.size)); clear hb2; obtain ⟨d0, d1, d2, d3, d4, d5, d6, d7⟩ := HCL.out w2 HB2.out) | (go_at_call 19; refine (HVARS.out w2 HB2.out).mono ?_; rintro e w3 ⟨vv, rfl, hov, hb3⟩; obtain ⟨AV, cv, rfl, hsv⟩ := hov.shape; have HB3 := Lib.hid (HB2.out.trans (hb3.mono HB2.out.size)); have HSV := Lib.hid hsv; clear hb3 hov hsv; obtain ⟨e0, e1, e2, e3, e4, e5, e6, e7⟩ := HCL.out w3 HB3.out) | (go_at_call 134; refine (HWITH.out w3 HB3.out AV cv HSV.out).mono ?_; rintro e w3b ⟨rfl, rfl⟩; rw [HWI.out]) | (go_at_call 135; refine (HFIND.out w3 HB3.out).mono ?_; rintro e w4 ⟨rfl, hb4⟩; have HB4 := Lib.hid (HB3.out.trans (hb4.mono HB3.out.size)); clear hb4; obtain ⟨f0, f1, f2, f3, f4, f5, f6, f7⟩ := HCL.out w4 HB4.out))
            go_ret
            exact ⟨by rw [HE.out]; rfl, HWW.out.trans (HB4.out.mono HWW.out.size)⟩
end Go.Proofs.Ytmndlhbgacgnlaa

namespace Go.Proofs.Ytmndlhbgacgnlaa
open Go Go.RowKit

set_option maxRecDepth 100000 in
set_option maxHeartbeats 4000000 in
theorem validp_any (l : List Ru) (v : Value) (bs : List Nat) (w : World) (hv : PrIs w v l bs) (hn : rusTot l ≤ 1048576) :
    Calls Try.prog 44 #[v] w (RetPost (.bool (validR l)) w) := by
  have hll := rusTot_ge l
  have HRU := Lib.hid (fun (k : Nat) (r : Ru) (hk : l[k]? = some r) (W : World) (hW : Below w.heap.size w W) => rule_any l k r _ bs W (hv.below hW) hk hn)
  obtain ⟨u, rfl, hu⟩ := id hv
  obtain ⟨A, q, rfl, hc1, hc2, -⟩ := id hu
  obtain ⟨m, hm⟩ : ∃ m, m = l.length := ⟨_, rfl⟩
  rw [← hm] at hc1 HRU hll ⊢
  have HM := Lib.hid hm
  have HB0 := Lib.hid ((Below.refl w.heap.size w).alloc (Nat.le_refl _) (.cells #[.slice A m q] 53))
  have HBX := Lib.hid (fun (W : World) (h : Below (w.alloc (.cells #[.slice A m q] 53)).heap.size (w.alloc (.cells #[.slice A m q] 53)) W) => pbox h)
  have HV := Lib.hid (show validR l = (rulesOk l 0 (l.drop 0) && decide (m ≤ 24)) by rw [hm]; rfl)
  clear hu hm hv hn
  generalize validR l = R at *
  go_enter Try.func44, Try.ntmps44
  go_wp2_with fail
  go_loopw [3] (fun i wr => ∃ (k : Nat), k ≤ m ∧ i = .int .i64 (k : Int) ∧ Hid (R = (rulesOk l k (l.drop k) && decide (m ≤ 24))) ∧ Hid (Below (w.alloc (.cells #[.slice A m q] 53)).heap.size (w.alloc (.cells #[.slice A m q] 53)) wr)) (fun i _ => m - (intOf i).toNat)
  case atStart => exact ⟨0, Nat.zero_le _, rfl, HV, Lib.hid (Below.refl _ _)⟩
  case round =>
    obtain ⟨k, hk, rfl, HK, HB⟩ := hrel
    have x0 := HBX.out wr HB.out
    have HL := Lib.hid (HB0.out.trans (HB.out.mono HB0.out.size))
    by_cases hlt : k < m
    · obtain ⟨r, hr⟩ : ∃ r, l[k]? = some r := ⟨_, List.getElem?_eq_getElem (by rw [← HM.out]; exact hlt)⟩
      have HG := Lib.hid (rulesOk_here (l := l) (j := k) hr)
      have HCALL := Lib.hid (HRU.out k r hr wr HL.out)
      clear hr
      cases hx : ruleOk l k r
      · rw [hx] at HCALL
        have HE := Lib.hid (show R = false by rw [HK.out, HG.out, hx]; simp)
        clear hx
        go_wp2_with (go_at_call 86; refine HCALL.out.mono ?_; rintro r w1 ⟨rfl, hb1⟩; have HB1 := Lib.hid (HB.out.trans (hb1.mono HB.out.size)); clear hb1)
        go_ret
        exact ⟨by rw [HE.out]; rfl, HB0.out.trans (HB1.out.mono HB0.out.size)⟩
      · rw [hx] at HCALL
        have HE := Lib.hid (show R = (rulesOk l (k + 1) (l.drop (k + 1)) && decide (m ≤ 24)) by rw [HK.out, HG.out, hx, Bool.true_and])
        clear hx
        go_wp2_with (go_at_call 86; refine HCALL.out.mono ?_; rintro r w1 ⟨rfl, hb1⟩; have HB1 := Lib.hid (HB.out.trans (hb1.mono HB.out.size)); clear hb1)
        go_roundw
        case rel => exact ⟨k + 1, by omega, by go_num, HE, HB1⟩
        case measure => simp [intOf]; omega
    · have hE : R = decide (m ≤ 24) := by rw [HK.out, List.drop_eq_nil_of_le (by rw [← HM.out]; omega), rulesOk, Bool.true_and]
      by_cases h24 : m ≤ 24
      · have h24i : (m : Int) ≤ 24 := by omega
        have HE := Lib.hid (show R = true by rw [hE, decide_eq_true h24])
        clear hE h24
        go_wp2
        go_ret
        exact ⟨by rw [HE.out]; rfl, HL.out⟩
      · have h24i : ¬ (m : Int) ≤ 24 := by omega
        have h24j : (24 : Int) < (m : Int) := by omega
        have HE := Lib.hid (show R = false by rw [hE, decide_eq_false h24])
        clear hE h24
        go_wp2
        go_ret
        exact ⟨by rw [HE.out]; rfl, HL.out⟩
end Go.Proofs.Ytmndlhbgacgnlaa

namespace Go.Proofs.Ytmndlhbgacgnlaa
open Go Go.RowKit

set_option maxRecDepth 100000 in
set_option maxHeartbeats 4000000 in
theorem lawvalidp (l : List Ru) (v : Value) (bs : List Nat) (w : World) (hv : PrIs w v l bs)
    (hO : ∀ (v2 : Value) (b2 : List Nat) (W : World), PrIs W v2 l b2 → Thawed W b2 → rusTot l ≤ 1048576 → Calls Try.prog 45 #[v2] W (RetPost (.bool (validR l)) W)) :
    Calls Try.prog 8 #[v] w (TrueX w) := by
  have HZ := Lib.hid (fun (W : World) (hb : Below w.heap.size w W) => sz_prog l v bs W 1048576 (hv.below hb) (by omega) (by omega))
  have HC := Lib.hid (fun (ht : rusTot l ≤ 1048576) (W : World) (hb : Below w.heap.size w W) => copy_prog l v bs W (hv.below hb) ht)
  have HO := Lib.hid hO
  have HP := Lib.hid (fun (ht : rusTot l ≤ 1048576) (v2 : Value) (b2 : List Nat) (W : World) (h : PrIs W v2 l b2) => show Calls Try.prog 44 #[v2] W (RetPost (.bool (validR l)) W) from validp_any l v2 b2 W h ht)
  clear hO
  obtain ⟨u, rfl, hu⟩ := hv
  obtain ⟨A, c, rfl, -⟩ := id hu
  clear hu
  have HQ := Lib.hid (fun (v6 : Value) (b6 b4 : List Nat) (v4 : Value) (W : World) (ht : rusTot l ≤ 1048576) (h4 : PrIs W v4 l b4) (h6 : PrIs W v6 l b6) => eq_prog l v4 v6 b4 b6 W h4 h6 ht)
  generalize validR l = R at *
  obtain ⟨n, hn⟩ : ∃ n, n = l.length := ⟨_, rfl⟩
  have HB0 := Lib.hid ((Below.refl w.heap.size w).alloc (Nat.le_refl _) (.cells #[.slice A n c] 48))
  have HBX := Lib.hid (fun (W : World) (h : Below (w.alloc (.cells #[.slice A n c] 48)).heap.size (w.alloc (.cells #[.slice A n c] 48)) W) => lbox h)
  rw [← hn] at HZ HC ⊢
  have HNN := Lib.hid hn
  clear hn
  go_enter Try.func8, Try.ntmps8
  go_wp2_with fail
  go_at_call 37
  refine (HZ.out _ HB0.out).mono ?_
  rintro r w1 ⟨z, rfl, hb1, hz⟩
  have HB1 := Lib.hid hb1
  clear hb1 HZ
  rcases hz with ⟨rfl, -⟩ | ⟨hz0, hz⟩
  · go_wp2_with fail
    go_ret
    exact ⟨rfl, box_low HB1.out⟩
  have hsz : rusTot l ≤ 1048576 := by omega
  have HSZ := Lib.hid hsz
  clear hz hsz
  have x0 := HBX.out w1 HB1.out
  go_wp2_with fail
  go_at_call 39
  refine (HC.out HSZ.out w1 (box_low HB1.out)).mono ?_
  rintro r w2 ⟨v2, b2, rfl, hs2, -, hb2⟩
  have HB2 := Lib.hid (HB1.out.trans (hb2.mono HB1.out.size))
  have HS2 := Lib.hid hs2
  clear hs2 hb2 x0
  go_wp2_with fail
  go_at_call 44
  refine (HP.out HSZ.out _ b2 w2 HS2.out).mono ?_
  rintro r w3 ⟨rfl, hb3⟩
  have HB3 := Lib.hid (HB2.out.trans (hb3.mono HB2.out.size))
  clear hb3 HS2
  have x0 := HBX.out w3 HB3.out
  go_wp2_with fail
  go_at_call 39
  refine (HC.out HSZ.out w3 (box_low HB3.out)).mono ?_
  rintro r w4 ⟨v4, b4, rfl, hs4, hm4, hb4⟩
  obtain ⟨u4, rfl, hu4⟩ := id hs4
  obtain ⟨A4, c4, rfl, -⟩ := id hu4
  rw [← HNN.out]
  have hs4' := hs4.below ((Below.refl w4.heap.size w4).alloc (Nat.le_refl _) (.cells #[.slice A4 n c4] 53))
  rw [← HNN.out] at hs4'
  have HS4 := Lib.hid hs4'
  have HM4 := Lib.hid (mine_thawed (hm4.keeps (keeps_below ((Below.refl w4.heap.size w4).alloc (Nat.le_refl _) (.cells #[.slice A4 n c4] 53)) _)))
  have HB4 := Lib.hid (HB3.out.trans (hb4.mono HB3.out.size))
  clear hs4 hs4' hu4 hb4 hm4 x0
  go_wp2_with fail
  go_at_call 45
  refine (HO.out _ b4 _ HS4.out HM4.out HSZ.out).mono ?_
  rintro r w5 ⟨rfl, hb5⟩
  have y0 := pbox hb5
  have hl5 : w4.heap.size < w5.heap.size := by have := hb5.size; simp at this; omega
  have HB5 := Lib.hid (HB4.out.trans ((box_low hb5).mono HB4.out.size))
  have HS5 := Lib.hid (HS4.out.below hb5)
  clear hb5 HS4
  have x0 := HBX.out w5 HB5.out
  have H2 := Lib.hid (And.intro x0 y0)
  have HLT := Lib.hid (show (⟨w.heap.size, 0, none⟩ : Addr).block < w5.heap.size ∧ (⟨w4.heap.size, 0, none⟩ : Addr).block < w5.heap.size from ⟨by have := HB5.out.size; simp at this; show w.heap.size < _; omega, hl5⟩)
  have HC5 := Lib.hid (fun (W : World) (h : Below w5.heap.size w5 W) => HC.out HSZ.out W (box_low (HB5.out.trans (h.mono HB5.out.size))))
  have HE5 := Lib.hid (fun (v6 : Value) (b6 : List Nat) (W : World) (h : Below w5.heap.size w5 W) (h6 : PrIs W v6 l b6) => HQ.out v6 b6 b4 _ W HSZ.out (HS5.out.below h) h6)
  cases R
  all_goals
    go_wp2_with fail
    go_region_held3 (fun X => X.cell? ⟨w.heap.size, 0, none⟩ = some (.slice A n c) ∧ X.cell? ⟨w4.heap.size, 0, none⟩ = some (.slice A4 n c4) ∧ Hid (Below w5.heap.size w5 X))
      (first | exact kept2_start H2 | exact kept2_step HLT hb6 (by assumption) | exact kept2_step HLT hb7 (by assumption))
      (first
        | (go_at_call 39; have hh := (‹_ ∧ _ ∧ Hid (Below w5.heap.size w5 _)›).2.2.out; refine (HC5.out _ hh).mono ?_; rintro r w6 ⟨v6, b6, rfl, hs6, -, hb6⟩; clear hh)
        | (go_at_call 41; have hh := (‹_ ∧ _ ∧ Hid (Below w5.heap.size w5 w6)›).2.2.out; refine (HE5.out _ b6 _ hh hs6).mono ?_; clear hh; rintro r w7 ⟨rfl, hb7⟩))
    all_goals
      have hx := (‹_ ∧ _ ∧ Hid (Below w5.heap.size w5 w7)›).2.2.out
      have HX7 := Lib.hid (box_low (HB5.out.trans (hx.mono HB5.out.size)))
      clear hx
      go_wp2_with fail
      go_ret
      exact ⟨rfl, HX7.out⟩
end Go.Proofs.Ytmndlhbgacgnlaa

namespace Go.Proofs.Ytmndlhbgacgnlaa
open Go Go.ChangeShapes Go.WideShapes Go.ChangeAt Go.RowKit
open Go.ChangeMaps (open_string shut_string)

/-- What the program's own IsValidProgram gives. -/
def OwnIsValidProgram : Prop := ∀ (l : List Ru) (v : Value) (bs : List Nat) (W : World), PrIs W v l bs → Thawed W bs → rusTot l ≤ 1048576 → Calls Try.prog 45 #[v] W (RetPost (.bool (validR l)) W)
set_option maxRecDepth 100000 in
theorem liftedIsValidProgram (hO : OwnIsValidProgram) (os : Os) (started : os.Started) (H : Type) (enc : TypeId × Value → H) :
    ReturnsInHanded {} Try.checked os 8 .any (Rows.fnExactIsValidProgramSpec.pre6 enc Try.prog Try.f8 Rows.fnExactIsValidProgramRow.domain false) (Rows.fnExactIsValidProgramSpec.post enc Try.prog Try.f8 false true false false) := by
  refine returnsInHanded_of_change_sized (C := Try.checked) own started (by kernel_rfl) Try.func8
    (ChangeSpec.witness6 (enc := enc) (C := Try.checked) false ⟨#[], #[.agg #[.slice none 0 0]], []⟩ 8 (by kernel_rfl) (by kernel_rfl) (by kernel_rfl) (by kernel_rfl)) ?_
  intro W base args ds gs before hval0 hW _ hsz0 _
  clear hsz0
  have hval : ∀ (j : Nat) t v, Try.f8.params[j]? = some t → args[j]? = some v → Value.okWide Try.prog W .any base t v := hval0
  have hW' := hW
  obtain ⟨p, q, hA0, hV, rfl, _, _⟩ := hW
  have hA : DataW.TrodAll enc Try.prog W 0 (fun _ => true) true Try.f8.params.toList args.toList ds p := hA0
  rw [Try.params8] at hA hval
  obtain ⟨v0, d0, rfl, rfl, h0⟩ := trodAll_one hA
  obtain ⟨rfl, rfl⟩ := trodVars_none hV
  clear hA0 hval0
  simp only [List.append_nil] at hW'
  have hlt : ∀ x ∈ p, x.block < W.heap.size := fun x hx => by simpa using hW'.lt x hx
  have hargs0 : ∀ (W' : World), Below W.heap.size W W' → DataW.Trod enc Try.prog W' 0 (fun b => decide (b < W.heap.size)) true 48 v0 d0 p :=
    fun W' hn => Below.trod laidOut (by kernel_rfl) (of_decide_eq_true (by kernel_rfl)) h0 hn (fun x hx => hlt x (by simp [hx]))
  obtain ⟨l0, bs0, he0⟩ := read_prog (hval 0 48 v0 rfl rfl) h0
  have h : Calls Try.prog 8 #[v0] W (TrueX W) := lawvalidp l0 v0 bs0 W he0 (fun v2 b2 W2 h2 hf ht => hO l0 v2 b2 W2 h2 hf ht)
  refine h.mono fun e W' ⟨he, hnx⟩ => ?_
  subst he
  refine ⟨_, rfl, _, _, _, [], p, [], hW', ?_, ?_, rfl, hnx.frame _, fun h => by cases h⟩
  · exact trodAll_mk1 (shut_bool Try.underlying4 _)
  · exact trodAll_mk1 (hargs0 _ hnx)

/-- The law FnExactIsValidProgram. -/
theorem exactIsValidProgram_holds (hO : OwnIsValidProgram) : Rows.FnExactIsValidProgramSaid :=
  OpenClaim.holds_of_wide 8 Try.f8 rfl rfl rfl rfl rfl rfl rfl ⟨rfl, rfl, rfl, rfl, rfl⟩ rfl rfl rfl rfl rfl (by kernel_rfl) Try.func8 (by kernel_rfl)
    (of_decide_eq_true (by kernel_rfl)) (by unfold Func.isWrapper; first | (rw [if_pos (by decide +kernel)]; kernel_rfl) | (rw [if_neg (by decide +kernel)]; exact ⟨rfl, rfl⟩))
    (fun os started H enc _ => liftedIsValidProgram hO os started H enc)
end Go.Proofs.Ytmndlhbgacgnlaa
