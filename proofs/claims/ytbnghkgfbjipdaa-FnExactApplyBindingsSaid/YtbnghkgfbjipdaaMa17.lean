/- The contract of the program's own (*copying).argsFor: memory for a copy, where nothing is shared. Condition: fewer than 2^40 arguments. The contract of the program's own (*copying).copyOf: a copy in memory of its own, with the variables replaced. Condition: fewer than 2^40 nodes in the result. -/
import Derived.Test.YtbnghkgfbjipdaaMa13
import Derived.Test.YtbnghkgfbjipdaaMa16
import Derived.Test.YtbnghkgfbjipdaaMa14
namespace Go.Proofs.Ytbnghkgfbjipdaa
open Go Go.RowKit

/-- The box of a copy: its values, how many nodes it made, what is shared, the copies of that. -/
def CBox (w : World) (cb : Nat) (mb : Nat) (N : Int) (sh : Option Nat) : Prop := w.heap[cb]? = some (.cells #[.map (some mb), .int .i64 N, .map sh, .map none, .map none] 82 (0, 0))
theorem CBox.cells {w : World} {cb mb : Nat} {N : Int} {sh : Option Nat} (h : CBox w cb mb N sh) : w.cell? ⟨cb, 0, none⟩ = some (.map (some mb)) ∧ w.cell? ⟨cb, 1, none⟩ = some (.int .i64 N) ∧ w.cell? ⟨cb, 2, none⟩ = some (.map sh) ∧ w.cell? ⟨cb, 3, none⟩ = some (.map none) ∧ w.cell? ⟨cb, 4, none⟩ = some (.map none) ∧ (∀ o, w.frozen? ⟨cb, o, none⟩ = false) ∧ cb < w.heap.size := by
  unfold CBox at h
  exact ⟨by simp [World.cell?, h], by simp [World.cell?, h], by simp [World.cell?, h], by simp [World.cell?, h], by simp [World.cell?, h], fun o => by simp [World.frozen?, h], (Array.getElem?_eq_some_iff.1 h).1⟩
theorem CBox.set1 {w : World} {cb mb : Nat} {N : Int} {sh : Option Nat} (h : CBox w cb mb N sh) (N2 : Int) : CBox (w.setCell ⟨cb, 1, none⟩ (.int .i64 N2)) cb mb N2 sh := by
  unfold CBox at h ⊢
  simp [World.setCell, Array.getElem?_modify, h]
theorem CBox.set4 {w : World} {cb mb : Nat} {N : Int} {sh : Option Nat} (h : CBox w cb mb N sh) : CBox (w.setCell ⟨cb, 4, none⟩ (.map none)) cb mb N sh := by
  unfold CBox at h ⊢
  simp [World.setCell, Array.getElem?_modify, h]
theorem checkPlace (em : Bool) (a : Addr) (n : Int) (w : World) : (Instr.checkKey em 10000 129 (.agg #[.pointer (some a), .int .i64 n])).run Try.prog w = .ok () w := by
  have u := run_underlying (w := w) Try.underlying129
  have up := run_underlying (w := w) Try.underlying124
  have ui := run_underlying (w := w) Try.underlying3
  have p0 : ∀ x y : Value, (part 124 #[x, y] 0).run Try.prog w = .ok x w := fun x y => by kernel_rfl
  have p1 : ∀ x y : Value, (part 3 #[x, y] 1).run Try.prog w = .ok y w := fun x y => by kernel_rfl
  have c1 : (Instr.checkKey em 9999 124 (.pointer (some a))).run Try.prog w = .ok () w := by rw [show 9999 = 9998 + 1 from rfl, Instr.checkKey]; simp [up]
  have c2 : (Instr.checkKey em 9999 3 (.int .i64 n)).run Try.prog w = .ok () w := by rw [show 9999 = 9998 + 1 from rfl, Instr.checkKey]; simp [ui]
  rw [show 10000 = 9999 + 1 from rfl, Instr.checkKey]
  simp [u, p0, p1, c1, c2]
theorem find_none (key : Value) (w : World) : (Instr.findKey 129 key []).run Try.prog w = .ok none w := by
  rw [Go.run_findKey_eq (P := Try.prog) w (k := 129) (by kernel_rfl) key []]
  simp [Instr.findAsking]
theorem nil_copies (a : Addr) (n : Int) (w : World) : (Instr.lookup 79 (.map none) (.agg #[.pointer (some a), .int .i64 n]) true).run Try.prog w = .ok (.tuple #[.slice none 0 0, .bool false]) w := by
  have h := checkPlace true a n w
  simp [Instr.lookup, run_underlying Try.underlying79, h, find_none, Result.andThen]
theorem nil_shared (a : Addr) (n : Int) (w : World) : (Instr.lookup 78 (.map none) (.agg #[.pointer (some a), .int .i64 n]) false).run Try.prog w = .ok (.bool false) w := by
  have h := checkPlace true a n w
  simp [Instr.lookup, run_underlying Try.underlying78, h, find_none, Result.andThen]
/-- What argsFor gives: a new row, and one more number of nodes. -/
def ArgsPost9 (cb mb : Nat) (N : Int) (sh : Option Nat) (n : Nat) (w : World) (r : Ending) (w2 : World) : Prop :=
  ∃ b2, r = .returned (.tuple #[.slice (some ⟨b2, 0, none⟩) n n, .bool true]) ∧ w.heap.size ≤ b2 ∧ TyN w2 b2 (n * 3) ∧ CBox w2 cb mb (N + n) sh ∧ Fr [cb] w w2
theorem row_tyn {w : World} {base g n : Nat} {ys : List Value} (h : w.ownsRow base 26 3 (.slice (some ⟨g, 0, none⟩) n n) n ys) : TyN w g (n * 3) := by
  rcases h.2 with ⟨h0, -⟩ | ⟨g', cap', cur, hv, -, hgg, -, -, hs, -⟩
  · cases h0
  · simp only [Value.slice.injEq, Option.some.injEq, Addr.mk.injEq, and_true, true_and] at hv
    obtain ⟨rfl, rfl⟩ := hv
    exact ⟨cur, hgg, hs⟩
set_option maxRecDepth 100000 in
set_option maxHeartbeats 4000000 in
theorem own_argsFor (cb mb : Nat) (N : Int) (sh : Option Nat) (g o n c : Nat) (b : Bool) (w : World) (hc : CBox w cb mb N sh) (hn : 0 < n) (hn2 : n ≤ 1099511627776) (hN : 0 ≤ N) (hN2 : N + n ≤ 2199023255552)
    (hsh : ∀ X, Fr [cb] w X → (Instr.lookup 78 (.map sh) (.agg #[.pointer (some ⟨g, o, none⟩), .int .i64 (n : Int)]) false).run Try.prog X = .ok (.bool false) X) :
    Calls Try.prog 97 #[.pointer (some ⟨cb, 0, none⟩), .slice (some ⟨g, o, none⟩) n c, .int .i64 (lay b)] w (ArgsPost9 cb mb N sh n w) := by
  have HCB := Lib.hid hc
  have HCP := Lib.hid (fun W => own_place g o n c W hn (by omega))
  have HNC := nil_copies ⟨g, o, none⟩ (n : Int)
  have HSH := Lib.hid hsh
  clear hc hsh
  have hn3 : (n : Int) ≤ 1099511627776 := by omega
  have hn0 : 0 < (n : Int) := by omega
  obtain ⟨i0, hi, hz0, hz1, hz2⟩ := info_parts Try.infoEx
  have C2 := Lib.hid (show i0.bytes * n ≤ 281474976710656 by rw [hz2]; omega)
  have C3 := Lib.hid (show n ≤ maxLen by unfold maxLen; omega)
  have HI := Lib.hid (And.intro hi (And.intro hz0 (And.intro hz1 hz2)))
  clear hi hz0 hz1 hz2
  obtain ⟨B, hB⟩ : ∃ B, B = lay b := ⟨_, rfl⟩
  rw [← hB]
  have hB0 : 0 ≤ B := by rw [hB]; cases b <;> simp [lay]
  have hB1 : B < 2 := by rw [hB]; cases b <;> simp [lay]
  have HB := Lib.hid hB
  clear hB
  go_enter Try.func97, Try.ntmps97
  go_wp2_with (go_at_call 91; refine (HCP.out _).mono ?_; rintro r w1 ⟨rfl, hb1⟩; have HB1 := Lib.hid hb1; clear hb1)
  obtain ⟨W1, hW1⟩ : ∃ W1, W1 = w1.alloc (.cells #[.pointer (some ⟨g, o, none⟩), .int .i64 (n : Int)] 129) := ⟨_, rfl⟩
  rw [← hW1]
  have HBW := Lib.hid (show Below w.heap.size w W1 by rw [hW1]; exact HB1.out.alloc HB1.out.size _)
  have HPB := Lib.hid (show W1.heap[w1.heap.size]? = some (.cells #[.pointer (some ⟨g, o, none⟩), .int .i64 (n : Int)] 129 (0, 0)) by rw [hW1]; exact heap_alloc_new w1 _)
  clear hW1
  obtain rfl | rfl : B = 0 ∨ B = 1 := by omega
  all_goals
    have HS := Lib.hid (show ∀ X, Below W1.heap.size W1 X → X.cell? ⟨cb, 3, none⟩ = some (.map none) ∧ X.cell? ⟨cb, 4, none⟩ = some (.map none) ∧ X.cell? ⟨w1.heap.size, 0, none⟩ = some (.pointer (some ⟨g, o, none⟩)) ∧ X.cell? ⟨w1.heap.size, 1, none⟩ = some (.int .i64 (n : Int)) from fun X hX => by
      have h1 := HBW.out.trans (hX.mono HBW.out.size)
      obtain ⟨-, -, -, c3, c4, -, cl⟩ := HCB.out.cells
      have hl := (Array.getElem?_eq_some_iff.1 HPB.out).1
      exact ⟨(h1.cell (p := ⟨cb, 3, none⟩) cl).trans c3, (h1.cell (p := ⟨cb, 4, none⟩) cl).trans c4, (hX.cell (p := ⟨w1.heap.size, 0, none⟩) hl).trans (by simp [World.cell?, HPB.out]), (hX.cell (p := ⟨w1.heap.size, 1, none⟩) hl).trans (by simp [World.cell?, HPB.out])⟩)
    go_region_held3 (fun X => X.cell? ⟨cb, 3, none⟩ = some (.map none) ∧ X.cell? ⟨cb, 4, none⟩ = some (.map none) ∧ X.cell? ⟨w1.heap.size, 0, none⟩ = some (.pointer (some ⟨g, o, none⟩)) ∧ X.cell? ⟨w1.heap.size, 1, none⟩ = some (.int .i64 (n : Int)))
      (first
      | exact HS.out _ ((Below.refl _ _).drew))
      (fail)
    obtain ⟨Wd, hWd⟩ : ∃ Wd, Wd = W1.drew := ⟨_, rfl⟩
    rw [← hWd]
    have HSZ := Lib.hid (show Wd.heap.size = W1.heap.size by rw [hWd]; rfl)
    have HBD := Lib.hid (show Below W1.heap.size W1 Wd by rw [hWd]; exact (Below.refl _ _).drew)
    have HCD := Lib.hid (show CBox Wd cb mb N sh by
      have h1 := HBW.out.trans (HBD.out.mono HBW.out.size)
      exact (h1.block cb HCB.out.cells.2.2.2.2.2.2).trans HCB.out)
    clear hWd
    go_wp2_with (at_make; go_loud (refine wpList_make_full _ rfl _ _ 24 rfl w.heap.size 26 i0 (.agg #[.int .i64 0, .string ⟨#[]⟩, .slice none 0 0]) 3 Try.underlying24 HI.out.1 HI.out.2.1 HI.out.2.2.1 .i64 .i64 _ _ n rfl rfl rfl rfl C2.out C3.out (Nat.le_trans HBW.out.size HBD.out.size) ?_); go_loud (intro w3 hown3 hg3); have HMK := Lib.hid (And.intro hown3 hg3); have HC3 := Lib.hid (show CBox w3 cb mb N sh from (hg3.block cb (Array.getElem?_eq_some_iff.1 HCD.out).1 (by simp)).trans HCD.out); obtain ⟨k0, k1, k2, k3, k4, kf, kl⟩ := HC3.out.cells; clear hown3 hg3)
    obtain ⟨X0, hX0⟩ : ∃ X0, X0 = w3.setCell ⟨cb, 1, none⟩ (.int .i64 (N + (n : Int))) := ⟨_, rfl⟩
    rw [← hX0]
    have HX0 := Lib.hid hX0
    have HFX := Lib.hid (show Fr [cb] w X0 by
      have h1 := HBW.out.trans (HBD.out.mono HBW.out.size)
      have h2 := HMK.out.2
      have h3 : Below w.heap.size w w3 := h1.trans ⟨h2.os, h2.tape, h2.output, h2.size, fun k hk => h2.block k (Nat.lt_of_lt_of_le hk h1.size) (by simp)⟩
      rw [hX0]
      exact (Fr.of_below (S := [cb]) h3).trans (T := [cb]) (Fr.set _ _ _ (by simp)) (fun x h => Or.inl h))
    have HCX := Lib.hid (show CBox X0 cb mb (N + (n : Int)) sh by rw [hX0]; exact HC3.out.set1 _)
    have HPX := Lib.hid (show X0.heap[w1.heap.size]? = some (.cells #[.pointer (some ⟨g, o, none⟩), .int .i64 (n : Int)] 129 (0, 0)) by
      have hcl : cb < w.heap.size := HCB.out.cells.2.2.2.2.2.2
      have hl := (Array.getElem?_eq_some_iff.1 HPB.out).1
      have hb1 := HB1.out.size
      rw [hX0]
      refine (Below.heap_setCell _ _ _ _ (by simp; omega)).trans ?_
      exact (HMK.out.2.block _ (by rw [HSZ.out]; exact hl) (by simp)).trans ((HBD.out.block _ hl).trans HPB.out))
    have HS2 := Lib.hid (show X0.drew.cell? ⟨cb, 2, none⟩ = some (.map sh) ∧ X0.drew.cell? ⟨w1.heap.size, 0, none⟩ = some (.pointer (some ⟨g, o, none⟩)) ∧ X0.drew.cell? ⟨w1.heap.size, 1, none⟩ = some (.int .i64 (n : Int)) ∧ (Instr.lookup 78 (.map sh) (.agg #[.pointer (some ⟨g, o, none⟩), .int .i64 (n : Int)]) false).run Try.prog X0.drew = .ok (.bool false) X0.drew from by
      have hp : X0.drew.heap[w1.heap.size]? = _ := HPX.out
      refine ⟨HCX.out.cells.2.2.1, by simp [World.cell?, hp], by simp [World.cell?, hp], HSH.out _ ⟨HFX.out.os, HFX.out.tape, HFX.out.output, HFX.out.size, HFX.out.block⟩⟩)
    clear hX0 k0 k1 k2 k3 k4 kf kl HNC
    go_region_held3 (fun X => X.cell? ⟨cb, 2, none⟩ = some (.map sh) ∧ X.cell? ⟨w1.heap.size, 0, none⟩ = some (.pointer (some ⟨g, o, none⟩)) ∧ X.cell? ⟨w1.heap.size, 1, none⟩ = some (.int .i64 (n : Int)) ∧ (Instr.lookup 78 (.map sh) (.agg #[.pointer (some ⟨g, o, none⟩), .int .i64 (n : Int)]) false).run Try.prog X = .ok (.bool false) X)
      (first
      | exact HS2.out)
      (fail)
    go_wp2_with fail
    refine bodyPost_ret (v := .tuple #[.slice (some ⟨Wd.heap.size, 0, none⟩) n n, .bool true]) (by simp [results, Try.results97, go_sem]) rfl ?_
    refine ⟨Wd.heap.size, rfl, by rw [HSZ.out]; exact HBW.out.size, ?_, HCX.out, ⟨HFX.out.os, HFX.out.tape, HFX.out.output, HFX.out.size, HFX.out.block⟩⟩
    have hcl : cb < w.heap.size := HCB.out.cells.2.2.2.2.2.2
    have h := row_tyn HMK.out.1
    obtain ⟨cs, h1, h2⟩ := h
    refine ⟨cs, ?_, h2⟩
    show X0.heap[Wd.heap.size]? = _
    rw [HX0.out]
    exact (Below.heap_setCell _ _ _ _ (by have := HBW.out.size; have := HSZ.out; simp; omega)).trans h1
end Go.Proofs.Ytbnghkgfbjipdaa

namespace Go.Proofs.Ytbnghkgfbjipdaa
open Go Go.RowKit

section
variable {wo : World}
/-- A copy under way, with the list of what is open. -/
structure Cy (wo : World) (f : ByteArray → Option Ex) (cb mb : Nat) (sh : Option Nat) (b0 : Nat) (R : Ex) (S nodes k : Nat) (AO : Option Addr) (co : Nat) (Ls : List (Lev wo)) (W : World) : Prop where
  fr : Fr [cb] wo W
  box : CBox W cb mb (nodes : Int) sh
  row : W.ownsRow wo.heap.size 137 3 (.slice AO k co) k (uflat (opens Ls))
  len : (opens Ls).length = k
  zip : Zip W f wo.heap.size Ls
  bot : Bot b0 R Ls
  sum : nodes + 1 + uweigh f (opens Ls) = S + k
  le : uweigh f (opens Ls) ≤ S
theorem not_ty {W : World} {cb : Nat} {cs : Array Value} {t : TypeId} (h : W.heap[cb]? = some (.cells cs t (0, 0))) (ht : t ≠ 26) : ¬ TyE W cb := by
  rintro ⟨cs', h'⟩
  rw [h] at h'
  simp only [Option.some.injEq, Obj.cells.injEq] at h'
  exact ht h'.2.1
theorem CBox.notTy {W : World} {cb mb : Nat} {N : Int} {sh : Option Nat} (h : CBox W cb mb N sh) : ¬ TyE W cb := not_ty h (by decide)
theorem EF.of_fr {W W2 : World} {cb : Nat} (h : Fr [cb] W W2) (hn : ¬ TyE W cb) : EF [] W W2 := EF.one hn h.size (fun k hk hne => h.block k hk (by simpa using hne)) []
theorem row_type {W : World} {base k co : Nat} {AO : Option Addr} {t : TypeId} {size n : Nat} {xs : List Value} (h : W.ownsRow base t size (.slice AO k co) n xs) {b : Nat} (hb : Value.ownBlock (.slice AO k co) = some b) : ∃ cs, W.heap[b]? = some (.cells cs t (0, 0)) := by
  rcases h.2 with ⟨h0, -⟩ | ⟨g', cap', cur, hv, -, hgg, -⟩
  · rw [h0] at hb; cases hb
  · rw [hv] at hb
    obtain rfl : g' = b := by simpa [Value.ownBlock] using hb
    exact ⟨cur, hgg⟩
theorem row_not {W : World} {base k co b : Nat} {AO : Option Addr} {t : TypeId} {size n : Nat} {xs : List Value} (h : W.ownsRow base t size (.slice AO k co) n xs) (ht : t ≠ 26) (hb : TyE W b) : Value.ownBlock (.slice AO k co) ≠ some b := fun e => by
  obtain ⟨cs, hc⟩ := row_type h e
  exact not_ty hc ht hb
theorem row_tri {W : World} {base k co b n size : Nat} {AO : Option Addr} {t : TypeId} {xs : List Value} (h : W.ownsRow base t size (.slice AO k co) n xs) (ht : t ≠ 26) (hb : TyE W b) (o : Nat) (x0 x1 x2 : Value) : (tri W b o x0 x1 x2).ownsRow base t size (.slice AO k co) n xs :=
  h.kept (row := some b) ⟨rfl, rfl, rfl, by rw [tri_size]; exact Nat.le_refl _, fun i _ hne => tri_other _ _ _ _ _ _ i (fun e => hne (by rw [e]))⟩ (Or.inr (row_not h ht hb))
theorem row_fr {W W2 : World} {base k co cb n size : Nat} {AO : Option Addr} {t : TypeId} {xs : List Value} (h : W.ownsRow base t size (.slice AO k co) n xs) (hf : Fr [cb] W W2) (hc : cb < base) : W2.ownsRow base t size (.slice AO k co) n xs :=
  h.kept (row := some cb) ⟨hf.os, hf.tape, hf.output, hf.size, fun i hi hne => hf.block i hi (by simpa using fun e => hne (by rw [e]))⟩ (by
    cases hv : Value.ownBlock (.slice AO k co) with
    | none => exact Or.inl rfl
    | some g =>
      refine Or.inr (fun e => ?_)
      have := (h.lt g hv).1
      have e2 : g = cb := by simpa using e
      omega)
theorem fr_tri {W : World} {b cb : Nat} (h : Fr [cb] wo W) (hb : wo.heap.size ≤ b) (o : Nat) (x0 x1 x2 : Value) : Fr [cb] wo (tri W b o x0 x1 x2) :=
  ⟨h.os, h.tape, h.output, by rw [tri_size]; exact h.size, fun i hi hne => (tri_other _ _ _ _ _ _ i (by omega)).trans (h.block i hi hne)⟩
theorem box_tri {W : World} {b cb mb : Nat} {N : Int} {sh : Option Nat} (h : CBox W cb mb N sh) (hb : cb ≠ b) (o : Nat) (x0 x1 x2 : Value) : CBox (tri W b o x0 x1 x2) cb mb N sh := (tri_other _ _ _ _ _ _ cb hb).trans h
theorem pt_ne (x : Pt wo) {cb mb : Nat} {N : Int} {sh : Option Nat} (h : CBox wo cb mb N sh) : x.1.1 ≠ cb := fun e => by
  obtain ⟨A, c, bs, p0, p1, p2, -⟩ := x.parts
  rw [e] at p0 p1
  unfold CBox at h
  have h0 : x.1.2.1 = 0 ∨ x.1.2.1 = 1 ∨ x.1.2.1 = 2 ∨ x.1.2.1 = 3 ∨ x.1.2.1 = 4 ∨ 5 ≤ x.1.2.1 := by omega
  rcases h0 with h0 | h0 | h0 | h0 | h0 | h0
  · rw [h0] at p0; simp [World.cell?, h] at p0
  · rw [h0] at p1; simp [World.cell?, h] at p1
  · rw [h0] at p0; simp [World.cell?, h] at p0
  · rw [h0] at p0; simp [World.cell?, h] at p0
  · rw [h0] at p0; simp [World.cell?, h] at p0
  · have hn : (#[Value.map (some mb), .int .i64 N, .map sh, .map none, .map none] : Array Value)[x.1.2.1]? = none := Array.getElem?_eq_none (by simpa using h0)
    simp only [World.cell?, h] at p0
    simp [hn] at p0
theorem bot_its {b0 b : Nat} {R : Ex} {l : List Ex} {i1 i2 : List (Un wo)} {more : List (Lev wo)} (h : Bot b0 R (⟨b, l, i1⟩ :: more)) : Bot b0 R (⟨b, l, i2⟩ :: more) := by
  cases more with
  | nil => exact h
  | cons L r => exact h
theorem zip_ty {W : World} {f : ByteArray → Option Ex} {n0 b : Nat} {l : List Ex} {its : List (Un wo)} {x : Un wo} {more : List (Lev wo)} (h : Zip W f n0 (⟨b, l, its ++ [x]⟩ :: more)) : TyN W b (l.length * 3) ∧ its.length < l.length ∧ n0 ≤ b := by
  obtain ⟨⟨t, bs, h1, h2⟩, -⟩ := h
  simp only at h1 h2
  exact ⟨h2.2.2.1, by rw [h1]; simp, h2.1⟩
/-- The cells of the place that is written. -/
theorem mid_cells {wr w4 : World} {cb mb b n tp : Nat} {N : Int} {sh : Option Nat} (hf : Fr [cb] wr w4) (hc : CBox wr cb mb N sh) (ht : TyN wr b (n * 3)) (hp : tp < n) :
    ∃ y0 y1 y2, w4.cell? ⟨b, tp * 3, none⟩ = some y0 ∧ w4.cell? ⟨b, tp * 3 + 1, none⟩ = some y1 ∧ w4.cell? ⟨b, tp * 3 + 2, none⟩ = some y2 ∧ (∀ o, w4.frozen? ⟨b, o, none⟩ = false) ∧ b < w4.heap.size := by
  have h4 := (EF.of_fr hf hc.notTy).tyn (by simp) ht
  obtain ⟨y0, h0⟩ := h4.cell (i := tp * 3) (by omega)
  obtain ⟨y1, h1⟩ := h4.cell (i := tp * 3 + 1) (by omega)
  obtain ⟨y2, h2⟩ := h4.cell (i := tp * 3 + 2) (by omega)
  exact ⟨y0, y1, y2, h0, h1, h2, fun o => h4.ty.free o, h4.ty.lt⟩
theorem cy_leaf {f : ByteArray → Option Ex} {cb mb b0 S nodes k0 co b : Nat} {sh : Option Nat} {R : Ex} {AO : Option Addr} {Ls more : List (Lev wo)} {l : List Ex} {its : List (Un wo)} {x : Un wo} {wr w4 : World} {K : Int} {s : ByteArray} {c0 : Nat} {A0 : Option Addr}
    (h : Cy wo f cb mb sh b0 R S nodes (k0 + 1) A0 c0 Ls wr) (hz : Zip wr f wo.heap.size (⟨b, l, its ++ [x]⟩ :: more)) (hb : Bot b0 R (⟨b, l, its ++ [x]⟩ :: more)) (ho : opens Ls = opens (⟨b, l, its⟩ :: more) ++ [(b, its.length, x)])
    (hr : wr.ownsRow wo.heap.size 137 3 (.slice AO k0 co) k0 (uflat (opens (⟨b, l, its⟩ :: more)))) (hf : Fr [cb] wr w4) (hc4 : CBox w4 cb mb (nodes : Int) sh) (hcl : cb < wo.heap.size) (hx : resU f x = .mk K s []) (hs : s.size ≤ 9223372036854775807) :
    Cy wo f cb mb sh b0 R S nodes k0 AO co (⟨b, l, its⟩ :: more) (tri w4 b (its.length * 3) (.int .i64 K) (.string s) (.slice none 0 0)) := by
  obtain ⟨ht, -, hnb⟩ := zip_ty hz
  have he := EF.of_fr hf h.box.notTy
  have hw : uweigh f (opens Ls) = uweigh f (opens (⟨b, l, its⟩ :: more)) + 1 := by
    rw [ho, uweigh_app]
    show _ + (exSize (resU f x) + 0) = _
    rw [hx]
    simp [exSize, exSizes]
  have hlen := h.len
  rw [ho, List.length_append, List.length_singleton] at hlen
  have hsum := h.sum
  have hle := h.le
  refine ⟨fr_tri (h.fr.trans hf (fun x hx => Or.inl hx)) hnb _ _ _ _, box_tri hc4 (by omega) _ _ _ _, row_tri (row_fr hr hf hcl) (by decide) (he.ty (by simp) ht.ty) _ _ _ _, by omega, zip_leaf (zip_ef he hz) hx hs, bot_its hb, by omega, by omega⟩
/-- The parts of one that are put on the list. -/
structure Lj (wo : World) (f : ByteArray → Option Ex) (cb mb : Nat) (sh : Option Nat) (N : Int) (k0 j : Nat) (AO : Option Addr) (co : Nat) (rest : List (Lev wo)) (T : Lev wo) (b8 : Nat) (cs : Array Value) (W : World) : Prop where
  fr : Fr [cb] wo W
  box : CBox W cb mb N sh
  zip : Zip W f wo.heap.size (T :: rest)
  bx : W.heap[b8]? = some (.cells cs 26 (0, 0))
  row : W.ownsRow wo.heap.size 137 3 (.slice AO (k0 + j) co) (k0 + j) (uflat (opens rest ++ (openOf T).take j))
theorem cy_push {f : ByteArray → Option Ex} {cb mb b0 S nodes k0 co b b2 b8 : Nat} {sh : Option Nat} {R : Ex} {AO : Option Addr} {Ls more : List (Lev wo)} {l : List Ex} {its us : List (Un wo)} {x : Un wo} {wr w4 : World} {K : Int} {s : ByteArray} {cs : Array Value} {c0 : Nat} {A0 : Option Addr}
    (h : Cy wo f cb mb sh b0 R S nodes (k0 + 1) A0 c0 Ls wr) (hz : Zip wr f wo.heap.size (⟨b, l, its ++ [x]⟩ :: more))
    (hr : wr.ownsRow wo.heap.size 137 3 (.slice AO k0 co) k0 (uflat (opens (⟨b, l, its⟩ :: more)))) (hf : Fr [cb] wr w4) (hc4 : CBox w4 cb mb ((nodes : Int) + us.length) sh) (hcl : cb < wo.heap.size) (hx : resU f x = .mk K s (us.map (resU f))) (hs : s.size ≤ 9223372036854775807)
    (hb2 : wr.heap.size ≤ b2) (hT2 : TyN w4 b2 (us.length * 3)) (hul : us.length ≤ 9223372036854775807) (hb8 : w4.heap[b8]? = some (.cells cs 26 (0, 0))) (h8 : wr.heap.size ≤ b8) :
    Lj wo f cb mb sh ((nodes : Int) + us.length) k0 0 AO co (⟨b, l, its⟩ :: more) ⟨b2, us.map (resU f), us⟩ b8 cs (tri w4 b (its.length * 3) (.int .i64 K) (.string s) (.slice (some ⟨b2, 0, none⟩) us.length us.length)) := by
  obtain ⟨ht, -, hnb⟩ := zip_ty hz
  have he := EF.of_fr hf h.box.notTy
  have hbl := ht.ty.lt
  refine ⟨fr_tri (h.fr.trans hf (fun x hx => Or.inl hx)) hnb _ _ _ _, box_tri hc4 (by omega) _ _ _ _, zip_push hz hx hs he hb2 hT2 hul, (tri_other _ _ _ _ _ _ _ (by omega)).trans hb8, ?_⟩
  have := row_tri (row_fr hr hf hcl) (by decide) (he.ty (by simp) ht.ty) (its.length * 3) (.int .i64 K) (.string s) (.slice (some ⟨b2, 0, none⟩) us.length us.length)
  simpa using this
theorem openOf_get (b : Nat) (l : List Ex) (us : List (Un wo)) {j : Nat} {u : Un wo} (h : us[j]? = some u) : (openOf ⟨b, l, us⟩).take (j + 1) = (openOf ⟨b, l, us⟩).take j ++ [(b, j, u)] := by
  have hj : j < (openOf ⟨b, l, us⟩).length := by rw [openOf_len]; exact (List.getElem?_eq_some_iff.1 h).1
  rw [List.take_succ_eq_append_getElem hj]
  congr 2
  obtain ⟨h1, h2⟩ := List.getElem?_eq_some_iff.1 h
  simp [openOf, h2]
theorem Lj.step {f : ByteArray → Option Ex} {cb mb k0 j co b8 b2 g2 cap2 : Nat} {sh : Option Nat} {N : Int} {AO : Option Addr} {rest : List (Lev wo)} {l : List Ex} {us : List (Un wo)} {u : Un wo} {cs : Array Value} {W W0 W2 : World}
    (h : Lj wo f cb mb sh N k0 j AO co rest ⟨b2, l, us⟩ b8 cs W) (hu : us[j]? = some u) (hcl : cb < wo.heap.size) (h0 : Below W.heap.size W W0)
    (ho : W2.ownsRow wo.heap.size 137 3 (.slice (some ⟨g2, 0, none⟩) (k0 + j + 1) cap2) (k0 + j + 1) (uflat (opens rest ++ (openOf ⟨b2, l, us⟩).take j) ++ ucells (b2, j, u))) (hg : W0.grownBy W2 (Value.ownBlock (.slice AO (k0 + j) co))) :
    Lj wo f cb mb sh N k0 (j + 1) (some ⟨g2, 0, none⟩) cap2 rest ⟨b2, l, us⟩ b8 cs W2 := by
  have hk : ∀ i, i < W.heap.size → Value.ownBlock (.slice AO (k0 + j) co) ≠ some i → W2.heap[i]? = W.heap[i]? := fun i hi hne => (hg.block i (Nat.lt_of_lt_of_le hi h0.size) (fun e => hne e.symm)).trans (h0.block i hi)
  have hlo : ∀ i, i < wo.heap.size → Value.ownBlock (.slice AO (k0 + j) co) ≠ some i := fun i hi e => by have := (h.row.lt i e).1; omega
  have hsz : W.heap.size ≤ W2.heap.size := Nat.le_trans h0.size hg.size
  have hs := h.fr.size
  have hef : EF [] W W2 := ⟨hsz, fun y _ ht => hk y ht.lt (row_not h.row (by decide) ht)⟩
  refine ⟨⟨hg.os.trans (h0.os.trans h.fr.os), hg.tape.trans (h0.tape.trans h.fr.tape), hg.output.trans (h0.output.trans h.fr.output), Nat.le_trans hs hsz, fun i hi hne => (hk i (by omega) (hlo i hi)).trans (h.fr.block i hi hne)⟩, (hk cb (by omega) (hlo cb hcl)).trans h.box, zip_ef hef h.zip, ?_, ?_⟩
  · exact (hef.block b8 (by simp) ⟨_, h.bx⟩).trans h.bx
  · rw [openOf_get b2 l us hu, ← List.append_assoc, uflat_one, ← Nat.add_assoc]
    exact ho
theorem cy_next {f : ByteArray → Option Ex} {cb mb b0 S nodes k0 co b b2 b8 : Nat} {sh : Option Nat} {R : Ex} {AO : Option Addr} {Ls more : List (Lev wo)} {l : List Ex} {its us : List (Un wo)} {x : Un wo} {wr W : World} {K : Int} {s : ByteArray} {cs : Array Value} {c0 : Nat} {A0 : Option Addr}
    (h : Cy wo f cb mb sh b0 R S nodes (k0 + 1) A0 c0 Ls wr) (hb : Bot b0 R (⟨b, l, its ++ [x]⟩ :: more)) (ho : opens Ls = opens (⟨b, l, its⟩ :: more) ++ [(b, its.length, x)]) (hx : resU f x = .mk K s (us.map (resU f)))
    (hl : Lj wo f cb mb sh ((nodes : Int) + us.length) k0 us.length AO co (⟨b, l, its⟩ :: more) ⟨b2, us.map (resU f), us⟩ b8 cs W) :
    Cy wo f cb mb sh b0 R S (nodes + us.length) (k0 + us.length) AO co (⟨b2, us.map (resU f), us⟩ :: ⟨b, l, its⟩ :: more) W ∧ uweigh f (opens Ls) = uweigh f (opens (⟨b2, us.map (resU f), us⟩ :: ⟨b, l, its⟩ :: more)) + 1 := by
  have hlen := h.len
  rw [ho, List.length_append, List.length_singleton] at hlen
  have ht : (openOf ⟨b2, us.map (resU f), us⟩).take us.length = openOf ⟨b2, us.map (resU f), us⟩ := List.take_of_length_le (by rw [openOf_len]; exact Nat.le_refl _)
  have hn : opens (⟨b2, us.map (resU f), us⟩ :: ⟨b, l, its⟩ :: more) = opens (⟨b, l, its⟩ :: more) ++ openOf ⟨b2, us.map (resU f), us⟩ := by rw [opens]
  have hw : uweigh f (opens Ls) = uweigh f (opens (⟨b2, us.map (resU f), us⟩ :: ⟨b, l, its⟩ :: more)) + 1 := by
    rw [ho, uweigh_app, hn, uweigh_app, openOf_weigh]
    show _ + (exSize (resU f x) + 0) = _
    rw [hx, exSize]
    show _ + (exSizes (us.map (resU f)) + 1 + 0) = _ + exSizes (us.map (resU f)) + 1
    omega
  have hsum := h.sum
  have hle := h.le
  have hr := hl.row
  rw [ht, ← hn] at hr
  refine ⟨⟨hl.fr, by have := hl.box; rw [show ((nodes + us.length : Nat) : Int) = (nodes : Int) + us.length by omega]; exact this, hr, by rw [hn, List.length_append, openOf_len]; show _ + us.length = _; omega, hl.zip, (show Bot b0 R (⟨b, l, its⟩ :: more) from bot_its hb), by omega, by omega⟩, hw⟩
end
set_option maxHeartbeats 2000000 in
theorem own_argsNone (cb : Nat) (A : Option Addr) (c : Nat) (b : Bool) (w : World) : Calls Try.prog 97 #[.pointer (some ⟨cb, 0, none⟩), .slice A 0 c, .int .i64 (lay b)] w (fun r w2 => r = .returned (.tuple #[.slice none 0 0, .bool false]) ∧ Below w.heap.size w w2) := by
  have HB := Lib.hid (Below.refl w.heap.size w)
  go_enter Try.func97, Try.ntmps97
  go_wp2_with fail
  refine bodyPost_ret (v := .tuple #[.slice none 0 0, .bool false]) (by simp [results, Try.results97, go_sem]) rfl ?_
  exact ⟨rfl, HB.out⟩
end Go.Proofs.Ytbnghkgfbjipdaa
