/- The contract of the laws' look at the marks in an expression's memory. Condition: fewer than 2^38 nodes. Bindings that are applied, as plain data: what stands for a part in a layer, and what is made of it. No condition. The contracts of the draws' cursor: it is made over the bytes of a code, and gives numbers below a bound. Condition: the code is at most 1048576 bytes long. Rows of cells beside a cursor. No condition. -/
import Derived.Test.YtbnghkgfbjipdaaMa04
import Derived.Deep.RegionHeld3
import Derived.Test.YtbnghkgfbjipdaaMa03
import Derived.Test.YtbnghkgfbjipdaaRows
import Derived.WalkKit
import Derived.WalkSpells
import Derived.WalkLawsBesides
import Derived.WalkSmall
import Derived.Lib.Hide
import Derived.Deep.QuietTactic
import Derived.BigQuiet
import Derived.Laws.BitsLemmas
import Derived.Deep.Draws
namespace Go.Proofs.Ytbnghkgfbjipdaa
open Go Go.RowKit

theorem mkExs_get : ∀ (l : List Ex) (M : Int) (k : Nat) (e : Ex), l[k]? = some e → (mkExs M l)[k]? = some (mkEx (M + 2 * (exSizes (l.take k) : Int)) e) := by
  intro l
  induction l with
  | nil => intro M k e h; simp at h
  | cons x r ih =>
    intro M k e h
    rw [mkExs]
    cases k with
    | zero =>
      simp at h
      subst h
      simp [exSizes]
    | succ k =>
      rw [List.getElem?_cons_succ, ih _ k e (by simpa using h), List.take_succ_cons, exSizes]
      congr 2
      omega
def HeldEnd (M : Int) (l : List Ex) (w : World) (r : Ending) (w' : World) : Prop := r = .returned (.int .i64 (M + 2 * (exSizes l : Int))) ∧ Below w.heap.size w w'

set_option maxHeartbeats 4000000 in
theorem held_exs (n : Nat) : ∀ (l : List Ex) (v : Value) (bs : List Nat) (w : World) (M : Int), exSizes l ≤ n → SlIs w v (mkExs M l) bs → 1 ≤ M → M + 2 * (exSizes l : Int) ≤ 4398046511104 →
    Calls Try.prog 88 #[v, .int .i64 M] w (HeldEnd M l w) := by
  induction n with
  | zero =>
    intro l v bs w M hle hv hM0 hM1
    cases l with
    | cons e r => rw [exSizes] at hle; have := exSize_pos e; omega
    | nil =>
      obtain ⟨A, c, rfl, hc1, hc2, -⟩ := hv
      go_enter Try.func88, Try.ntmps88
      go_wp2_with fail
      go_loopw [1, 5] (fun m i wr => m = .int .i64 M ∧ i = .int .i64 0 ∧ w = wr) (fun _ _ _ => 0)
      case atStart => exact ⟨rfl, rfl, rfl⟩
      case round =>
        obtain ⟨rfl, rfl, rfl⟩ := hrel
        go_wp2_with fail
        go_ret
        exact ⟨by simp [exSizes], Below.refl _ _⟩
  | succ n ih =>
    intro l v bs w M hle hv hM0 hM1
    obtain ⟨A, c, rfl, hc1, hc2, -⟩ := id hv
    rw [mkExs_len] at hc1 hv ⊢
    obtain ⟨m, hm⟩ : ∃ m, m = l.length := ⟨_, rfl⟩
    rw [← hm] at hc1 hv ⊢
    have HM := Lib.hid hm
    have HN := Lib.hid hle
    have HIH := Lib.hid ih
    have HB1 := Lib.hid hM1
    have HV := Lib.hid hv
    have hc3 : (m : Int) ≤ 9223372036854775807 := by omega
    clear hm hle ih hv hM1
    go_enter Try.func88, Try.ntmps88
    go_wp2_with fail
    go_loopw [1, 5] (fun mm i wr => ∃ (k : Nat) (z : Int), k ≤ m ∧ i = .int .i64 (k : Int) ∧ mm = .int .i64 z ∧ 1 ≤ z ∧ z ≤ 4398046511104 ∧ Hid (z = M + 2 * (exSizes (l.take k) : Int)) ∧ Hid (Below w.heap.size w wr)) (fun _ i _ => m - (intOf i).toNat)
    case atStart => exact ⟨0, M, Nat.zero_le _, rfl, rfl, hM0, by have := HB1.out; omega, Lib.hid (by simp [exSizes]), Lib.hid (Below.refl _ _)⟩
    case round =>
      obtain ⟨k, z, hk, rfl, rfl, hz0, hz1, HZ, HB⟩ := hrel
      by_cases hlt : k < m
      · have hkl : k < l.length := by rw [← HM.out]; exact hlt
        obtain ⟨e, hget⟩ : ∃ e, l[k]? = some e := ⟨_, List.getElem?_eq_getElem hkl⟩
        obtain ⟨g, o, e2, u, b1, rfl, hbl, hget2, -, q0, q1, q2, his, -⟩ := (HV.out.below HB.out).get k (by rw [mkExs_len]; exact hkl)
        rw [mkExs_get l M k e hget, ← HZ.out] at hget2
        obtain rfl := Option.some.inj hget2
        have he : mkEx z e = .mk z (mt (z + 1)) (mkExs (z + 2) e.args) := by cases e; rfl
        rw [he] at q0 q1 his
        obtain ⟨u', eu, -, hu⟩ := his
        obtain rfl : u = u' := by simpa using eu
        have q0' : wr.cell? ⟨g, o + k * 3, none⟩ = some (.int .i64 z) := q0
        have q1' : wr.cell? ⟨g, o + k * 3 + 1, none⟩ = some (.string (mt (z + 1))) := q1
        have HUU := Lib.hid (show SlIs wr u (mkExs (z + 2) e.args) b1 from hu)
        have HSN := Lib.hid (sizes_snoc2 l k e hget)
        have HTK := Lib.hid (sizes_take2 l (k + 1))
        have HES := Lib.hid (show exSize e = exSizes e.args + 1 by cases e; rfl)
        have HEM := Lib.hid (exSizes_mem (List.mem_of_getElem? hget))
        have hzb : z + 2 * (exSize e : Int) ≤ 4398046511104 := by
          have h1 := HZ.out
          have h2 := HSN.out
          have h3 := HTK.out
          have h4 := HB1.out
          omega
        have HZB := Lib.hid hzb
        have hp1 := exSize_pos e
        have HC := Lib.hid (fun (W : World) => mark_text (z + 1) (by omega) (by omega) W)
        have HCALL := Lib.hid (fun (W : World) (h : Hid (Below wr.heap.size wr W)) => HIH.out e.args _ b1 W (z + 1 + 1) (by have := HES.out; have := HEM.out; have := HN.out; omega) (by rw [show z + 1 + 1 = z + 2 by omega]; exact HUU.out.below h.out) (by omega) (by have := HES.out; have := HZB.out; omega))
        obtain ⟨A1, c1, hus, -, -, -⟩ := id HUU.out
        rw [mkExs_len] at hus
        generalize hS : mt (z + 1) = S at *
        clear hS q0 q1 he hu eu hget hzb hget2 
        generalize hq : e.args.length = q at *
        clear hq
        subst hus
        have H3 := Lib.hid (And.intro q1' q2)
        have hk0 : 0 ≤ (k : Int) := by omega
        have hkm : (k : Int) < (m : Int) := by omega
        go_wp2_with fail
        go_region_held3 (fun X => X.cell? ⟨g, o + k * 3 + 1, none⟩ = some (.string S) ∧ Hid (Below wr.heap.size wr X))
          (first | exact keep_start q1' | exact keep_step (a := ⟨g, o + k * 3 + 1, none⟩) hbl hb2 (by assumption))
          (first | (go_at_call 87; refine (HC.out _).mono ?_; rintro e w2 ⟨rfl, hb2⟩))
        all_goals
          have hx := ‹_ ∧ Hid (Below wr.heap.size wr w2)›
          have HX := Lib.hid (Lib.hid hx.2.out)
          have q3 : w2.cell? ⟨g, o + k * 3 + 2, none⟩ = some (.slice A1 q c1) := (hx.2.out.cell (p := ⟨g, o + k * 3 + 2, none⟩) hbl).trans q2
          clear hx
          go_wp2_with fail
          go_at_call 88
          refine (HCALL.out _ HX.out).mono ?_
          rintro r w4 ⟨rfl, hb4⟩
          have HB4 := Lib.hid (HB.out.trans ((HX.out.out.trans (hb4.mono HX.out.out.size)).mono HB.out.size))
          obtain ⟨z4, hz4⟩ : ∃ z4, z4 = z + 1 + 1 + 2 * (exSizes e.args : Int) := ⟨_, rfl⟩
          rw [← hz4]
          have HZ4 := Lib.hid (show z4 = M + 2 * (exSizes (l.take (k + 1)) : Int) by
            have h1 := HZ.out
            have h2 := HSN.out
            have h3 := HES.out
            omega)
          have hz41 : 1 ≤ z4 := by omega
          have hz42 : z4 ≤ 4398046511104 := by have := HZB.out; have := HES.out; omega
          have hz43 : decide (z4 < 0) = false := by simp; omega
          clear hz4 hb4 q0' q1' q2 q3
          go_wp2_with fail
          go_roundw
          case rel => exact ⟨k + 1, z4, by omega, by go_num, rfl, hz41, hz42, HZ4, HB4⟩
          case measure => simp [intOf]; omega
      · have HE := Lib.hid (show l.take k = l from List.take_of_length_le (by rw [← HM.out]; omega))
        have HEND := Lib.hid (show z = M + 2 * (exSizes l : Int) by have := HZ.out; rw [HE.out] at this; exact this)
        go_wp2_with fail
        go_ret
        exact ⟨by rw [← HEND.out]; rfl, HB.out⟩

set_option maxHeartbeats 1000000 in
theorem held_expr (e : Ex) (K : Int) (S : ByteArray) (v : Value) (bs : List Nat) (w : World) (M : Int) (hv : ExIs w v (.mk K S (mkExs M e.args)) bs) (h0 : 1 ≤ M) (h1 : M + 2 * (exSizes e.args : Int) ≤ 4398046511104) :
    Calls Try.prog 45 #[v, .int .i64 M] w (HeldEnd M e.args w) := by
  obtain ⟨u, rfl, hsz, hu⟩ := hv
  have hu' : SlIs w u (mkExs M e.args) bs := hu
  obtain ⟨A, c, rfl, -⟩ := id hu'
  have HB0 := Lib.hid ((Below.refl w.heap.size w).alloc (Nat.le_refl _) (.cells #[.int .i64 K, .string S, .slice A (mkExs M e.args).length c] 26))
  have HC := Lib.hid (held_exs (exSizes e.args) e.args _ bs _ M (Nat.le_refl _) (hu'.below HB0.out) h0 h1)
  obtain ⟨z, hz⟩ : ∃ z, z = M + 2 * (exSizes e.args : Int) := ⟨_, rfl⟩
  have HZ := Lib.hid hz
  have hz1 : 1 ≤ z := by omega
  have hzd : decide (z < 0) = false := by simp; omega
  generalize (mkExs M e.args).length = q at *
  clear hu hu' hsz h1 hz
  go_enter Try.func45, Try.ntmps45
  go_wp2_with fail
  go_at_call 88
  refine HC.out.mono ?_
  rintro r w1 ⟨rfl, hb1⟩
  rw [← HZ.out]
  have HB1 := Lib.hid (HB0.out.trans (hb1.mono HB0.out.size))
  clear hb1
  go_wp2_with fail
  go_ret
  exact ⟨by rw [← HZ.out]; rfl, HB1.out⟩
end Go.Proofs.Ytbnghkgfbjipdaa

namespace Go.Proofs.Ytbnghkgfbjipdaa
open Go Go.RowKit

/-- The first value at a name. -/
def valOf : List Bi → ByteArray → Option Ex
  | [], _ => none
  | b :: r, s => if b.name = s then some b.val else valOf r s
mutual
/-- An expression with its variables replaced. -/
def subE (f : ByteArray → Option Ex) : Ex → Ex
  | .mk k s l => if k = 1 then (f s).getD (.mk k s l) else .mk k s (subEs f l)
def subEs (f : ByteArray → Option Ex) : List Ex → List Ex
  | [] => []
  | e :: r => subE f e :: subEs f r
end
theorem subEs_map (f : ByteArray → Option Ex) : ∀ l : List Ex, subEs f l = l.map (subE f) := by
  intro l
  induction l with
  | nil => rfl
  | cons e r ih => rw [subEs, ih]; rfl
/-- A part in a layer: true where it was inserted. -/
def resE (f : ByteArray → Option Ex) (e : Ex) (b : Bool) : Ex := if b = true then e else subE f e
/-- What stands for a part, and its layer. -/
def replE (f : ByteArray → Option Ex) (e : Ex) (b : Bool) : Ex := if b = true ∨ e.kind ≠ 1 then e else (f e.name).getD e
def replB (e : Ex) (b : Bool) : Bool := if b = true ∨ e.kind ≠ 1 then b else true
theorem res_repl (f : ByteArray → Option Ex) (e : Ex) (b : Bool) : resE f (replE f e b) (replB e b) = resE f e b := by
  cases e with
  | mk k s l =>
    cases b with
    | true => simp [resE, replE, replB]
    | false =>
      by_cases hk : k = 1
      · simp [resE, replE, replB, Ex.kind, Ex.name, hk, subE]
      · simp [resE, replE, replB, Ex.kind, hk]
theorem res_node (f : ByteArray → Option Ex) (e : Ex) (b : Bool) (h : b = true ∨ e.kind ≠ 1) : resE f e b = .mk e.kind e.name (e.args.map (fun x => resE f x b)) := by
  cases e with
  | mk k s l =>
    rcases h with rfl | h
    · simp [resE, Ex.kind, Ex.name, Ex.args]
    · cases b with
      | true => simp [resE, Ex.kind, Ex.name, Ex.args]
      | false =>
        have h : ¬ k = 1 := h
        simp [resE, Ex.kind, Ex.name, Ex.args, subE, h, subEs_map]
theorem repl_done (f : ByteArray → Option Ex) (e : Ex) (b : Bool) : replB e b = true ∨ (replE f e b).kind ≠ 1 := by
  by_cases h : b = true ∨ e.kind ≠ 1
  · simp only [replE, replB, if_pos h]; exact h
  · simp only [replB, if_neg h]; exact Or.inl trivial
/-- The result at a part: its head is that of what stands for it. -/
theorem res_is (f : ByteArray → Option Ex) (e : Ex) (b : Bool) : resE f e b = .mk (replE f e b).kind (replE f e b).name ((replE f e b).args.map (fun x => resE f x (replB e b))) := by
  rw [← res_repl f e b]
  exact res_node f _ _ (repl_done f e b)
theorem repl_len (f : ByteArray → Option Ex) (e : Ex) (b : Bool) : (replE f e b).args.length = (resE f e b).args.length := by
  rw [res_is f e b]; simp [Ex.args]
theorem res_size (f : ByteArray → Option Ex) (e : Ex) (b : Bool) : exSize (resE f e b) = exSizes ((replE f e b).args.map (fun x => resE f x (replB e b))) + 1 := by
  rw [res_is f e b, exSize]
theorem exSizes_append : ∀ (a b : List Ex), exSizes (a ++ b) = exSizes a + exSizes b := by
  intro a
  induction a with
  | nil => intro b; simp [exSizes]
  | cons x r ih => intro b; rw [List.cons_append, exSizes, exSizes, ih]; omega
theorem subE_none : ∀ (n : Nat) (e : Ex), exSize e ≤ n → subE (fun _ => none) e = e := by
  intro n
  induction n with
  | zero => intro e h; have := exSize_pos e; omega
  | succ n ih =>
    intro e h
    cases e with
    | mk k s l =>
      rw [exSize] at h
      by_cases hk : k = 1
      · simp [subE, hk]
      · have hl : ∀ r : List Ex, exSizes r ≤ n → subEs (fun _ => none) r = r := by
          intro r
          induction r with
          | nil => intro _; rfl
          | cons x t iht =>
            intro hr
            rw [exSizes] at hr
            rw [subEs, ih x (by omega), iht (by omega)]
        simp [subE, hk, hl l (by omega)]
theorem sub_nil (e : Ex) : subE (valOf []) e = e := subE_none _ e (Nat.le_refl _)
end Go.Proofs.Ytbnghkgfbjipdaa

namespace Go.Proofs.Ytbnghkgfbjipdaa
open Go Go.RowKit

/-- The slice at A reads as the bytes zs; it lies below block B. -/
def Bytes (w : World) (B : Nat) (A : Option Addr) (zs : List Int) : Prop :=
  ∀ i z, zs[i]? = some z → ∃ a, A = some a ∧ w.cell? (a.add i) = some (.int .u8 z) ∧ 0 ≤ z ∧ z ≤ 255 ∧ a.block < B
theorem block_addD (a : Addr) (n : Nat) : (a.add n).block = a.block := by unfold Addr.add; split <;> rfl
theorem Bytes.below {w w' : World} {B : Nat} {A : Option Addr} {zs : List Int} (h : Bytes w B A zs) (hb : Below B w w') : Bytes w' B A zs := fun i z hz => by
  obtain ⟨a, e, hc, h0, h1, hl⟩ := h i z hz
  exact ⟨a, e, (hb.cell (p := a.add i) (by rw [block_addD]; exact hl)).trans hc, h0, h1, hl⟩
theorem Bytes.get {w : World} {B : Nat} {A : Option Addr} {zs : List Int} (h : Bytes w B A zs) (k : Nat) (hk : k < zs.length) : ∃ a z, A = some a ∧ w.cell? (a.add k) = some (.int .u8 z) ∧ 0 ≤ z ∧ z ≤ 255 ∧ a.block < B := by
  obtain ⟨a, e, hc, h0, h1, hl⟩ := h k zs[k] (List.getElem?_eq_getElem hk)
  exact ⟨a, zs[k], e, hc, h0, h1, hl⟩

/-- Block g is a cursor over the code. -/
def Cur (w : World) (g : Nat) (A : Option Addr) (n cap : Nat) : Prop :=
  ∃ (k : Nat) (h : Int), k ≤ n ∧ w.heap[g]? = some (.cells #[.slice A n cap, .int .i64 (k : Int), .int .i64 h] 117 (0, 0))

theorem mask_and (n : Int) (j : Nat) (m : Int) (hm : (BitVec.ofInt 64 m).toNat = 2 ^ j - 1) (hj : j ≤ 62) : 0 ≤ bits .and .i64 n m ∧ bits .and .i64 n m < ((2 ^ j : Nat) : Int) := by
  have key : (BitVec.ofInt 64 n &&& BitVec.ofInt 64 m).toNat = (n % ((2 ^ 64 : Nat) : Int)).toNat % 2 ^ j := by
    rw [BitVec.toNat_and, BitVec.toNat_ofInt, hm, Nat.and_two_pow_sub_one_eq_mod]
  have e : bits .and .i64 n m = IntKind.i64.wrap ((BitVec.ofInt 64 n &&& BitVec.ofInt 64 m).toNat : Nat) := rfl
  have hlt := Nat.mod_lt (n % ((2 ^ 64 : Nat) : Int)).toNat (Nat.two_pow_pos j)
  have hp : 2 ^ j ≤ 2 ^ 62 := Nat.pow_le_pow_right (by decide) hj
  have e62 : (2 : Nat) ^ 62 = 4611686018427387904 := by decide
  rw [e, key, IntKind.wrap_i64]
  generalize (n % ((2 ^ 64 : Nat) : Int)).toNat % 2 ^ j = r at *
  generalize 2 ^ j = M at *
  omega
theorem and255 (n : Int) : 0 ≤ bits .and .i64 n 255 ∧ bits .and .i64 n 255 ≤ 255 := by
  have h := mask_and n 8 255 (by decide) (by decide)
  have e : ((2 ^ 8 : Nat) : Int) = 256 := by decide
  rw [e] at h
  omega

def NewPost (B : Nat) (A : Option Addr) (n cap : Nat) (w : World) (e : Ending) (w' : World) : Prop :=
  ∃ g, e = .returned (.pointer (some ⟨g, 0, none⟩)) ∧ Cur w' g A n cap ∧ B ≤ g ∧ Below B w w'

set_option maxHeartbeats 1000000 in
theorem new_any (B : Nat) (A : Option Addr) (zs : List Int) (cap : Nat) (w : World) (hs : Bytes w B A zs) (hB : B ≤ w.heap.size) (hn : zs.length ≤ 1048576) :
    Calls Try.prog 51 #[.slice A zs.length cap] w (NewPost B A zs.length cap w) := by
  obtain ⟨n, hnn⟩ : ∃ n, n = zs.length := ⟨_, rfl⟩
  have HN := Lib.hid hnn
  have HS := Lib.hid hs
  rw [← hnn]
  rw [← hnn] at hn
  have HB := Lib.hid hB
  clear hs hnn hB
  go_enter Try.func51, Try.ntmps51
  go_wp2
  go_loop [3, 4] (fun h i => ∃ (k : Nat) (hh : Int), k ≤ n ∧ i = .int .i64 (k : Int) ∧ h = .int .i64 hh) (fun _ i => n - (intOf i).toNat)
  case atStart => exact ⟨0, _, Nat.zero_le _, rfl, rfl⟩
  case round =>
    obtain ⟨k, hh, hk, rfl, rfl⟩ := hrel
    have HP := Lib.hid (fun (h : Int) => show NewPost B A n cap w (.returned (.pointer (some ⟨w.heap.size, 0, none⟩))) (w.alloc (.cells #[.slice A n cap, .int .i64 0, .int .i64 h] 117)) from
      ⟨w.heap.size, rfl, ⟨0, h, Nat.zero_le _, heap_alloc_new w _⟩, HB.out, (Below.refl B w).alloc HB.out _⟩)
    by_cases hlt : k < n
    · by_cases h4 : (k : Int) < 4000
      · obtain ⟨a, z, rfl, hc, hz0, hz1, -⟩ := HS.out.get k (by rw [← HN.out]; exact hlt)
        go_wp2
        go_round
        case rel => exact ⟨k + 1, _, by omega, by go_num, rfl⟩
        case measure => simp [intOf]; omega
      · go_wp2
        go_ret
        exact HP.out _
    · go_wp2
      go_ret
      exact HP.out _

/-- Only block g, and what is new, has turned. -/
def Only (g : Nat) (w w' : World) : Prop := w.grownBy w' (some g)
theorem Only.refl (g : Nat) (w : World) : Only g w w := World.grownBy.refl w _
theorem Only.trans {g : Nat} {a b c : World} (h : Only g a b) (k : Only g b c) : Only g a c :=
  ⟨k.os.trans h.os, k.tape.trans h.tape, k.output.trans h.output, Nat.le_trans h.size k.size, fun i hi hn => (k.block i (Nat.lt_of_lt_of_le hi h.size) hn).trans (h.block i hi hn)⟩
theorem Only.drewN {g : Nat} {a b : World} (h : Only g a b) (n : Nat) : Only g a (b.drewN n) := ⟨h.os, h.tape, h.output, h.size, h.block⟩
theorem Only.set_ {g : Nat} {a w : World} (h : Only g a w) (k : Nat) (u : Value) : Only g a (w.setCell ⟨g, k, none⟩ u) :=
  ⟨h.os, h.tape, h.output, by simpa [World.setCell] using h.size, fun i hi hne => (Below.heap_setCell w ⟨g, k, none⟩ u i (fun e => hne (by rw [e]))).trans (h.block i hi hne)⟩
theorem Only.below {g B : Nat} {a b : World} (h : Only g a b) (hg : B ≤ g) (hB : B ≤ a.heap.size) : Below B a b :=
  ⟨h.os, h.tape, h.output, h.size, fun k hk => h.block k (Nat.lt_of_lt_of_le hk hB) (fun e => by have := Option.some.inj e; omega)⟩
theorem Cur.lt {w : World} {g n cap : Nat} {A : Option Addr} (h : Cur w g A n cap) : g < w.heap.size := by
  obtain ⟨k, x, -, hr⟩ := h
  rcases Nat.lt_or_ge g w.heap.size with h' | h'
  · exact h'
  · rw [Array.getElem?_eq_none h'] at hr; cases hr
theorem Bytes.only {w w' : World} {B g : Nat} {A : Option Addr} {zs : List Int} (h : Bytes w B A zs) (ho : Only g w w') (hg : B ≤ g) (hB : B ≤ w.heap.size) : Bytes w' B A zs := h.below (ho.below hg hB)

def BytePost (g : Nat) (A : Option Addr) (n cap : Nat) (w : World) (e : Ending) (w' : World) : Prop :=
  ∃ x : Int, e = .returned (.int .i64 x) ∧ 0 ≤ x ∧ x ≤ 255 ∧ Cur w' g A n cap ∧ Only g w w'

theorem row_set {w : World} {g : Nat} {cs : Array Value} {t : TypeId} (h : w.heap[g]? = some (.cells cs t (0, 0))) (i : Nat) (u : Value) : (w.setCell ⟨g, i, none⟩ u).heap[g]? = some (.cells (cs.setIfInBounds i u) t (0, 0)) := by
  simp [World.setCell, Array.getElem?_modify, h]

theorem byte_end {g k n cap : Nat} {A : Option Addr} {h : Int} {w W : World} (hrow : W.heap[g]? = some (.cells #[.slice A n cap, .int .i64 (k : Int), .int .i64 h] 117 (0, 0))) (hb : Only g w W) (hlt : k < n) (y : Int) :
    BytePost g A n cap w (.returned (.int .i64 (bits BinOp.and IntKind.i64 y 255))) (W.setCell ⟨g, 1, none⟩ (.int .i64 ((k : Int) + 1))) := by
  refine ⟨_, rfl, (and255 y).1, (and255 y).2, ⟨k + 1, h, hlt, ?_⟩, hb.set_ 1 _⟩
  have h2 := row_set hrow 1 (.int .i64 ((k : Int) + 1))
  simpa using h2

set_option maxHeartbeats 1000000 in
theorem byte_any (B g : Nat) (A : Option Addr) (zs : List Int) (cap : Nat) (w : World) (hs : Bytes w B A zs) (hg : B ≤ g) (hc : Cur w g A zs.length cap) (hn : zs.length ≤ 1048576) :
    Calls Try.prog 110 #[.pointer (some ⟨g, 0, none⟩)] w (BytePost g A zs.length cap w) := by
  obtain ⟨n, hnn⟩ : ∃ n, n = zs.length := ⟨_, rfl⟩
  rw [← hnn]
  rw [← hnn] at hn hc
  have hlt0 := hc.lt
  obtain ⟨k, h, hk, hrow⟩ := hc
  have hc2 : w.cell? ⟨g, 2, none⟩ = some (.int .i64 h) := cell_of_row w g 2 _ 117 (0, 0) hrow
  have hf2 : w.frozen? ⟨g, 2, none⟩ = false := by simp [World.frozen?, hrow]
  have HN := Lib.hid hnn
  have HROW := Lib.hid hrow
  have HS := Lib.hid hs
  have HG := Lib.hid hg
  have HBS := Lib.hid (Nat.le_trans hg (Nat.le_of_lt hlt0))
  clear hs hnn hrow hg hlt0
  go_enter Try.func110, Try.ntmps110
  go_wp2
  generalize wrap64 (h * 6364136223846793005) = m1
  generalize wrap64 (m1 + 1442695040888963407) = h1
  have hrow1 := row_set HROW.out 2 (.int .i64 h1)
  have hb1 : Only g w (w.setCell ⟨g, 2, none⟩ (.int .i64 h1)) := (Only.refl g w).set_ 2 _
  have hs1 := HS.out.only hb1 HG.out HBS.out
  clear hc2 hf2
  generalize w.setCell ⟨g, 2, none⟩ (.int .i64 h1) = W1 at *
  simp only [List.setIfInBounds_toArray, List.set_cons_succ, List.set_cons_zero] at hrow1
  have c0 : W1.cell? ⟨g, 0, none⟩ = some (.slice A n cap) := cell_of_row W1 g 0 _ 117 (0, 0) hrow1
  have c1 : W1.cell? ⟨g, 1, none⟩ = some (.int .i64 (k : Int)) := cell_of_row W1 g 1 _ 117 (0, 0) hrow1
  have c2 : W1.cell? ⟨g, 2, none⟩ = some (.int .i64 h1) := cell_of_row W1 g 2 _ 117 (0, 0) hrow1
  have f1 : W1.frozen? ⟨g, 1, none⟩ = false := by simp [World.frozen?, hrow1]
  have HROW1 := Lib.hid hrow1
  have HB1 := Lib.hid hb1
  have HS1 := Lib.hid hs1
  clear hrow1 hb1 hs1
  go_quiet (fail)
  go_wp2
  obtain ⟨x0, x1⟩ := and255 (bits BinOp.xor IntKind.i64 (h1 / 8589934592) (h1 / 35184372088832))
  generalize bits BinOp.and IntKind.i64 (bits BinOp.xor IntKind.i64 (h1 / 8589934592) (h1 / 35184372088832)) 255 = x at *
  generalize bits BinOp.xor IntKind.i64 (h1 / 8589934592) (h1 / 35184372088832) = y1
  generalize h1 / 8589934592 = y2
  generalize h1 / 35184372088832 = y3
  by_cases hlt : k < n
  · obtain ⟨a, z, rfl, hcz, hz0, hz1, -⟩ := HS1.out.get k (by rw [← HN.out]; exact hlt)
    have hk0 : 0 ≤ (k : Int) := by omega
    have hkn : (k : Int) < (n : Int) := by omega
    go_quiet (fail)
    go_wp2
    go_quiet (fail)
    go_wp2
    go_ret
    refine byte_end (h := h1) ?_ ?_ hlt (x + z)
    · exact HROW1.out
    · exact HB1.out.drewN _
  · go_quiet (fail)
    go_wp2
    go_ret
    exact ⟨x, rfl, x0, x1, ⟨k, h1, hk, HROW1.out⟩, (HB1.out.drewN _).drewN _⟩

def NumPost (lim : Int) (g : Nat) (A : Option Addr) (n cap : Nat) (w : World) (e : Ending) (w' : World) : Prop :=
  ∃ x : Int, e = .returned (.int .i64 x) ∧ 0 ≤ x ∧ x < lim ∧ Cur w' g A n cap ∧ Only g w w'

set_option maxHeartbeats 1000000 in
/-- l1Below at a bound from 1 to 256. -/
theorem below_small (B g : Nat) (A : Option Addr) (zs : List Int) (cap : Nat) (lim : Int) (w : World) (hs : Bytes w B A zs) (hg : B ≤ g) (hc : Cur w g A zs.length cap) (hn : zs.length ≤ 1048576) (h0 : 1 ≤ lim) (h1 : lim ≤ 256) :
    Calls Try.prog 82 #[.pointer (some ⟨g, 0, none⟩), .int .i64 lim] w (NumPost lim g A zs.length cap w) := by
  have HA := Lib.hid (byte_any B g A zs cap w hs hg hc hn)
  clear hs hg hc hn
  go_enter Try.func82, Try.ntmps82
  go_wp2_with (go_at_call 110; refine HA.out.mono ?_; rintro e w1 ⟨x, rfl, x0, x1, hc1, hb1⟩)
  go_ret
  exact ⟨x % lim, rfl, Int.emod_nonneg _ (by omega), Int.emod_lt_of_pos _ (by omega), hc1, hb1⟩

set_option maxHeartbeats 1000000 in
/-- l1Below at a bound above 256. -/
theorem below_large (B g : Nat) (A : Option Addr) (zs : List Int) (cap : Nat) (lim : Int) (w : World) (hs : Bytes w B A zs) (hg : B ≤ g) (hc : Cur w g A zs.length cap) (hn : zs.length ≤ 1048576) (h0 : 256 < lim) (h1 : lim ≤ 1000000000) :
    Calls Try.prog 82 #[.pointer (some ⟨g, 0, none⟩), .int .i64 lim] w (NumPost lim g A zs.length cap w) := by
  have HA := Lib.hid (fun (W : World) (hb : Only g w W) (hcW : Cur W g A zs.length cap) => byte_any B g A zs cap W (hs.only hb hg (Nat.le_trans hg (Nat.le_of_lt hc.lt))) hg hcW hn)
  have HC := Lib.hid hc
  have HB := Lib.hid (Only.refl g w)
  clear hs hg hc hn
  go_enter Try.func82, Try.ntmps82
  go_wp2_with fail
  go_at_call 110
  refine (HA.out _ HB.out HC.out).mono ?_
  rintro e w1 ⟨x, rfl, x0, x1, hc1, hb1⟩
  have HB1 := Lib.hid (HB.out.trans hb1)
  have HC1 := Lib.hid hc1
  clear hc1 hb1
  go_wp2_with fail
  go_at_call 110
  refine (HA.out _ HB1.out HC1.out).mono ?_
  rintro e w2 ⟨y, rfl, y0, y1, hc2, hb2⟩
  have HB2 := Lib.hid (HB1.out.trans hb2)
  have HC2 := Lib.hid hc2
  clear hc2 hb2
  go_wp2_with fail
  go_at_call 110
  refine (HA.out _ HB2.out HC2.out).mono ?_
  rintro e w3 ⟨z, rfl, z0, z1, hc3, hb3⟩
  have HB3 := Lib.hid (HB2.out.trans hb3)
  have HC3 := Lib.hid hc3
  clear hc3 hb3
  go_wp2_with fail
  go_at_call 110
  refine (HA.out _ HB3.out HC3.out).mono ?_
  rintro e w4 ⟨u, rfl, u0, u1, hc4, hb4⟩
  have HB4 := Lib.hid (HB3.out.trans hb4)
  have HC4 := Lib.hid hc4
  clear hc4 hb4
  go_wp2_with fail
  go_ret
  exact ⟨_, rfl, Int.emod_nonneg _ (by omega), Int.emod_lt_of_pos _ (by omega), HC4.out, HB4.out⟩
end Go.Proofs.Ytbnghkgfbjipdaa

namespace Go.Proofs.Ytbnghkgfbjipdaa
open Go Go.RowKit

theorem Cur.alloc {w : World} {g n cap : Nat} {A : Option Addr} (h : Cur w g A n cap) (o : Obj) : Cur (w.alloc o) g A n cap := by
  have hl := h.lt
  obtain ⟨k, x, hk, hr⟩ := h
  exact ⟨k, x, hk, (Below.heap_alloc w o g hl).trans hr⟩
theorem Bytes.alloc {w : World} {B : Nat} {A : Option Addr} {zs : List Int} (h : Bytes w B A zs) (hB : B ≤ w.heap.size) (o : Obj) : Bytes (w.alloc o) B A zs := h.below ((Below.refl B w).alloc hB o)
/-- Block b is a row of just these cells. -/
def Row (w : World) (b : Nat) (t : TypeId) (cs : List Value) : Prop := w.heap[b]? = some (.cells cs.toArray t (0, 0))
theorem Row.new (w : World) (t : TypeId) (cs : List Value) : Row (w.alloc (.cells cs.toArray t)) w.heap.size t cs := heap_alloc_new w _
theorem Row.lt {w : World} {b : Nat} {t : TypeId} {cs : List Value} (h : Row w b t cs) : b < w.heap.size := by
  rcases Nat.lt_or_ge b w.heap.size with h' | h'
  · exact h'
  · unfold Row at h; rw [Array.getElem?_eq_none h'] at h; cases h
theorem Row.only {w w' : World} {b g : Nat} {t : TypeId} {cs : List Value} (h : Row w b t cs) (ho : Only g w w') (hne : b ≠ g) : Row w' b t cs :=
  (ho.block b h.lt (fun e => hne (Option.some.inj e))).trans h
theorem Row.cell {w : World} {b : Nat} {t : TypeId} {cs : List Value} (h : Row w b t cs) (i : Nat) (v : Value) (hv : cs[i]? = some v) : w.cell? ⟨b, i, none⟩ = some v := by
  rw [cell_of_row w b i cs.toArray t (0, 0) h]; simpa using hv

theorem Only.alloc {g : Nat} {a w : World} (h : Only g a w) (o : Obj) : Only g a (w.alloc o) :=
  ⟨h.os, h.tape, h.output, Nat.le_trans h.size (by simp), fun i hi hne => (Below.heap_alloc w o i (Nat.lt_of_lt_of_le hi h.size)).trans (h.block i hi hne)⟩
end Go.Proofs.Ytbnghkgfbjipdaa
