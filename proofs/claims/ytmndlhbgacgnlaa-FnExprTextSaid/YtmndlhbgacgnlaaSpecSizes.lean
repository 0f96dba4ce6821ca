/- The contracts of the model's SizeOf, DepthOf, CallsOf. Condition: fewer than 2^40 nodes. -/
import Derived.Test.YtmndlhbgacgnlaaEx
import Derived.WalkSpells
import Derived.WalkLawsBesides
namespace Go.Proofs.Ytmndlhbgacgnlaa
open Go Go.RowKit

theorem sizes_snoc (l : List Ex) (k : Nat) (e : Ex) (h : l[k]? = some e) : exSizes (l.take (k + 1)) = exSizes (l.take k) + exSize e := by
  have hs : ∀ (a b : List Ex), exSizes (a ++ b) = exSizes a + exSizes b := by
    intro a
    induction a with
    | nil => intro b; simp [exSizes]
    | cons x r ih => intro b; rw [List.cons_append, exSizes, exSizes, ih]; omega
  have hk : k < l.length := (List.getElem?_eq_some_iff.1 h).1
  have he : l[k] = e := (List.getElem?_eq_some_iff.1 h).2
  rw [List.take_succ_eq_append_getElem hk, he, hs]
  simp [exSizes]

theorem sizes_take : ∀ (l : List Ex) (k : Nat), exSizes (l.take k) ≤ exSizes l := by
  intro l
  induction l with
  | nil => intro k; simp [exSizes]
  | cons x r ih =>
    intro k
    cases k with
    | zero => simp [exSizes]
    | succ k => rw [List.take_succ_cons, exSizes, exSizes]; have := ih k; omega

def SizePost (r : Int) (w : World) (e : Ending) (w' : World) : Prop := e = .returned (.int .i64 r) ∧ Below w.heap.size w w'

mutual
/-- The depth. -/
def exDepth : Ex → Nat
  | .mk _ _ l => exDeep l + 1
def exDeep : List Ex → Nat
  | [] => 0
  | e :: r => max (exDepth e) (exDeep r)
end
mutual
/-- How many calls. -/
def exCalls : Ex → Nat
  | .mk k _ l => (if k = 3 then 1 else 0) + exCallsL l
def exCallsL : List Ex → Nat
  | [] => 0
  | e :: r => exCalls e + exCallsL r
end
theorem depth_size (n : Nat) : (∀ e : Ex, exSize e ≤ n → exDepth e ≤ exSize e ∧ exCalls e ≤ exSize e) ∧ (∀ l : List Ex, exSizes l ≤ n → exDeep l ≤ exSizes l ∧ exCallsL l ≤ exSizes l) := by
  induction n with
  | zero =>
    refine ⟨fun e h => by have := exSize_pos e; omega, fun l h => ?_⟩
    cases l with
    | nil => simp [exDeep, exCallsL]
    | cons e r => rw [exSizes] at h; have := exSize_pos e; omega
  | succ n ih =>
    have hE : ∀ e : Ex, exSize e ≤ n + 1 → exDepth e ≤ exSize e ∧ exCalls e ≤ exSize e := by
      intro e h
      cases e with
      | mk k s l =>
        rw [exSize] at h ⊢
        rw [exDepth, exCalls]
        have := ih.2 l (by omega)
        split <;> omega
    refine ⟨hE, ?_⟩
    intro l
    induction l with
    | nil => intro _; simp [exDeep, exCallsL]
    | cons e r ihl =>
      intro h
      rw [exSizes] at h ⊢
      rw [exDeep, exCallsL]
      have h1 := hE e (by omega)
      have h2 := ihl (by omega)
      omega
theorem deep_app : ∀ (a b : List Ex), exDeep (a ++ b) = max (exDeep a) (exDeep b) := by
  intro a
  induction a with
  | nil => intro b; simp [exDeep]
  | cons x r ih => intro b; rw [List.cons_append, exDeep, exDeep, ih]; omega
theorem calls_app : ∀ (a b : List Ex), exCallsL (a ++ b) = exCallsL a + exCallsL b := by
  intro a
  induction a with
  | nil => intro b; simp [exCallsL]
  | cons x r ih => intro b; rw [List.cons_append, exCallsL, exCallsL, ih]; omega
theorem take_ex (l : List Ex) (k : Nat) (e : Ex) (h : l[k]? = some e) : l.take (k + 1) = l.take k ++ [e] := by
  have hk : k < l.length := (List.getElem?_eq_some_iff.1 h).1
  rw [List.take_succ_eq_append_getElem hk, (List.getElem?_eq_some_iff.1 h).2]
theorem deep_snoc (l : List Ex) (k : Nat) (e : Ex) (h : l[k]? = some e) : exDeep (l.take (k + 1)) = max (exDeep (l.take k)) (exDepth e) := by
  rw [take_ex l k e h, deep_app]; simp [exDeep]
theorem calls_snoc (l : List Ex) (k : Nat) (e : Ex) (h : l[k]? = some e) : exCallsL (l.take (k + 1)) = exCallsL (l.take k) + exCalls e := by
  rw [take_ex l k e h, calls_app]; simp [exCallsL]
theorem depth_le (e : Ex) : exDepth e ≤ exSize e := ((depth_size _).1 e (Nat.le_refl _)).1
theorem calls_le (e : Ex) : exCalls e ≤ exSize e := ((depth_size _).1 e (Nat.le_refl _)).2

set_option maxHeartbeats 400000 in
theorem max_any (a b : Int) (w : World) : Calls Try.prog 106 #[.int .i64 a, .int .i64 b] w fun e w' => e = .returned (.int .i64 (max a b)) ∧ w = w' := by
  by_cases h : b < a
  · have HM := Lib.hid (show max a b = a by omega)
    go_enter Try.func106, Try.ntmps106
    go_wp2
    go_ret
    exact ⟨by rw [HM.out]; rfl, rfl⟩
  · have HM := Lib.hid (show max a b = b by omega)
    go_enter Try.func106, Try.ntmps106
    go_wp2
    go_ret
    exact ⟨by rw [HM.out]; rfl, rfl⟩

set_option maxHeartbeats 1000000 in
theorem depth_any (n : Nat) : ∀ (e : Ex) (v : Value) (bs : List Nat) (w : World), exSize e ≤ n → ExIs w v e bs → exSize e ≤ 1099511627776 →
    Calls Try.prog 62 #[v] w (SizePost (exDepth e : Int) w) := by
  induction n with
  | zero => intro e v bs w h; have := exSize_pos e; omega
  | succ n ih =>
    intro e v bs w hle hv hb
    obtain ⟨u, rfl, hsz, hu⟩ := hv
    obtain ⟨A, c, rfl, hc1, hc2, -⟩ := id hu
    have HU := Lib.hid hu
    obtain ⟨K, hK⟩ : ∃ K, K = e.kind := ⟨_, rfl⟩
    obtain ⟨S, hS⟩ : ∃ S, S = e.name := ⟨_, rfl⟩
    obtain ⟨L, hL⟩ : ∃ L, L = e.args := ⟨_, rfl⟩
    obtain ⟨m, hm⟩ : ∃ m, m = L.length := ⟨_, rfl⟩
    have HE := Lib.hid (show exSize e = exSizes L + 1 by rw [hL]; cases e; rfl)
    have HF := Lib.hid (show exDepth e = exDeep L + 1 by rw [hL]; cases e; rfl)
    rw [← hK, ← hS, ← hL, ← hm]
    rw [← hS] at hsz
    rw [← hL, ← hm] at hc1 HU
    have HM := Lib.hid hm
    have HN := Lib.hid hle
    have HBD := Lib.hid hb
    have HIH := Lib.hid ih
    clear hu hK hS hL hm hle hb ih
    have hc3 : (m : Int) ≤ 9223372036854775807 := by omega
    go_enter Try.func62, Try.ntmps62
    go_wp2_with fail
    go_loopw [3, 4] (fun t i wr => ∃ (k : Nat) (z : Int), k ≤ m ∧ i = .int .i64 (k : Int) ∧ t = .int .i64 z ∧ 0 ≤ z ∧ z ≤ 1099511627776 ∧ Hid (z = (exDeep (L.take k) : Int)) ∧ Hid (Below w.heap.size w wr) ∧ wr.heap[w.heap.size]? = some (.cells #[.int .i64 K, .string S, .slice A m c] 26 (0, 0))) (fun _ i _ => m - (intOf i).toNat)
    case atStart => exact ⟨0, 0, Nat.zero_le _, rfl, rfl, by omega, by omega, Lib.hid (by simp [exDeep]), Lib.hid ((Below.refl _ _).alloc (Nat.le_refl _) _), heap_alloc_new _ _⟩
    case round =>
      obtain ⟨k, z, hk, rfl, rfl, hz0, hz1, HZ, HB, hbox⟩ := hrel
      have hc2' : wr.cell? ⟨w.heap.size, 2, none⟩ = some (.slice A m c) := by simp [World.cell?, hbox]
      have hgo := HB.out.size
      have hboxlt : w.heap.size < wr.heap.size := (Array.getElem?_eq_some_iff.1 hbox).1
      have HBOX := Lib.hid hbox
      clear hbox
      by_cases hlt : k < m
      · obtain ⟨g, o, e1, u, b1, rfl, hbl, hget, hmem, c1, c2, c3, his, -⟩ := (HU.out.below HB.out).get k (by rw [← HM.out]; exact hlt)
        have HG := Lib.hid (deep_snoc L k e1 hget)
        have hs1 : (exDepth e1 : Int) ≤ 1099511627776 := by
          have h1 := depth_le e1
          have h2 := exSizes_mem hmem
          have h3 := HE.out
          have h4 := HBD.out
          omega
        have HCALL := Lib.hid (HIH.out e1 _ b1 wr (by have := HE.out; have := exSizes_mem hmem; have := HN.out; omega) his (by have := HE.out; have := exSizes_mem hmem; have := HBD.out; omega))
        clear his hget hmem
        go_wp2_with (first
          | (go_at_call 62; refine HCALL.out.mono ?_; rintro r w1 ⟨rfl, hb1⟩; have HB1 := Lib.hid hb1; clear hb1)
          | (go_at_call 106; refine (max_any _ _ _).mono ?_; rintro r w' ⟨rfl, rfl⟩))
        go_roundw
        case rel => exact ⟨k + 1, _, by omega, by go_num, rfl, by omega, by omega, Lib.hid (by have := HZ.out; have := HG.out; omega), Lib.hid (HB.out.trans (HB1.out.mono HB.out.size)), (HB1.out.block _ hboxlt).trans HBOX.out⟩
        case measure => simp [intOf]; omega
      · have HE2 := Lib.hid (show z + 1 = (exDepth e : Int) by
          have h := HZ.out
          rw [List.take_of_length_le (by rw [← HM.out]; omega)] at h
          have := HF.out
          omega)
        go_wp2_with fail
        go_ret
        exact ⟨by rw [← HE2.out]; rfl, HB.out⟩

def BitPost (b : Bool) (w : World) (e : Ending) (w' : World) : Prop := ∃ z : Int, e = .returned (.int .i64 z) ∧ w = w' ∧ 0 ≤ z ∧ z ≤ 1 ∧ z = if b then 1 else 0
set_option maxHeartbeats 400000 in
theorem bit_any (b : Bool) (w : World) : Calls Try.prog 66 #[.bool b] w (BitPost b w) := by
  cases b
  · go_enter Try.func66, Try.ntmps66
    go_wp2
    go_ret
    exact ⟨0, rfl, rfl, by omega, by omega, rfl⟩
  · go_enter Try.func66, Try.ntmps66
    go_wp2
    go_ret
    exact ⟨1, rfl, rfl, by omega, by omega, rfl⟩

set_option maxHeartbeats 1000000 in
theorem calls_any (n : Nat) : ∀ (e : Ex) (v : Value) (bs : List Nat) (w : World), exSize e ≤ n → ExIs w v e bs → exSize e ≤ 1099511627776 →
    Calls Try.prog 21 #[v] w (SizePost (exCalls e : Int) w) := by
  induction n with
  | zero => intro e v bs w h; have := exSize_pos e; omega
  | succ n ih =>
    intro e v bs w hle hv hb
    obtain ⟨u, rfl, hsz, hu⟩ := hv
    obtain ⟨A, c, rfl, hc1, hc2, -⟩ := id hu
    have HU := Lib.hid hu
    obtain ⟨K, hK⟩ : ∃ K, K = e.kind := ⟨_, rfl⟩
    obtain ⟨S, hS⟩ : ∃ S, S = e.name := ⟨_, rfl⟩
    obtain ⟨L, hL⟩ : ∃ L, L = e.args := ⟨_, rfl⟩
    obtain ⟨m, hm⟩ : ∃ m, m = L.length := ⟨_, rfl⟩
    have HE := Lib.hid (show exSize e = exSizes L + 1 by rw [hL]; cases e; rfl)
    have HF := Lib.hid (show exCalls e = (if K = 3 then 1 else 0) + exCallsL L by rw [hL, hK]; cases e; rfl)
    have HCL := Lib.hid (calls_le e)
    rw [← hK, ← hS, ← hL, ← hm]
    rw [← hS] at hsz
    rw [← hL, ← hm] at hc1 HU
    have HM := Lib.hid hm
    have HN := Lib.hid hle
    have HBD := Lib.hid hb
    have HIH := Lib.hid ih
    clear hu hK hS hL hm hle hb ih
    have hc3 : (m : Int) ≤ 9223372036854775807 := by omega
    obtain ⟨bit, hbit⟩ : ∃ bit : Bool, bit = (K == 3) := ⟨_, rfl⟩
    have HK3 : (K == 3) = bit := hbit.symm
    have HBI := Lib.hid (show ((if K = 3 then 1 else 0 : Nat) : Int) = if bit then 1 else 0 by
      rw [hbit]
      by_cases h : K = 3 <;> simp [h])
    clear hbit
    go_enter Try.func21, Try.ntmps21
    go_wp2_with (go_at_call 66; refine (bit_any bit _).mono ?_; rintro r w' ⟨z0, rfl, rfl, hzb0, hzb1, hz0⟩; have HZ0 := Lib.hid (HBI.out.trans hz0.symm); clear hz0)
    clear HK3 HBI
    go_loopw [3, 4] (fun t i wr => ∃ (k : Nat) (z : Int), k ≤ m ∧ i = .int .i64 (k : Int) ∧ t = .int .i64 z ∧ 0 ≤ z ∧ z ≤ 1099511627777 ∧ Hid (z = z0 + (exCallsL (L.take k) : Int)) ∧ Hid (Below w.heap.size w wr) ∧ wr.heap[w.heap.size]? = some (.cells #[.int .i64 K, .string S, .slice A m c] 26 (0, 0))) (fun _ i _ => m - (intOf i).toNat)
    case atStart => exact ⟨0, z0, Nat.zero_le _, rfl, rfl, by omega, by omega, Lib.hid (by simp [exCallsL]), Lib.hid ((Below.refl _ _).alloc (Nat.le_refl _) _), heap_alloc_new _ _⟩
    case round =>
      obtain ⟨k, z, hk, rfl, rfl, hz0, hz1, HZ, HB, hbox⟩ := hrel
      have hc2' : wr.cell? ⟨w.heap.size, 2, none⟩ = some (.slice A m c) := by simp [World.cell?, hbox]
      have hgo := HB.out.size
      have hboxlt : w.heap.size < wr.heap.size := (Array.getElem?_eq_some_iff.1 hbox).1
      have HBOX := Lib.hid hbox
      clear hbox
      by_cases hlt : k < m
      · obtain ⟨g, o, e1, u, b1, rfl, hbl, hget, hmem, c1, c2, c3, his, -⟩ := (HU.out.below HB.out).get k (by rw [← HM.out]; exact hlt)
        have HG := Lib.hid (calls_snoc L k e1 hget)
        have hs1 : z + (exCalls e1 : Int) ≤ 1099511627777 := by
          have h1 := HZ.out
          have h2 := HG.out
          have h3 := HE.out
          have h4 := HBD.out
          have h5 := sizes_take L (k + 1)
          have h6 := ((depth_size _).2 (L.take (k + 1)) (Nat.le_refl _)).2
          omega
        have HCALL := Lib.hid (HIH.out e1 _ b1 wr (by have := HE.out; have := exSizes_mem hmem; have := HN.out; omega) his (by have := HE.out; have := exSizes_mem hmem; have := HBD.out; omega))
        clear his hget hmem
        go_wp2_with (go_at_call 21; refine HCALL.out.mono ?_; rintro r w1 ⟨rfl, hb1⟩; have HB1 := Lib.hid hb1; clear hb1)
        go_roundw
        case rel => exact ⟨k + 1, _, by omega, by go_num, rfl, by omega, by omega, Lib.hid (by have := HZ.out; have := HG.out; omega), Lib.hid (HB.out.trans (HB1.out.mono HB.out.size)), (HB1.out.block _ hboxlt).trans HBOX.out⟩
        case measure => simp [intOf]; omega
      · have HE2 := Lib.hid (show z = (exCalls e : Int) by
          have h := HZ.out
          rw [List.take_of_length_le (by rw [← HM.out]; omega)] at h
          have h2 := HF.out
          have h3 := HZ0.out
          omega)
        go_wp2_with fail
        go_ret
        exact ⟨by rw [← HE2.out]; rfl, HB.out⟩
end Go.Proofs.Ytmndlhbgacgnlaa
