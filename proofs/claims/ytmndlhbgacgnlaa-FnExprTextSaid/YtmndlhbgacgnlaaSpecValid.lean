/- The contracts of the model's l3Left, l3Form, l3All, IsValidExpr, l3Data, IsData. Condition: names and nodes together at most 1048576. -/
import Derived.Test.YtmndlhbgacgnlaaSpecSizes
import Derived.Test.YtmndlhbgacgnlaaSpecNames
import Derived.Test.YtmndlhbgacgnlaaExSz
namespace Go.Proofs.Ytmndlhbgacgnlaa
open Go Go.RowKit

def exFormOf (K : Int) (s : ByteArray) (m : Nat) : Bool :=
  if K = 1 then nameL 97 122 s.data.toList && decide (m = 0) else if K = 2 then nameL 65 90 s.data.toList && decide (m ≤ 5) else if K = 3 then nameL 97 122 s.data.toList && decide (m ≤ 5) else if K = 4 then decide (s.size = 0) && decide (m = 0) else false
mutual
def exAll : Ex → Bool
  | .mk k s l => exAllL l && exFormOf k s l.length
def exAllL : List Ex → Bool
  | [] => true
  | e :: r => exAll e && exAllL r
end
mutual
def exDat : Ex → Bool
  | .mk k _ l => exDatL l && decide (k = 2)
def exDatL : List Ex → Bool
  | [] => true
  | e :: r => exDat e && exDatL r
end
def exValid (e : Ex) : Bool := decide (exSize e ≤ 80) && (decide (exDepth e ≤ 24) && exAll e)
def exIsData (e : Ex) : Bool := exValid e && exDat e
theorem all_app : ∀ (a b : List Ex), exAllL (a ++ b) = (exAllL a && exAllL b) := by
  intro a
  induction a with
  | nil => intro b; simp [exAllL]
  | cons x r ih => intro b; rw [List.cons_append, exAllL, exAllL, ih, Bool.and_assoc]
theorem dat_app : ∀ (a b : List Ex), exDatL (a ++ b) = (exDatL a && exDatL b) := by
  intro a
  induction a with
  | nil => intro b; simp [exDatL]
  | cons x r ih => intro b; rw [List.cons_append, exDatL, exDatL, ih, Bool.and_assoc]
theorem all_snoc (l : List Ex) (k : Nat) (e : Ex) (h : l[k]? = some e) : exAllL (l.take (k + 1)) = (exAllL (l.take k) && exAll e) := by
  rw [take_ex l k e h, all_app]; simp [exAllL]
theorem dat_snoc (l : List Ex) (k : Nat) (e : Ex) (h : l[k]? = some e) : exDatL (l.take (k + 1)) = (exDatL (l.take k) && exDat e) := by
  rw [take_ex l k e h, dat_app]; simp [exDatL]
theorem all_false {l : List Ex} {e : Ex} (h : e ∈ l) (he : exAll e = false) : exAllL l = false := by
  induction l with
  | nil => cases h
  | cons x r ih =>
    rw [exAllL]
    rcases List.mem_cons.1 h with rfl | h
    · rw [he]; rfl
    · rw [ih h, Bool.and_false]
theorem dat_false {l : List Ex} {e : Ex} (h : e ∈ l) (he : exDat e = false) : exDatL l = false := by
  induction l with
  | nil => cases h
  | cons x r ih =>
    rw [exDatL]
    rcases List.mem_cons.1 h with rfl | h
    · rw [he]; rfl
    · rw [ih h, Bool.and_false]
theorem tots_mem : ∀ {l : List Ex} {e : Ex}, e ∈ l → exTot e + 1 ≤ exTots l := by
  intro l
  induction l with
  | nil => intro e h; cases h
  | cons x r ih =>
    intro e h
    rw [exTots]
    rcases List.mem_cons.1 h with rfl | h
    · omega
    · have := ih h; omega
theorem tot_parts (e : Ex) : exTot e = e.name.size + exTots e.args := by cases e; rfl

set_option maxHeartbeats 1000000 in
theorem form_any (K : Int) (S : ByteArray) (A : Option Addr) (m c : Nat) (w : World) (hS : S.size ≤ 1048576) (hc1 : m ≤ c) (hc2 : c ≤ 9223372036854775807) :
    Calls Try.prog 107 #[.agg #[.int .i64 K, .string S, .slice A m c]] w (RetPost (.bool (exFormOf K S m)) w) := by
  have hm : (m : Int) ≤ 9223372036854775807 := by omega
  by_cases h1 : K = 1
  · subst h1
    have HF := Lib.hid (show exFormOf 1 S m = (nameL 97 122 S.data.toList && decide (m = 0)) from rfl)
    have HN := Lib.hid (fun (W : World) => isname_any S W hS)
    generalize nameL 97 122 S.data.toList = b at *
    cases b
    · go_enter Try.func107, Try.ntmps107
      go_wp2_with (go_at_call 124; refine (HN.out _).mono ?_; rintro r w' ⟨rfl, rfl⟩)
      go_ret
      exact ⟨by rw [HF.out]; rfl, (Below.refl _ _).alloc (Nat.le_refl _) _⟩
    · by_cases hm0 : m = 0
      · subst hm0
        go_enter Try.func107, Try.ntmps107
        go_wp2_with (go_at_call 124; refine (HN.out _).mono ?_; rintro r w' ⟨rfl, rfl⟩)
        go_ret
        exact ⟨by rw [HF.out]; rfl, (Below.refl _ _).alloc (Nat.le_refl _) _⟩
      · have hz : ((m : Int) == 0) = false := by simpa using hm0
        have HM := Lib.hid (show decide (m = 0) = false by simpa using hm0)
        clear hm0
        go_enter Try.func107, Try.ntmps107
        go_wp2_with (go_at_call 124; refine (HN.out _).mono ?_; rintro r w' ⟨rfl, rfl⟩)
        go_ret
        exact ⟨by rw [HF.out, HM.out]; rfl, (Below.refl _ _).alloc (Nat.le_refl _) _⟩
  by_cases h2 : K = 2
  · subst h2
    have HF := Lib.hid (show exFormOf 2 S m = (nameL 65 90 S.data.toList && decide (m ≤ 5)) from rfl)
    have HN := Lib.hid (fun (W : World) => iscon_any S W hS)
    generalize nameL 65 90 S.data.toList = b at *
    cases b
    · go_enter Try.func107, Try.ntmps107
      go_wp2_with (go_at_call 146; refine (HN.out _).mono ?_; rintro r w' ⟨rfl, rfl⟩)
      go_ret
      exact ⟨by rw [HF.out]; rfl, (Below.refl _ _).alloc (Nat.le_refl _) _⟩
    · by_cases hm0 : m ≤ 5
      · have hz : (m : Int) ≤ 5 := by omega
        have HM := Lib.hid (show decide (m ≤ 5) = true by simpa using hm0)
        clear hm0
        go_enter Try.func107, Try.ntmps107
        go_wp2_with (go_at_call 146; refine (HN.out _).mono ?_; rintro r w' ⟨rfl, rfl⟩)
        go_ret
        exact ⟨by rw [HF.out, HM.out]; rfl, (Below.refl _ _).alloc (Nat.le_refl _) _⟩
      · have hz : 5 < (m : Int) := by omega
        have hz2 : decide ((m : Int) ≤ 5) = false := by simp; omega
        have HM := Lib.hid (show decide (m ≤ 5) = false by simpa using hm0)
        clear hm0
        go_enter Try.func107, Try.ntmps107
        go_wp2_with (go_at_call 146; refine (HN.out _).mono ?_; rintro r w' ⟨rfl, rfl⟩)
        go_ret
        exact ⟨by rw [HF.out, HM.out]; rfl, (Below.refl _ _).alloc (Nat.le_refl _) _⟩
  by_cases h3 : K = 3
  · subst h3
    have HF := Lib.hid (show exFormOf 3 S m = (nameL 97 122 S.data.toList && decide (m ≤ 5)) from rfl)
    have HN := Lib.hid (fun (W : World) => isname_any S W hS)
    generalize nameL 97 122 S.data.toList = b at *
    cases b
    · go_enter Try.func107, Try.ntmps107
      go_wp2_with (go_at_call 124; refine (HN.out _).mono ?_; rintro r w' ⟨rfl, rfl⟩)
      go_ret
      exact ⟨by rw [HF.out]; rfl, (Below.refl _ _).alloc (Nat.le_refl _) _⟩
    · by_cases hm0 : m ≤ 5
      · have hz : (m : Int) ≤ 5 := by omega
        have HM := Lib.hid (show decide (m ≤ 5) = true by simpa using hm0)
        clear hm0
        go_enter Try.func107, Try.ntmps107
        go_wp2_with (go_at_call 124; refine (HN.out _).mono ?_; rintro r w' ⟨rfl, rfl⟩)
        go_ret
        exact ⟨by rw [HF.out, HM.out]; rfl, (Below.refl _ _).alloc (Nat.le_refl _) _⟩
      · have hz : 5 < (m : Int) := by omega
        have hz2 : decide ((m : Int) ≤ 5) = false := by simp; omega
        have HM := Lib.hid (show decide (m ≤ 5) = false by simpa using hm0)
        clear hm0
        go_enter Try.func107, Try.ntmps107
        go_wp2_with (go_at_call 124; refine (HN.out _).mono ?_; rintro r w' ⟨rfl, rfl⟩)
        go_ret
        exact ⟨by rw [HF.out, HM.out]; rfl, (Below.refl _ _).alloc (Nat.le_refl _) _⟩
  by_cases h4 : K = 4
  · subst h4
    have HF := Lib.hid (show exFormOf 4 S m = (decide (S.size = 0) && decide (m = 0)) from rfl)
    by_cases hs0 : S.size = 0
    · have HS := Lib.hid (show decide (S.size = 0) = true by simpa using hs0)
      have hl : S.toList = [] := by rw [ByteArray.toList_eq]; exact List.eq_nil_of_length_eq_zero (by rw [sizeN]; omega)
      have hl2 : (!S.toList.isEmpty) = false := by rw [hl]; rfl
      have hl3 : S.toList.isEmpty = true := by rw [hl]; rfl
      clear hs0 hS
      by_cases hm0 : m = 0
      · subst hm0
        go_enter Try.func107, Try.ntmps107
        go_wp2_with fail
        go_ret
        exact ⟨by rw [HF.out, HS.out]; rfl, (Below.refl _ _).alloc (Nat.le_refl _) _⟩
      · have hz : ((m : Int) == 0) = false := by simpa using hm0
        have HM := Lib.hid (show decide (m = 0) = false by simpa using hm0)
        clear hm0
        go_enter Try.func107, Try.ntmps107
        go_wp2_with fail
        go_ret
        exact ⟨by rw [HF.out, HS.out, HM.out]; rfl, (Below.refl _ _).alloc (Nat.le_refl _) _⟩
    · have HS := Lib.hid (show decide (S.size = 0) = false by simpa using hs0)
      have hl3 : S.toList.isEmpty = false := by
        cases hb : S.toList.isEmpty with
        | false => rfl
        | true =>
          rw [List.isEmpty_iff, ByteArray.toList_eq] at hb
          have := sizeN S
          rw [hb] at this
          simp at this; omega
      clear hs0 hS
      go_enter Try.func107, Try.ntmps107
      go_wp2_with fail
      go_ret
      exact ⟨by rw [HF.out, HS.out]; rfl, (Below.refl _ _).alloc (Nat.le_refl _) _⟩
  have HF := Lib.hid (show exFormOf K S m = false by unfold exFormOf; rw [if_neg h1, if_neg h2, if_neg h3, if_neg h4])
  have k1 : (K == 1) = false := by simpa using h1
  have k2 : (K == 2) = false := by simpa using h2
  have k3 : (K == 3) = false := by simpa using h3
  have k4 : (K == 4) = false := by simpa using h4
  clear h1 h2 h3 h4 hS
  go_enter Try.func107, Try.ntmps107
  go_wp2_with fail
  go_ret
  exact ⟨by rw [HF.out]; rfl, (Below.refl _ _).alloc (Nat.le_refl _) _⟩

set_option maxHeartbeats 1000000 in
theorem all_any (n : Nat) : ∀ (e : Ex) (v : Value) (bs : List Nat) (w : World), exSize e ≤ n → ExIs w v e bs → exTot e ≤ 1048576 →
    Calls Try.prog 63 #[v] w (RetPost (.bool (exAll e)) w) := by
  induction n with
  | zero => intro e v bs w h; have := exSize_pos e; omega
  | succ n ih =>
    intro e v bs w hle hv hb
    obtain ⟨u, rfl, hsz, hu⟩ := hv
    obtain ⟨A, c, rfl, hc1, hc2, -⟩ := id hu
    have HU := Lib.hid hu
    have HTP := Lib.hid (tot_parts e)
    have HTL := Lib.hid (tots_ge e.args)
    obtain ⟨K, hK⟩ : ∃ K, K = e.kind := ⟨_, rfl⟩
    obtain ⟨S, hS⟩ : ∃ S, S = e.name := ⟨_, rfl⟩
    obtain ⟨L, hL⟩ : ∃ L, L = e.args := ⟨_, rfl⟩
    obtain ⟨m, hm⟩ : ∃ m, m = L.length := ⟨_, rfl⟩
    have HE := Lib.hid (show exSize e = exSizes L + 1 by rw [hL]; cases e; rfl)
    have HF := Lib.hid (show exAll e = (exAllL L && exFormOf K S m) by first | (rw [hm, hL, hK, hS]; cases e; rfl) | (rw [hL, hK]; cases e; rfl) | (rw [hL]; cases e; rfl))
    rw [← hK, ← hS, ← hL, ← hm]
    rw [← hS] at hsz HTP
    rw [← hL, ← hm] at hc1 HU
    rw [← hL] at HTP HTL
    have HM := Lib.hid hm
    have HN := Lib.hid hle
    have HBD := Lib.hid hb
    have HIH := Lib.hid ih
    clear hu hK hS hL hm hle hb ih
    have hc3 : (m : Int) ≤ 9223372036854775807 := by omega
    go_enter Try.func63, Try.ntmps63
    go_wp2_with fail
    go_loopw [3] (fun i wr => ∃ (k : Nat), k ≤ m ∧ i = .int .i64 (k : Int) ∧ Hid (exAllL (L.take k) = true) ∧ Hid (Below w.heap.size w wr) ∧ wr.heap[w.heap.size]? = some (.cells #[.int .i64 K, .string S, .slice A m c] 26 (0, 0))) (fun i _ => m - (intOf i).toNat)
    case atStart => exact ⟨0, Nat.zero_le _, rfl, Lib.hid (by simp [exAllL]), Lib.hid ((Below.refl _ _).alloc (Nat.le_refl _) _), heap_alloc_new _ _⟩
    case round =>
      obtain ⟨k, hk, rfl, HZ, HB, hbox⟩ := hrel
      have hc2' : wr.cell? ⟨w.heap.size, 2, none⟩ = some (.slice A m c) := by simp [World.cell?, hbox]
      have hc0' : wr.cell? ⟨w.heap.size, 0, none⟩ = some (.int .i64 K) := by simp [World.cell?, hbox]
      have hc1' : wr.cell? ⟨w.heap.size, 1, none⟩ = some (.string S) := by simp [World.cell?, hbox]
      have hgo := HB.out.size
      have hboxlt : w.heap.size < wr.heap.size := (Array.getElem?_eq_some_iff.1 hbox).1
      have HBOX := Lib.hid hbox
      clear hbox
      by_cases hlt : k < m
      · obtain ⟨g, o, e1, u, b1, rfl, hbl, hget, hmem, c1, c2, c3, his, -⟩ := (HU.out.below HB.out).get k (by rw [← HM.out]; exact hlt)
        have HT1 := Lib.hid (show exTot e1 ≤ 1048576 by have := tots_mem hmem; have := HTP.out; have := HBD.out; omega)
        have HS1 := Lib.hid (show exSize e1 ≤ n by have := HE.out; have := exSizes_mem hmem; have := HN.out; omega)
        have HG := Lib.hid (all_snoc L k e1 hget)
        have HAF := Lib.hid (all_false hmem)
        have HCALL := Lib.hid (HIH.out e1 _ b1 wr HS1.out his HT1.out)
        clear his hget hmem
        generalize exAll e1 = b at *
        cases b
        · have HE2 := Lib.hid (show exAll e = false by rw [HF.out, HAF.out rfl, Bool.false_and])
          go_wp2_with (go_at_call 63; refine HCALL.out.mono ?_; rintro r w1 ⟨rfl, hb1⟩; have HB1 := Lib.hid hb1; clear hb1)
          go_ret
          exact ⟨by rw [HE2.out]; rfl, HB.out.trans (HB1.out.mono HB.out.size)⟩
        · go_wp2_with (go_at_call 63; refine HCALL.out.mono ?_; rintro r w1 ⟨rfl, hb1⟩; have HB1 := Lib.hid hb1; clear hb1)
          go_roundw
          case rel => exact ⟨k + 1, by omega, by go_num, Lib.hid (by rw [HG.out, HZ.out]; rfl), Lib.hid (HB.out.trans (HB1.out.mono HB.out.size)), (HB1.out.block _ hboxlt).trans HBOX.out⟩
          case measure => simp [intOf]; omega
      · have HL := Lib.hid (show exAllL L = true by
          have h := HZ.out
          rw [List.take_of_length_le (by rw [← HM.out]; omega)] at h
          exact h)
        have HE2 := Lib.hid (show exAll e = exFormOf K S m by rw [HF.out, HL.out, Bool.true_and])
        have HC := Lib.hid (form_any K S A m c wr (by have := HTP.out; have := HBD.out; omega) hc1 hc2)
        generalize exFormOf K S m = b at *
        go_wp2_with (go_at_call 107; refine HC.out.mono ?_; rintro r w1 ⟨rfl, hb1⟩; have HB1 := Lib.hid hb1; clear hb1)
        go_ret
        exact ⟨by rw [HE2.out]; rfl, HB.out.trans (HB1.out.mono HB.out.size)⟩

set_option maxHeartbeats 1000000 in
theorem dat_any (n : Nat) : ∀ (e : Ex) (v : Value) (bs : List Nat) (w : World), exSize e ≤ n → ExIs w v e bs → exTot e ≤ 1048576 →
    Calls Try.prog 68 #[v] w (RetPost (.bool (exDat e)) w) := by
  induction n with
  | zero => intro e v bs w h; have := exSize_pos e; omega
  | succ n ih =>
    intro e v bs w hle hv hb
    obtain ⟨u, rfl, hsz, hu⟩ := hv
    obtain ⟨A, c, rfl, hc1, hc2, -⟩ := id hu
    have HU := Lib.hid hu
    have HTP := Lib.hid (tot_parts e)
    have HTL := Lib.hid (tots_ge e.args)
    obtain ⟨K, hK⟩ : ∃ K, K = e.kind := ⟨_, rfl⟩
    obtain ⟨S, hS⟩ : ∃ S, S = e.name := ⟨_, rfl⟩
    obtain ⟨L, hL⟩ : ∃ L, L = e.args := ⟨_, rfl⟩
    obtain ⟨m, hm⟩ : ∃ m, m = L.length := ⟨_, rfl⟩
    have HE := Lib.hid (show exSize e = exSizes L + 1 by rw [hL]; cases e; rfl)
    have HF := Lib.hid (show exDat e = (exDatL L && decide (K = 2)) by first | (rw [hm, hL, hK, hS]; cases e; rfl) | (rw [hL, hK]; cases e; rfl) | (rw [hL]; cases e; rfl))
    rw [← hK, ← hS, ← hL, ← hm]
    rw [← hS] at hsz HTP
    rw [← hL, ← hm] at hc1 HU
    rw [← hL] at HTP HTL
    have HM := Lib.hid hm
    have HN := Lib.hid hle
    have HBD := Lib.hid hb
    have HIH := Lib.hid ih
    clear hu hK hS hL hm hle hb ih
    have hc3 : (m : Int) ≤ 9223372036854775807 := by omega
    go_enter Try.func68, Try.ntmps68
    go_wp2_with fail
    go_loopw [3] (fun i wr => ∃ (k : Nat), k ≤ m ∧ i = .int .i64 (k : Int) ∧ Hid (exDatL (L.take k) = true) ∧ Hid (Below w.heap.size w wr) ∧ wr.heap[w.heap.size]? = some (.cells #[.int .i64 K, .string S, .slice A m c] 26 (0, 0))) (fun i _ => m - (intOf i).toNat)
    case atStart => exact ⟨0, Nat.zero_le _, rfl, Lib.hid (by simp [exDatL]), Lib.hid ((Below.refl _ _).alloc (Nat.le_refl _) _), heap_alloc_new _ _⟩
    case round =>
      obtain ⟨k, hk, rfl, HZ, HB, hbox⟩ := hrel
      have hc2' : wr.cell? ⟨w.heap.size, 2, none⟩ = some (.slice A m c) := by simp [World.cell?, hbox]
      have hc0' : wr.cell? ⟨w.heap.size, 0, none⟩ = some (.int .i64 K) := by simp [World.cell?, hbox]
      have hc1' : wr.cell? ⟨w.heap.size, 1, none⟩ = some (.string S) := by simp [World.cell?, hbox]
      have hgo := HB.out.size
      have hboxlt : w.heap.size < wr.heap.size := (Array.getElem?_eq_some_iff.1 hbox).1
      have HBOX := Lib.hid hbox
      clear hbox
      by_cases hlt : k < m
      · obtain ⟨g, o, e1, u, b1, rfl, hbl, hget, hmem, c1, c2, c3, his, -⟩ := (HU.out.below HB.out).get k (by rw [← HM.out]; exact hlt)
        have HT1 := Lib.hid (show exTot e1 ≤ 1048576 by have := tots_mem hmem; have := HTP.out; have := HBD.out; omega)
        have HS1 := Lib.hid (show exSize e1 ≤ n by have := HE.out; have := exSizes_mem hmem; have := HN.out; omega)
        have HG := Lib.hid (dat_snoc L k e1 hget)
        have HAF := Lib.hid (dat_false hmem)
        have HCALL := Lib.hid (HIH.out e1 _ b1 wr HS1.out his HT1.out)
        clear his hget hmem
        generalize exDat e1 = b at *
        cases b
        · have HE2 := Lib.hid (show exDat e = false by rw [HF.out, HAF.out rfl, Bool.false_and])
          go_wp2_with (go_at_call 68; refine HCALL.out.mono ?_; rintro r w1 ⟨rfl, hb1⟩; have HB1 := Lib.hid hb1; clear hb1)
          go_ret
          exact ⟨by rw [HE2.out]; rfl, HB.out.trans (HB1.out.mono HB.out.size)⟩
        · go_wp2_with (go_at_call 68; refine HCALL.out.mono ?_; rintro r w1 ⟨rfl, hb1⟩; have HB1 := Lib.hid hb1; clear hb1)
          go_roundw
          case rel => exact ⟨k + 1, by omega, by go_num, Lib.hid (by rw [HG.out, HZ.out]; rfl), Lib.hid (HB.out.trans (HB1.out.mono HB.out.size)), (HB1.out.block _ hboxlt).trans HBOX.out⟩
          case measure => simp [intOf]; omega
      · have HL := Lib.hid (show exDatL L = true by
          have h := HZ.out
          rw [List.take_of_length_le (by rw [← HM.out]; omega)] at h
          exact h)
        by_cases h2 : K = 2
        · have HE2 := Lib.hid (show exDat e = true by rw [HF.out, HL.out, decide_eq_true h2]; rfl)
          have h2' : (K == 2) = true := by simpa using h2
          subst h2
          go_wp2_with fail
          go_ret
          exact ⟨by rw [HE2.out]; rfl, HB.out⟩
        · have HE2 := Lib.hid (show exDat e = false by rw [HF.out, decide_eq_false h2, Bool.and_false])
          have h2' : (K == 2) = false := by simpa using h2
          clear h2
          go_wp2_with fail
          go_ret
          exact ⟨by rw [HE2.out]; rfl, HB.out⟩

def LeftPost (L T : Int) (w : World) (e : Ending) (w' : World) : Prop := ∃ r : Int, e = .returned (.int .i64 r) ∧ Below w.heap.size w w' ∧ ((0 ≤ r ∧ r = L - T) ∨ (r = -1 ∧ L < T))
/-- Where the count stands. -/
def LeftAt (L T s z : Int) : Prop := (0 ≤ z ∧ z = L - 1 - s) ∨ (z = -1 ∧ L < T)

set_option maxHeartbeats 1000000 in
theorem left_any (n : Nat) : ∀ (e : Ex) (v : Value) (bs : List Nat) (w : World) (J : Int), exSize e ≤ n → ExIs w v e bs → 0 ≤ J → J ≤ 1048576 →
    Calls Try.prog 61 #[v, .int .i64 J] w (LeftPost J (exSize e : Int) w) := by
  induction n with
  | zero => intro e v bs w J h; have := exSize_pos e; omega
  | succ n ih =>
    intro e v bs w J hle hv hJ0 hJ1
    obtain ⟨u, rfl, hsz, hu⟩ := hv
    obtain ⟨A, c, rfl, hc1, hc2, -⟩ := id hu
    have HU := Lib.hid hu
    obtain ⟨K, hK⟩ : ∃ K, K = e.kind := ⟨_, rfl⟩
    obtain ⟨S, hS⟩ : ∃ S, S = e.name := ⟨_, rfl⟩
    obtain ⟨L, hL⟩ : ∃ L, L = e.args := ⟨_, rfl⟩
    obtain ⟨m, hm⟩ : ∃ m, m = L.length := ⟨_, rfl⟩
    have HE := Lib.hid (show exSize e = exSizes L + 1 by rw [hL]; cases e; rfl)
    rw [← hK, ← hS, ← hL, ← hm]
    rw [← hS] at hsz
    rw [← hL, ← hm] at hc1 HU
    have HM := Lib.hid hm
    have HN := Lib.hid hle
    have HIH := Lib.hid ih
    clear hu hK hS hL hm hle ih
    have hc3 : (m : Int) ≤ 9223372036854775807 := by omega
    obtain ⟨z0, hz0⟩ : ∃ z0 : Int, z0 = J - 1 := ⟨_, rfl⟩
    have HZ0 := Lib.hid (show LeftAt J (exSize e : Int) (exSizes (L.take 0) : Int) (J - 1) by
      unfold LeftAt
      simp only [List.take_zero, exSizes]
      by_cases h : J = 0
      · exact Or.inr ⟨by omega, by have := exSize_pos e; omega⟩
      · exact Or.inl ⟨by omega, by omega⟩)
    clear hz0
    go_enter Try.func61, Try.ntmps61
    go_wp2_with fail
    go_loopw [1, 5] (fun t i wr => ∃ (k : Nat) (z : Int), k ≤ m ∧ i = .int .i64 (k : Int) ∧ t = .int .i64 z ∧ -1 ≤ z ∧ z ≤ 1048576 ∧ Hid (LeftAt J (exSize e : Int) (exSizes (L.take k) : Int) z) ∧ Hid (Below w.heap.size w wr) ∧ wr.heap[w.heap.size]? = some (.cells #[.int .i64 K, .string S, .slice A m c] 26 (0, 0))) (fun _ i _ => m - (intOf i).toNat)
    case atStart => exact ⟨0, _, Nat.zero_le _, rfl, rfl, by omega, by omega, HZ0, Lib.hid ((Below.refl _ _).alloc (Nat.le_refl _) _), heap_alloc_new _ _⟩
    case round =>
      obtain ⟨k, z, hk, rfl, rfl, hz0, hz1, HZ, HB, hbox⟩ := hrel
      have hc2' : wr.cell? ⟨w.heap.size, 2, none⟩ = some (.slice A m c) := by simp [World.cell?, hbox]
      have hgo := HB.out.size
      have hboxlt : w.heap.size < wr.heap.size := (Array.getElem?_eq_some_iff.1 hbox).1
      have HBOX := Lib.hid hbox
      clear hbox
      by_cases hlt : k < m
      · by_cases hz : 0 ≤ z
        · obtain ⟨g, o, e1, u, b1, rfl, hbl, hget, hmem, c1, c2, c3, his, -⟩ := (HU.out.below HB.out).get k (by rw [← HM.out]; exact hlt)
          have HG := Lib.hid (sizes_snoc L k e1 hget)
          have HTK := Lib.hid (sizes_take L (k + 1))
          have HCALL := Lib.hid (HIH.out e1 _ b1 wr z (by have := HE.out; have := exSizes_mem hmem; have := HN.out; omega) his hz hz1)
          have HZZ := Lib.hid (show z = J - 1 - (exSizes (L.take k) : Int) by rcases HZ.out with h | h <;> omega)
          clear his hget hmem
          go_wp2_with (go_at_call 61; refine HCALL.out.mono ?_; rintro r w1 ⟨z1, rfl, hb1, hq⟩; have HB1 := Lib.hid hb1; have HQ := Lib.hid hq; clear hb1 hq)
          go_roundw
          case rel =>
            refine ⟨k + 1, z1, by omega, by go_num, rfl, ?_, ?_, Lib.hid ?_, Lib.hid (HB.out.trans (HB1.out.mono HB.out.size)), (HB1.out.block _ hboxlt).trans HBOX.out⟩
            · rcases HQ.out with h | h <;> omega
            · rcases HQ.out with h | h <;> omega
            · have h1 := HG.out
              have h2 := HTK.out
              have h3 := HZZ.out
              have h4 := HE.out
              rcases HQ.out with h | h
              · exact Or.inl ⟨h.1, by omega⟩
              · exact Or.inr ⟨h.1, by omega⟩
          case measure => simp [intOf]; omega
        · have HQ := Lib.hid (show z = -1 ∧ J < (exSize e : Int) by rcases HZ.out with h | h <;> omega)
          have hd : decide (0 ≤ z) = false := by simp; omega
          have hlti : (k : Int) < (m : Int) := by omega
          go_wp2_with fail
          go_ret
          exact ⟨z, rfl, HB.out, Or.inr HQ.out⟩
      · have HQ := Lib.hid (show (0 ≤ z ∧ z = J - (exSize e : Int)) ∨ (z = -1 ∧ J < (exSize e : Int)) by
          have h := HZ.out
          rw [List.take_of_length_le (by rw [← HM.out]; omega)] at h
          have h4 := HE.out
          rcases h with h | h
          · exact Or.inl ⟨h.1, by omega⟩
          · exact Or.inr h)
        have hd : decide ((k : Int) < (m : Int)) = false := by simp; omega
        go_wp2_with fail
        go_ret
        exact ⟨z, rfl, HB.out, HQ.out⟩

set_option maxHeartbeats 2000000 in
theorem valid_any (e : Ex) (v : Value) (bs : List Nat) (w : World) (hv : ExIs w v e bs) (hb : exTot e ≤ 1048576) :
    Calls Try.prog 16 #[v] w (RetPost (.bool (exValid e)) w) := by
  have hsz : exSize e ≤ 1048577 := by have := (tot_size (exSize e)).1 e (Nat.le_refl _); omega
  have HL := Lib.hid (fun (W : World) (h : Below w.heap.size w W) => left_any (exSize e) e v bs W 80 (Nat.le_refl _) (hv.below h) (by omega) (by omega))
  have HD := Lib.hid (fun (W : World) (h : Below w.heap.size w W) => depth_any (exSize e) e v bs W (Nat.le_refl _) (hv.below h) (by omega))
  have HA := Lib.hid (fun (W : World) (h : Below w.heap.size w W) => all_any (exSize e) e v bs W (Nat.le_refl _) (hv.below h) hb)
  obtain ⟨u, rfl, -, hu⟩ := hv
  obtain ⟨A, c, rfl, -⟩ := id hu
  clear hu hb hsz
  have HV := Lib.hid (show exValid e = (decide (exSize e ≤ 80) && (decide (exDepth e ≤ 24) && exAll e)) from rfl)
  have HBX := Lib.hid (box_cells2 w e.kind e.name (.slice A e.args.length c))
  have HB0 := Lib.hid ((Below.refl w.heap.size w).alloc (Nat.le_refl _) (.cells #[.int .i64 e.kind, .string e.name, .slice A e.args.length c] 26))
  generalize exDepth e = D at *
  generalize exAll e = b at *
  generalize hZ : exSize e = Z at *
  clear hZ
  go_enter Try.func16, Try.ntmps16
  go_wp2_with fail
  go_at_call 61
  refine (HL.out _ HB0.out).mono ?_
  rintro r w1 ⟨z, rfl, hb1, hq⟩
  have HC1 := Lib.hid (HBX.out w1 hb1)
  have HB1 := Lib.hid (HB0.out.trans (hb1.mono HB0.out.size))
  have HW1 := Lib.hid hb1
  have HQ := Lib.hid hq
  clear hb1 hq
  by_cases hz : 0 ≤ z
  · have HS := Lib.hid (show decide (Z ≤ 80) = true by rcases HQ.out with h | h <;> simp <;> omega)
    obtain ⟨x0, x1, x2⟩ := HC1.out
    go_wp2_with fail
    go_at_call 62
    refine (HD.out _ HB1.out).mono ?_
    rintro r w2 ⟨rfl, hb2⟩
    have HW2 := Lib.hid (HW1.out.trans (hb2.mono HW1.out.size))
    have HB2 := Lib.hid (HB1.out.trans (hb2.mono HB1.out.size))
    clear hb2 x0 x1 x2
    by_cases hd : D ≤ 24
    · have HDD := Lib.hid (show decide (D ≤ 24) = true by simpa using hd)
      have hdi : (D : Int) ≤ 24 := by omega
      obtain ⟨x0, x1, x2⟩ := HBX.out w2 HW2.out
      go_wp2_with fail
      go_at_call 63
      refine (HA.out _ HB2.out).mono ?_
      rintro r w3 ⟨rfl, hb3⟩
      have HB3 := Lib.hid (HB2.out.trans (hb3.mono HB2.out.size))
      clear hb3
      go_wp2_with fail
      go_ret
      exact ⟨by rw [HV.out, HS.out, HDD.out]; rfl, HB3.out⟩
    · have HDD := Lib.hid (show decide (D ≤ 24) = false by simpa using hd)
      have hdi : decide ((D : Int) ≤ 24) = false := by simp; omega
      clear hd
      go_wp2_with fail
      go_ret
      exact ⟨by rw [HV.out, HS.out, HDD.out]; rfl, HB2.out⟩
  · have HS := Lib.hid (show decide (Z ≤ 80) = false by rcases HQ.out with h | h <;> simp <;> omega)
    have hzd : decide (0 ≤ z) = false := by simpa using hz
    clear hz
    go_wp2_with fail
    go_ret
    exact ⟨by rw [HV.out, HS.out]; rfl, HB1.out⟩

set_option maxHeartbeats 1000000 in
theorem isdata_any (e : Ex) (v : Value) (bs : List Nat) (w : World) (hv : ExIs w v e bs) (hb : exTot e ≤ 1048576) :
    Calls Try.prog 25 #[v] w (RetPost (.bool (exIsData e)) w) := by
  have HL := Lib.hid (fun (W : World) (h : Below w.heap.size w W) => valid_any e v bs W (hv.below h) hb)
  have HA := Lib.hid (fun (W : World) (h : Below w.heap.size w W) => dat_any (exSize e) e v bs W (Nat.le_refl _) (hv.below h) hb)
  obtain ⟨u, rfl, -, hu⟩ := hv
  obtain ⟨A, c, rfl, -⟩ := id hu
  clear hu hb
  have HV := Lib.hid (show exIsData e = (exValid e && exDat e) from rfl)
  have HBX := Lib.hid (box_cells2 w e.kind e.name (.slice A e.args.length c))
  have HB0 := Lib.hid ((Below.refl w.heap.size w).alloc (Nat.le_refl _) (.cells #[.int .i64 e.kind, .string e.name, .slice A e.args.length c] 26))
  generalize exDat e = b at *
  generalize exValid e = a at *
  go_enter Try.func25, Try.ntmps25
  go_wp2_with fail
  go_at_call 16
  refine (HL.out _ HB0.out).mono ?_
  rintro r w1 ⟨rfl, hb1⟩
  have HB1 := Lib.hid (HB0.out.trans (hb1.mono HB0.out.size))
  obtain ⟨x0, x1, x2⟩ := HBX.out w1 hb1
  clear hb1
  cases a
  · go_wp2_with fail
    go_ret
    exact ⟨by rw [HV.out]; rfl, HB1.out⟩
  · go_wp2_with fail
    go_at_call 68
    refine (HA.out _ HB1.out).mono ?_
    rintro r w3 ⟨rfl, hb3⟩
    have HB3 := Lib.hid (HB1.out.trans (hb3.mono HB1.out.size))
    clear hb3
    go_wp2_with fail
    go_ret
    exact ⟨by rw [HV.out]; rfl, HB3.out⟩
end Go.Proofs.Ytmndlhbgacgnlaa
