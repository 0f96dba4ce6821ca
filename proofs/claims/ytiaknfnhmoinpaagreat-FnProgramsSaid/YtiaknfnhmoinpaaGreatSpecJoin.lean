/- A part of the proof of the seat's statement: SpecJoin. Condition: as each says. -/
import Derived.Test.YtiaknfnhmoinpaaGreatSpecSizes
import Derived.Test.YtiaknfnhmoinpaaGreatFrame
import Derived.Test.YtiaknfnhmoinpaaGreatDrawOnce
import Derived.Test.YtiaknfnhmoinpaaGreatNames
import Derived.Lib.AppendStr
import Derived.Lib.Join
import Derived.Lib.BufferRead
set_option maxHeartbeats 8000000
namespace Go.Proofs.YtiaknfnhmoinpaaGreat
open Go Go.RowKit
def exFormOf (K : Int) (s : ByteArray) (m : Nat) : Bool :=
 if K = 1 then nameL 97 122 s.data.toList && decide (m = 0) else if K = 2 then nameL 65 90 s.data.toList && decide (m ≤ 5) else if K = 3 then nameL 97 122 s.data.toList && decide (m ≤ 5) else if K = 4 then decide (s.size = 0) && decide (m = 0) else false
mutual
def exAll : Ex → Bool
 | .mk k s l => exAllL l && exFormOf k s l.length
def exAllL : List Ex → Bool
 | [] => true
 | e :: r => exAll e && exAllL r
end
def exValid (e : Ex) : Bool := decide (exSize e ≤ 80) && (decide (exDepth e ≤ 24) && exAll e)
theorem all_app : ∀ (a b : List Ex), exAllL (a ++ b) = (exAllL a && exAllL b) := by
 intro a
 induction a with
 | nil => intro b; simp [exAllL]
 | cons x r ih => intro b; rw [List.cons_append, exAllL, exAllL, ih, Bool.and_assoc]
theorem all_snoc (l : List Ex) (k : Nat) (e : Ex) (h : l[k]? = some e) : exAllL (l.take (k + 1)) = (exAllL (l.take k) && exAll e) := by
 rw [take_ex l k e h, all_app]; simp [exAllL]
theorem all_false {l : List Ex} {e : Ex} (h : e ∈ l) (he : exAll e = false) : exAllL l = false := by
 induction l with
 | nil => cases h
 | cons x r ih =>
  rw [exAllL]
  rcases List.mem_cons.1 h with rfl | h
  · rw [he]; rfl
  rw [ih h, Bool.and_false]
theorem tots_mem : ∀ {l : List Ex} {e : Ex}, e ∈ l → exTot e + 1 ≤ exTots l := by
 intro l
 induction l with
 | nil => intro e h; cases h
 | cons x r ih =>
  intro e h
  rw [exTots]
  rcases List.mem_cons.1 h with rfl | h
  · omega
  have := ih h; omega
theorem tot_parts (e : Ex) : exTot e = e.name.size + exTots e.args := by cases e; rfl
theorem form_any (K : Int) (S : ByteArray) (A : Option Addr) (m c : Nat) (w : World) (hS : S.size ≤ 1048576) (hc1 : m ≤ c) (hc2 : c ≤ 9223372036854775807) :
 Calls Tryz.prog 87 #[.agg #[.int .i64 K, .string S, .slice A m c]] w (RetPost (.bool (exFormOf K S m)) w) := by
 have hm : (m : Int) ≤ 9223372036854775807 := by omega
 by_cases h1 : K = 1
 · subst h1
   have HF := zH (show exFormOf 1 S m = (nameL 97 122 S.data.toList && decide (m = 0)) from rfl)
   have HN := zH (fun (W : World) => isname_any S W hS)
   generalize nameL 97 122 S.data.toList = b at *
   cases b
   · go_enter Tryz.func87, Tryz.ntmps87
     go_wp2_with (go_at_call 75; refine (HN.out _).mono ?_; rintro r w' ⟨rfl, rfl⟩)
     go_ret
     exact ⟨by rw [HF.out]; rfl, (wB _ _).alloc (nR _) _⟩
   by_cases hm0 : m = 0
   · subst hm0
     go_enter Tryz.func87, Tryz.ntmps87
     go_wp2_with (go_at_call 75; refine (HN.out _).mono ?_; rintro r w' ⟨rfl, rfl⟩)
     go_ret
     exact ⟨by rw [HF.out]; rfl, (wB _ _).alloc (nR _) _⟩
   have hz : ((m : Int) == 0) = false := by simpa using hm0
   have HM := zH (show decide (m = 0) = false by simpa using hm0)
   clear hm0
   go_enter Tryz.func87, Tryz.ntmps87
   go_wp2_with (go_at_call 75; refine (HN.out _).mono ?_; rintro r w' ⟨rfl, rfl⟩)
   go_ret
   exact ⟨by rw [HF.out, HM.out]; rfl, (wB _ _).alloc (nR _) _⟩
 by_cases h2 : K = 2
 · subst h2
   have HF := zH (show exFormOf 2 S m = (nameL 65 90 S.data.toList && decide (m ≤ 5)) from rfl)
   have HN := zH (fun (W : World) => iscon_any S W hS)
   generalize nameL 65 90 S.data.toList = b at *
   cases b
   · go_enter Tryz.func87, Tryz.ntmps87
     go_wp2_with (go_at_call 74; refine (HN.out _).mono ?_; rintro r w' ⟨rfl, rfl⟩)
     go_ret
     exact ⟨by rw [HF.out]; rfl, (wB _ _).alloc (nR _) _⟩
   by_cases hm0 : m ≤ 5
   · have hz : (m : Int) ≤ 5 := by omega
     have HM := zH (show decide (m ≤ 5) = true by simpa using hm0)
     clear hm0
     go_enter Tryz.func87, Tryz.ntmps87
     go_wp2_with (go_at_call 74; refine (HN.out _).mono ?_; rintro r w' ⟨rfl, rfl⟩)
     go_ret
     exact ⟨by rw [HF.out, HM.out]; rfl, (wB _ _).alloc (nR _) _⟩
   have hz : 5 < (m : Int) := by omega
   have hz2 : decide ((m : Int) ≤ 5) = false := by simp; omega
   have HM := zH (show decide (m ≤ 5) = false by simpa using hm0)
   clear hm0
   go_enter Tryz.func87, Tryz.ntmps87
   go_wp2_with (go_at_call 74; refine (HN.out _).mono ?_; rintro r w' ⟨rfl, rfl⟩)
   go_ret
   exact ⟨by rw [HF.out, HM.out]; rfl, (wB _ _).alloc (nR _) _⟩
 by_cases h3 : K = 3
 · subst h3
   have HF := zH (show exFormOf 3 S m = (nameL 97 122 S.data.toList && decide (m ≤ 5)) from rfl)
   have HN := zH (fun (W : World) => isname_any S W hS)
   generalize nameL 97 122 S.data.toList = b at *
   cases b
   · go_enter Tryz.func87, Tryz.ntmps87
     go_wp2_with (go_at_call 75; refine (HN.out _).mono ?_; rintro r w' ⟨rfl, rfl⟩)
     go_ret
     exact ⟨by rw [HF.out]; rfl, (wB _ _).alloc (nR _) _⟩
   by_cases hm0 : m ≤ 5
   · have hz : (m : Int) ≤ 5 := by omega
     have HM := zH (show decide (m ≤ 5) = true by simpa using hm0)
     clear hm0
     go_enter Tryz.func87, Tryz.ntmps87
     go_wp2_with (go_at_call 75; refine (HN.out _).mono ?_; rintro r w' ⟨rfl, rfl⟩)
     go_ret
     exact ⟨by rw [HF.out, HM.out]; rfl, (wB _ _).alloc (nR _) _⟩
   have hz : 5 < (m : Int) := by omega
   have hz2 : decide ((m : Int) ≤ 5) = false := by simp; omega
   have HM := zH (show decide (m ≤ 5) = false by simpa using hm0)
   clear hm0
   go_enter Tryz.func87, Tryz.ntmps87
   go_wp2_with (go_at_call 75; refine (HN.out _).mono ?_; rintro r w' ⟨rfl, rfl⟩)
   go_ret
   exact ⟨by rw [HF.out, HM.out]; rfl, (wB _ _).alloc (nR _) _⟩
 by_cases h4 : K = 4
 · subst h4
   have HF := zH (show exFormOf 4 S m = (decide (S.size = 0) && decide (m = 0)) from rfl)
   by_cases hs0 : S.size = 0
   · have HS := zH (show decide (S.size = 0) = true by simpa using hs0)
     have hl : S.toList = [] := by rw [ByteArray.toList_eq]; exact List.eq_nil_of_length_eq_zero (by rw [sizeN]; omega)
     have hl2 : (!S.toList.isEmpty) = false := by rw [hl]; rfl
     have hl3 : S.toList.isEmpty = true := by rw [hl]; rfl
     clear hs0 hS
     by_cases hm0 : m = 0
     · subst hm0
       go_enter Tryz.func87, Tryz.ntmps87
       go_wp2_with fail
       go_ret
       exact ⟨by rw [HF.out, HS.out]; rfl, (wB _ _).alloc (nR _) _⟩
     have hz : ((m : Int) == 0) = false := by simpa using hm0
     have HM := zH (show decide (m = 0) = false by simpa using hm0)
     clear hm0
     go_enter Tryz.func87, Tryz.ntmps87
     go_wp2_with fail
     go_ret
     exact ⟨by rw [HF.out, HS.out, HM.out]; rfl, (wB _ _).alloc (nR _) _⟩
   have HS := zH (show decide (S.size = 0) = false by simpa using hs0)
   have hl3 : S.toList.isEmpty = false := by
    cases hb : S.toList.isEmpty with
    | false => rfl
    | true =>
     rw [List.isEmpty_iff, ByteArray.toList_eq] at hb
     have := sizeN S
     rw [hb] at this
     simp at this; omega
   clear hs0 hS
   go_enter Tryz.func87, Tryz.ntmps87
   go_wp2_with fail
   go_ret
   exact ⟨by rw [HF.out, HS.out]; rfl, (wB _ _).alloc (nR _) _⟩
 have HF := zH (show exFormOf K S m = false by unfold exFormOf; rw [if_neg h1, if_neg h2, if_neg h3, if_neg h4])
 have k1 : (K == 1) = false := by simpa using h1
 have k2 : (K == 2) = false := by simpa using h2
 have k3 : (K == 3) = false := by simpa using h3
 have k4 : (K == 4) = false := by simpa using h4
 clear h1 h2 h3 h4 hS
 go_enter Tryz.func87, Tryz.ntmps87
 go_wp2_with fail
 go_ret
 exact ⟨by rw [HF.out]; rfl, (wB _ _).alloc (nR _) _⟩
theorem all_any (n : Nat) : ∀ (e : Ex) (v : Value) (bs : List Nat) (w : World), exSize e ≤ n → ExIs w v e bs → exTot e ≤ 1048576 →
 Calls Tryz.prog 65 #[v] w (RetPost (.bool (exAll e)) w) := by
 induction n with
 | zero => intro e v bs w h; have := exSize_pos e; omega
 | succ n ih =>
  intro e v bs w hle hv hb
  obtain ⟨u, rfl, hsz, hu⟩ := hv
  obtain ⟨A, c, rfl, hc1, hc2, -⟩ := id hu
  have HU := zH hu
  have HTP := zH (tot_parts e)
  have HTL := zH (tots_ge e.args)
  obtain ⟨K, hK⟩ : ∃ K, K = e.kind := ⟨_, rfl⟩
  obtain ⟨S, hS⟩ : ∃ S, S = e.name := ⟨_, rfl⟩
  obtain ⟨L, hL⟩ : ∃ L, L = e.args := ⟨_, rfl⟩
  obtain ⟨m, hm⟩ : ∃ m, m = L.length := ⟨_, rfl⟩
  have HE := zH (show exSize e = exSizes L + 1 by rw [hL]; cases e; rfl)
  have HF := zH (show exAll e = (exAllL L && exFormOf K S m) by first | (rw [hm, hL, hK, hS]; cases e; rfl) | (rw [hL, hK]; cases e; rfl) | (rw [hL]; cases e; rfl))
  rw [← hK, ← hS, ← hL, ← hm]
  rw [← hS] at hsz HTP
  rw [← hL, ← hm] at hc1 HU
  rw [← hL] at HTP HTL
  have HM := zH hm
  have HN := zH hle
  have HBD := zH hb
  have HIH := zH ih
  clear hu hK hS hL hm hle hb ih
  have hc3 : (m : Int) ≤ 9223372036854775807 := by omega
  go_enter Tryz.func65, Tryz.ntmps65
  go_wp2_with fail
  go_loopw [3] (fun i wr => ∃ (k : Nat), k ≤ m ∧ i = .int .i64 (k : Int) ∧ Hid (exAllL (L.take k) = true) ∧ Hid (Below w.heap.size w wr) ∧ wr.heap[w.heap.size]? = some (.cells #[.int .i64 K, .string S, .slice A m c] 32 (0, 0))) (fun i _ => m - (intOf i).toNat)
  case atStart => exact ⟨0, Nat.zero_le _, rfl, zH (by simp [exAllL]), zH ((wB _ _).alloc (nR _) _), heap_alloc_new _ _⟩
  case round =>
   obtain ⟨k, hk, rfl, HZ, HB, hbox⟩ := hrel
   have hc2' : wr.cell? ⟨w.heap.size, 2, none⟩ = some (.slice A m c) := by simp [World.cell?, hbox]
   have hc0' : wr.cell? ⟨w.heap.size, 0, none⟩ = some (.int .i64 K) := by simp [World.cell?, hbox]
   have hc1' : wr.cell? ⟨w.heap.size, 1, none⟩ = some (.string S) := by simp [World.cell?, hbox]
   have hgo := HB.out.size
   have hboxlt : w.heap.size < wr.heap.size := (Array.getElem?_eq_some_iff.1 hbox).1
   have HBOX := zH hbox
   clear hbox
   by_cases hlt : k < m
   · obtain ⟨g, o, e1, u, b1, rfl, hbl, hget, hmem, c1, c2, c3, his, -⟩ := (HU.out.below HB.out).get k (by rw [← HM.out]; exact hlt)
     have HT1 := zH (show exTot e1 ≤ 1048576 by have := tots_mem hmem; have := HTP.out; have := HBD.out; omega)
     have HS1 := zH (show exSize e1 ≤ n by have := HE.out; have := exSizes_mem hmem; have := HN.out; omega)
     have HG := zH (all_snoc L k e1 hget)
     have HAF := zH (all_false hmem)
     have HCALL := zH (HIH.out e1 _ b1 wr HS1.out his HT1.out)
     clear his hget hmem
     generalize exAll e1 = b at *
     cases b
     · have HE2 := zH (show exAll e = false by rw [HF.out, HAF.out rfl, Bool.false_and])
       go_wp2_with (go_at_call 65; refine HCALL.out.mono ?_; rintro r w1 ⟨rfl, hb1⟩; have HB1 := zH hb1; clear hb1)
       go_ret
       exact ⟨by rw [HE2.out]; rfl, HB.out.trans (HB1.out.mono HB.out.size)⟩
     go_wp2_with (go_at_call 65; refine HCALL.out.mono ?_; rintro r w1 ⟨rfl, hb1⟩; have HB1 := zH hb1; clear hb1)
     go_roundw
     case rel => exact ⟨k + 1, by omega, by go_num, zH (by rw [HG.out, HZ.out]; rfl), zH (HB.out.trans (HB1.out.mono HB.out.size)), (HB1.out.block _ hboxlt).trans HBOX.out⟩
     case measure => simp [intOf]; omega
   have HL := zH (show exAllL L = true by
    have h := HZ.out
    rw [List.take_of_length_le (by rw [← HM.out]; omega)] at h
    exact h)
   have HE2 := zH (show exAll e = exFormOf K S m by rw [HF.out, HL.out, Bool.true_and])
   have HC := zH (form_any K S A m c wr (by have := HTP.out; have := HBD.out; omega) hc1 hc2)
   generalize exFormOf K S m = b at *
   go_wp2_with (go_at_call 87; refine HC.out.mono ?_; rintro r w1 ⟨rfl, hb1⟩; have HB1 := zH hb1; clear hb1)
   go_ret
   exact ⟨by rw [HE2.out]; rfl, HB.out.trans (HB1.out.mono HB.out.size)⟩
def LeftPost (L T : Int) (w : World) (e : Ending) (w' : World) : Prop := ∃ r : Int, e = .returned (.int .i64 r) ∧ Below w.heap.size w w' ∧ ((0 ≤ r ∧ r = L - T) ∨ (r = -1 ∧ L < T))
def LeftAt (L T s z : Int) : Prop := (0 ≤ z ∧ z = L - 1 - s) ∨ (z = -1 ∧ L < T)
theorem left_any (n : Nat) : ∀ (e : Ex) (v : Value) (bs : List Nat) (w : World) (J : Int), exSize e ≤ n → ExIs w v e bs → 0 ≤ J → J ≤ 1048576 →
 Calls Tryz.prog 63 #[v, .int .i64 J] w (LeftPost J (exSize e : Int) w) := by
 induction n with
 | zero => intro e v bs w J h; have := exSize_pos e; omega
 | succ n ih =>
  intro e v bs w J hle hv hJ0 hJ1
  obtain ⟨u, rfl, hsz, hu⟩ := hv
  obtain ⟨A, c, rfl, hc1, hc2, -⟩ := id hu
  have HU := zH hu
  obtain ⟨K, hK⟩ : ∃ K, K = e.kind := ⟨_, rfl⟩
  obtain ⟨S, hS⟩ : ∃ S, S = e.name := ⟨_, rfl⟩
  obtain ⟨L, hL⟩ : ∃ L, L = e.args := ⟨_, rfl⟩
  obtain ⟨m, hm⟩ : ∃ m, m = L.length := ⟨_, rfl⟩
  have HE := zH (show exSize e = exSizes L + 1 by rw [hL]; cases e; rfl)
  rw [← hK, ← hS, ← hL, ← hm]
  rw [← hS] at hsz
  rw [← hL, ← hm] at hc1 HU
  have HM := zH hm
  have HN := zH hle
  have HIH := zH ih
  clear hu hK hS hL hm hle ih
  have hc3 : (m : Int) ≤ 9223372036854775807 := by omega
  obtain ⟨z0, hz0⟩ : ∃ z0 : Int, z0 = J - 1 := ⟨_, rfl⟩
  have HZ0 := zH (show LeftAt J (exSize e : Int) (exSizes (L.take 0) : Int) (J - 1) by
   unfold LeftAt
   simp only [List.take_zero, exSizes]
   by_cases h : J = 0
   · exact Or.inr ⟨by omega, by have := exSize_pos e; omega⟩
   exact Or.inl ⟨by omega, by omega⟩)
  clear hz0
  go_enter Tryz.func63, Tryz.ntmps63
  go_wp2_with fail
  go_loopw [1, 5] (fun t i wr => ∃ (k : Nat) (z : Int), k ≤ m ∧ i = .int .i64 (k : Int) ∧ t = .int .i64 z ∧ -1 ≤ z ∧ z ≤ 1048576 ∧ Hid (LeftAt J (exSize e : Int) (exSizes (L.take k) : Int) z) ∧ Hid (Below w.heap.size w wr) ∧ wr.heap[w.heap.size]? = some (.cells #[.int .i64 K, .string S, .slice A m c] 32 (0, 0))) (fun _ i _ => m - (intOf i).toNat)
  case atStart => exact ⟨0, _, Nat.zero_le _, rfl, rfl, by omega, by omega, HZ0, zH ((wB _ _).alloc (nR _) _), heap_alloc_new _ _⟩
  case round =>
   obtain ⟨k, z, hk, rfl, rfl, hz0, hz1, HZ, HB, hbox⟩ := hrel
   have hc2' : wr.cell? ⟨w.heap.size, 2, none⟩ = some (.slice A m c) := by simp [World.cell?, hbox]
   have hgo := HB.out.size
   have hboxlt : w.heap.size < wr.heap.size := (Array.getElem?_eq_some_iff.1 hbox).1
   have HBOX := zH hbox
   clear hbox
   by_cases hlt : k < m
   · by_cases hz : 0 ≤ z
     · obtain ⟨g, o, e1, u, b1, rfl, hbl, hget, hmem, c1, c2, c3, his, -⟩ := (HU.out.below HB.out).get k (by rw [← HM.out]; exact hlt)
       have HG := zH (sizes_snoc L k e1 hget)
       have HTK := zH (sizes_take L (k + 1))
       have HCALL := zH (HIH.out e1 _ b1 wr z (by have := HE.out; have := exSizes_mem hmem; have := HN.out; omega) his hz hz1)
       have HZZ := zH (show z = J - 1 - (exSizes (L.take k) : Int) by rcases HZ.out with h | h <;> omega)
       clear his hget hmem
       go_wp2_with (go_at_call 63; refine HCALL.out.mono ?_; rintro r w1 ⟨z1, rfl, hb1, hq⟩; have HB1 := zH hb1; have HQ := zH hq; clear hb1 hq)
       go_roundw
       case rel =>
        refine ⟨k + 1, z1, by omega, by go_num, rfl, ?_, ?_, zH ?_, zH (HB.out.trans (HB1.out.mono HB.out.size)), (HB1.out.block _ hboxlt).trans HBOX.out⟩
        · rcases HQ.out with h | h <;> omega
        · rcases HQ.out with h | h <;> omega
        have h1 := HG.out
        have h2 := HTK.out
        have h3 := HZZ.out
        have h4 := HE.out
        rcases HQ.out with h | h
        · exact Or.inl ⟨h.1, by omega⟩
        exact Or.inr ⟨h.1, by omega⟩
       case measure => simp [intOf]; omega
     have HQ := zH (show z = -1 ∧ J < (exSize e : Int) by rcases HZ.out with h | h <;> omega)
     have hd : decide (0 ≤ z) = false := by simp; omega
     have hlti : (k : Int) < (m : Int) := by omega
     go_wp2_with fail
     go_ret
     exact ⟨z, rfl, HB.out, Or.inr HQ.out⟩
   have HQ := zH (show (0 ≤ z ∧ z = J - (exSize e : Int)) ∨ (z = -1 ∧ J < (exSize e : Int)) by
    have h := HZ.out
    rw [List.take_of_length_le (by rw [← HM.out]; omega)] at h
    have h4 := HE.out
    rcases h with h | h
    · exact Or.inl ⟨h.1, by omega⟩
    exact Or.inr h)
   have hd : decide ((k : Int) < (m : Int)) = false := by simp; omega
   go_wp2_with fail
   go_ret
   exact ⟨z, rfl, HB.out, HQ.out⟩
theorem valid_any (e : Ex) (v : Value) (bs : List Nat) (w : World) (hv : ExIs w v e bs) (hb : exTot e ≤ 1048576) :
 Calls Tryz.prog 42 #[v] w (RetPost (.bool (exValid e)) w) := by
 have hsz : exSize e ≤ 1048577 := by have := (tot_size (exSize e)).1 e (nR _); omega
 have HL := zH (fun (W : World) (h : Below w.heap.size w W) => left_any (exSize e) e v bs W 80 (nR _) (hv.below h) (by omega) (by omega))
 have HD := zH (fun (W : World) (h : Below w.heap.size w W) => depth_any (exSize e) e v bs W (nR _) (hv.below h) (by omega))
 have HA := zH (fun (W : World) (h : Below w.heap.size w W) => all_any (exSize e) e v bs W (nR _) (hv.below h) hb)
 obtain ⟨u, rfl, -, hu⟩ := hv
 obtain ⟨A, c, rfl, -⟩ := id hu
 clear hu hb hsz
 have HV := zH (show exValid e = (decide (exSize e ≤ 80) && (decide (exDepth e ≤ 24) && exAll e)) from rfl)
 have HBX := zH (box_cells2 w e.kind e.name (.slice A e.args.length c))
 have HB0 := zH ((wB w.heap.size w).alloc (nR _) (.cells #[.int .i64 e.kind, .string e.name, .slice A e.args.length c] 32))
 generalize exDepth e = D at *
 generalize exAll e = b at *
 generalize hZ : exSize e = Z at *
 clear hZ
 go_enter Tryz.func42, Tryz.ntmps42
 go_wp2_with fail
 go_at_call 63
 refine (HL.out _ HB0.out).mono ?_
 rintro r w1 ⟨z, rfl, hb1, hq⟩
 have HC1 := zH (HBX.out w1 hb1)
 have HB1 := zH (HB0.out.trans (hb1.mono HB0.out.size))
 have HW1 := zH hb1
 have HQ := zH hq
 clear hb1 hq
 by_cases hz : 0 ≤ z
 · have HS := zH (show decide (Z ≤ 80) = true by rcases HQ.out with h | h <;> simp <;> omega)
   obtain ⟨x0, x1, x2⟩ := HC1.out
   go_wp2_with fail
   go_at_call 64
   refine (HD.out _ HB1.out).mono ?_
   rintro r w2 ⟨rfl, hb2⟩
   have HW2 := zH (HW1.out.trans (hb2.mono HW1.out.size))
   have HB2 := zH (HB1.out.trans (hb2.mono HB1.out.size))
   clear hb2 x0 x1 x2
   by_cases hd : D ≤ 24
   · have HDD := zH (show decide (D ≤ 24) = true by simpa using hd)
     have hdi : (D : Int) ≤ 24 := by omega
     obtain ⟨x0, x1, x2⟩ := HBX.out w2 HW2.out
     go_wp2_with fail
     go_at_call 65
     refine (HA.out _ HB2.out).mono ?_
     rintro r w3 ⟨rfl, hb3⟩
     have HB3 := zH (HB2.out.trans (hb3.mono HB2.out.size))
     clear hb3
     go_wp2_with fail
     go_ret
     exact ⟨by rw [HV.out, HS.out, HDD.out]; rfl, HB3.out⟩
   have HDD := zH (show decide (D ≤ 24) = false by simpa using hd)
   have hdi : decide ((D : Int) ≤ 24) = false := by simp; omega
   clear hd
   go_wp2_with fail
   go_ret
   exact ⟨by rw [HV.out, HS.out, HDD.out]; rfl, HB2.out⟩
 have HS := zH (show decide (Z ≤ 80) = false by rcases HQ.out with h | h <;> simp <;> omega)
 have hzd : decide (0 ≤ z) = false := by simpa using hz
 clear hz
 go_wp2_with fail
 go_ret
 exact ⟨by rw [HV.out, HS.out]; rfl, HB1.out⟩
def totS (l : List ByteArray) : Nat := (l.map (·.size)).sum
theorem totS_snoc (l : List ByteArray) (x : ByteArray) : totS (l ++ [x]) = totS l + x.size := by simp [totS]
def listsS (xs : List ByteArray) : List (List UInt8) := xs.map (·.data.toList)
def cellsB (l : List UInt8) : List Value := l.map fun b => Value.int .u8 b.toNat
theorem cells_append (a b : List UInt8) : cellsB (a ++ b) = cellsB a ++ cellsB b := List.map_append
theorem size_listS (s : ByteArray) : s.data.toList.length = s.size := Array.length_toList
theorem join_snoc (L : List (List UInt8)) (x sep : List UInt8) (h : L ≠ []) : Lib.join (L ++ [x]) sep = Lib.join L sep ++ sep ++ x := by
 cases L with
 | nil => exact absurd rfl h
 | cons y r =>
  rw [List.cons_append, Lib.join_cons, Lib.join_cons]
  simp [Lib.joinTail, List.append_assoc]
theorem tail_length (r : List (List UInt8)) (sep : List UInt8) : (Lib.joinTail sep r).length = Lib.lens r + r.length * sep.length := by
 induction r with
 | nil => simp [Lib.joinTail, Lib.lens]
 | cons y r ih =>
  have e1 : Lib.joinTail sep (y :: r) = sep ++ y ++ Lib.joinTail sep r := by simp [Lib.joinTail, List.append_assoc]
  have e2 : Lib.lens (y :: r) = y.length + Lib.lens r := by simp [Lib.lens]
  rw [e1, e2, lA, lA, ih, lC, Nat.succ_mul]; omega
theorem join_length (L : List (List UInt8)) (sep : List UInt8) : (Lib.join L sep).length ≤ Lib.lens L + L.length * sep.length := by
 cases L with
 | nil => simp [Lib.join_nil, Lib.lens]
 | cons x r =>
  have e2 : Lib.lens (x :: r) = x.length + Lib.lens r := by simp [Lib.lens]
  rw [Lib.join_cons, lA, tail_length, e2, lC, Nat.succ_mul]; omega
theorem lens_lists (xs : List ByteArray) : Lib.lens (listsS xs) = totS xs := by
 unfold Lib.lens listsS totS
 rw [List.map_map]
 congr 1
theorem totS_take (xs : List ByteArray) : ∀ k, totS (xs.take k) ≤ totS xs := by
 induction xs with
 | nil => intro k; simp [totS]
 | cons x r ih =>
  intro k
  cases k with
  | zero => simp [totS]
  | succ k =>
   have := ih k
   simp only [totS, List.take_succ_cons, List.map_cons, List.sum_cons] at this ⊢
   omega
theorem joined_le (xs : List ByteArray) (s : ByteArray) (k : Nat) (hk : k ≤ xs.length) (ht : totS xs + xs.length ≤ 2097152) (hs : s.size ≤ 1048576) :
 (Lib.join (listsS (xs.take k)) s.data.toList).length ≤ 4398046511104 := by
 have h1 := join_length (listsS (xs.take k)) s.data.toList
 have h2 := totS_take xs k
 rw [lens_lists, size_listS] at h1
 have h3 : (listsS (xs.take k)).length = k := by simp [listsS]; omega
 rw [h3] at h1
 have h4 : k * s.size ≤ 2097152 * 1048576 := Nat.mul_le_mul (by omega) hs
 omega
theorem lists_snoc (xs : List ByteArray) (x : ByteArray) : listsS (xs ++ [x]) = listsS xs ++ [x.data.toList] := by simp [listsS]
theorem join_step0 (xs : List ByteArray) (x s : ByteArray) (h : xs.take 1 = xs.take 0 ++ [x]) : Lib.join (listsS (xs.take 1)) s.data.toList = Lib.join (listsS (xs.take 0)) s.data.toList ++ x.data.toList := by
 rw [h, lists_snoc]
 simp [listsS, Lib.join_one, Lib.join_nil]
theorem join_step (xs : List ByteArray) (k : Nat) (x s : ByteArray) (hk : 0 < k) (hk2 : k ≤ xs.length) (h : xs.take (k + 1) = xs.take k ++ [x]) :
 Lib.join (listsS (xs.take (k + 1))) s.data.toList = Lib.join (listsS (xs.take k)) s.data.toList ++ s.data.toList ++ x.data.toList := by
 rw [h, lists_snoc]
 refine join_snoc _ _ _ (fun e => ?_)
 have h1 : (listsS (xs.take k)).length = 0 := by rw [e]; rfl
 have h2 : (listsS (xs.take k)).length = k := by simp [listsS]; omega
 omega
theorem Tryz.info5j : (Tryz.prog.info? 5).map (fun i => (i.zero, i.size, i.bytes)) = some (some (.int .u8 0), 1, 1) := by kernel_rfl
theorem app_belowB {w wr w1 : World} {v : Value} {n : Nat} {l : List Value} (hb : Below w.heap.size w wr) (ho : wr.ownsRow w.heap.size 5 1 v n l) (hg : wr.grownBy w1 v.ownBlock) : Below w.heap.size w w1 :=
 hb.grown hg hb.size (fun k hk => (ho.lt k hk).1)
theorem own_moreB {w1 : World} {B : Nat} {v : Value} {J : List UInt8} {s : ByteArray} (h : w1.ownsRow B 5 1 v (J.length + s.size) (cellsB J ++ Lib.strCells s)) : w1.ownsRow B 5 1 v (J ++ s.data.toList).length (cellsB (J ++ s.data.toList)) := by
 rw [lA, size_listS, cells_append]; exact h
theorem conv_row {W : World} {B : Nat} {v : Value} {J : List UInt8} (h : W.ownsRow B 5 1 v J.length (cellsB J)) : (convert 22 9 v).run Tryz.prog W = .ok (.string ⟨J.toArray⟩) W := by
 rcases h.2 with ⟨rfl, h0⟩ | ⟨g, cap, cur, rfl, -, -, -, -, -, -⟩
 · have : J = [] := List.eq_nil_of_length_eq_zero h0
   subst this
   exact Lib.run_convert_nil_bytes W 22 9 5 0 Tryz.underlying22 Tryz.underlying5 Tryz.underlying9
 refine run_convert_bytes_back W 22 9 5 ⟨g, 0, none⟩ cap J Tryz.underlying22 Tryz.underlying5 Tryz.underlying9 (fun j hj => ?_)
 exact h.cells (g := g) rfl j _ (by simp [cellsB, hj])
def JoinPost (xs : List ByteArray) (s : ByteArray) (w : World) (e : Ending) (w' : World) : Prop :=
 e = .returned (.string ⟨(Lib.join (listsS xs) s.data.toList).toArray⟩) ∧ Below w.heap.size w w'
theorem spec_join (A : Option Addr) (xs : List ByteArray) (cap : Nat) (s : ByteArray) (w : World) (hs : Strs w A xs) (ht : totS xs + xs.length ≤ 2097152) (hsep : s.size ≤ 1048576) :
 Calls Tryz.prog 109 #[.slice A xs.length cap, .string s] w (JoinPost xs s w) := by
 obtain ⟨i0, hi, hz0, hz1, hz2⟩ := info_parts Tryz.info5j
 obtain ⟨n, hnn⟩ : ∃ n, n = xs.length := ⟨_, rfl⟩
 have hn : n ≤ 2097152 := by omega
 have HN := zH hnn
 have HS := zH hs
 have HT := zH ht
 rw [← hnn]
 clear hs hnn ht
 have HI := zH (aI hi (aI hz0 (aI hz1 hz2)))
 clear hi hz0 hz1 hz2
 go_enter Tryz.func109, Tryz.ntmps109
 go_wp2
 have H0 := zH (show (w.alloc (.cells #[] 5)).ownsRow w.heap.size 5 1 (.slice (some ⟨w.heap.size, 0, none⟩) 0 0) 0 [] from World.ownsRow_made w #[] 0 (nR _) (Nat.zero_le _) rfl)
 have HB0 := zH ((wB w.heap.size w).alloc (nR _) (.cells #[] 5))
 go_loopw [5, 6] (fun v i wr => ∃ (k : Nat) (J : List UInt8), k ≤ n ∧ i = .int .i64 (k : Int) ∧ Hid (J = Lib.join (listsS (xs.take k)) s.data.toList) ∧ J.length ≤ 4398046511104 ∧ Hid (wr.ownsRow w.heap.size 5 1 v J.length (cellsB J)) ∧ Hid (Below w.heap.size w wr)) (fun _ i _ => n - (intOf i).toNat)
 case atStart => exact ⟨0, [], Nat.zero_le _, rfl, zH rfl, Nat.zero_le _, H0, HB0⟩
 case round =>
  obtain ⟨k, J, hk, rfl, HJ, hJ, HO, HB⟩ := hrel
  by_cases hlt : k < n
  · obtain ⟨a, x, rfl, hc0, hmem, -, htake, hal⟩ := HS.out.get k (by rw [← HN.out]; exact hlt)
    have hc : wr.cell? (a.add k) = some (.string x) := (HB.out.cell (p := a.add k) (by rw [block_add]; exact hal)).trans hc0
    have hx : x.size ≤ 2097152 := by
     have h1 := totS_take xs (k + 1)
     rw [htake, totS_snoc] at h1
     have := HT.out
     omega
    have hsz := HB.out.size
    by_cases hk0 : k = 0
    · have hkz : (k : Int) ≤ 0 := by omega
      have HJ1 := zH (show J ++ x.data.toList = Lib.join (listsS (xs.take (k + 1))) s.data.toList by subst hk0; rw [HJ.out]; exact (join_step0 xs x s htake).symm)
      have hJ1 : (J ++ x.data.toList).length ≤ 4398046511104 := by
       have h1 := joined_le xs s (k + 1) (by rw [← HN.out]; omega) HT.out hsep
       rw [← HJ1.out] at h1; exact h1
      have C1 := zH (show J.length + x.size ≤ maxLen by unfold maxLen; omega)
      have C2 := zH (show J.length + x.size ≤ 140737488355328 by omega)
      have C3 := zH hsz
      have HK := zH hk0
      clear hsz hc0 hmem htake hal hx hk0
      go_wp2_with (at_builtin; go_loud (refine Lib.wpList_append_own_string _ rfl (.tmp 19) (.tmp 23) 22 9 rfl w.heap.size 5 i0 Tryz.underlying22 Tryz.underlying9 HI.out.1 HI.out.2.1 HI.out.2.2.1 HI.out.2.2.2 u5 _ _ rfl HO.out x rfl C1.out C2.out C3.out ?_); intro v1 w1 ho1 hg1 _; have HO1 := zH (own_moreB ho1); have HB1 := zH (app_belowB HB.out HO.out hg1); clear ho1 hg1)
      go_roundw
      case rel => exact ⟨k + 1, _, by omega, by go_num, HJ1, hJ1, HO1, HB1⟩
      case measure => simp [intOf]; omega
    have hkp : 0 < (k : Int) := by omega
    have HJ1 := zH (show J ++ s.data.toList ++ x.data.toList = Lib.join (listsS (xs.take (k + 1))) s.data.toList by rw [HJ.out]; exact (join_step xs k x s (by omega) (by rw [← HN.out]; exact hk) htake).symm)
    have hJ1 : (J ++ s.data.toList ++ x.data.toList).length ≤ 4398046511104 := by
     have h1 := joined_le xs s (k + 1) (by rw [← HN.out]; omega) HT.out hsep
     rw [← HJ1.out] at h1; exact h1
    have C1 := zH (show J.length + s.size ≤ maxLen by unfold maxLen; omega)
    have C2 := zH (show J.length + s.size ≤ 140737488355328 by omega)
    have C3 := zH hsz
    have hl2 : (J ++ s.data.toList).length = J.length + s.size := by rw [lA, size_listS]
    have C4 := zH (show (J ++ s.data.toList).length + x.size ≤ maxLen by unfold maxLen; omega)
    have C5 := zH (show (J ++ s.data.toList).length + x.size ≤ 140737488355328 by omega)
    have HK := zH hk0
    have HC := zH (fun (W : World) (hW : Below w.heap.size w W) => (hW.cell (p := a.add k) (by rw [block_add]; exact hal)).trans hc0)
    clear hsz hc hc0 hmem htake hal hx hl2 hk0
    go_wp2_with (first
     | (at_builtin; refine Lib.wpList_append_own_string _ rfl (.tmp 16) (.tmp 17) 22 9 rfl w.heap.size 5 i0 Tryz.underlying22 Tryz.underlying9 HI.out.1 HI.out.2.1 HI.out.2.2.1 HI.out.2.2.2 u5 _ _ rfl HO.out s rfl C1.out C2.out C3.out ?_; intro v1 w1 ho1 hg1 _; have HO1 := zH (own_moreB ho1); have HB1 := zH (app_belowB HB.out HO.out hg1); have hc1 := HC.out _ HB1.out; clear ho1 hg1)
     | (at_builtin; refine Lib.wpList_append_own_string _ rfl (.tmp 19) (.tmp 23) 22 9 rfl w.heap.size 5 i0 Tryz.underlying22 Tryz.underlying9 HI.out.1 HI.out.2.1 HI.out.2.2.1 HI.out.2.2.2 v1 _ _ rfl HO1.out x rfl C4.out C5.out HB1.out.size ?_; intro v2 w2 ho2 hg2 _; have HO2 := zH (own_moreB ho2); have HB2 := zH (app_belowB HB1.out HO1.out hg2); clear ho2 hg2))
    go_roundw
    case rel => exact ⟨k + 1, _, by omega, by go_num, HJ1, hJ1, HO2, HB2⟩
    case measure => simp [intOf]; omega
  have hk' : k = n := by omega
  have HE := zH (show J = Lib.join (listsS xs) s.data.toList by rw [HJ.out, List.take_of_length_le (by rw [← HN.out]; omega)])
  have hcv := conv_row HO.out
  go_wp2
  go_ret
  exact ⟨by rw [← HE.out]; rfl, HB.out⟩
end Go.Proofs.YtiaknfnhmoinpaaGreat
