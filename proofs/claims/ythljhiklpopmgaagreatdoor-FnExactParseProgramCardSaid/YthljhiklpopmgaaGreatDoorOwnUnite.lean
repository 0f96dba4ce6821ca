/- A part of the proof of the seat's statement: OwnUnite. Condition: as each says. -/
import Derived.Test.YthljhiklpopmgaaGreatDoorOwnExpr
import Derived.Test.YthljhiklpopmgaaGreatDoorOwnRuText
import Derived.Test.YthljhiklpopmgaaGreatDoorSpecDistinct
import Derived.Laws.EntriesVeiled
import Derived.Test.YthljhiklpopmgaaGreatDoorPlaceKey
import Derived.Deep.LoopGhost
import Derived.Deep.Cut
import Derived.Test.YthljhiklpopmgaaGreatDoorSpecNames
import Derived.Test.YthljhiklpopmgaaGreatDoorOwnsL
import Derived.Deep.QuietTactic
import Derived.BigQuiet
set_option maxHeartbeats 8000000
namespace Go.Proofs.YthljhiklpopmgaaGreatDoor
open Go Go.RowKit
def P0 (w : World) (s : ByteArray) : World :=
 ((((((w.alloc (.cells #[.string s] 9)).alloc (.cells #[.int .i64 0] 3)).alloc (.cells #[.int .i64 0] 3)).alloc
  (.cells #[.func (.func 100) #[] #[ptr (w.heap.size + 1), ptr w.heap.size]] 147)).alloc
  (.cells #[.func (.func 101) #[] #[ptr w.heap.size, ptr (w.heap.size + 1)]] 148)).alloc
  (.cells #[.func (.func 104) #[] #[ptr (w.heap.size + 2), ptr (w.heap.size + 4), ptr (w.heap.size + 3), ptr (w.heap.size + 6)]] 118)).alloc
  (.cells #[.func (.func 103) #[] #[ptr (w.heap.size + 3), ptr (w.heap.size + 5)]] 149)
theorem p0_env (w : World) (s : ByteArray) : Env (P0 w s) w.heap.size s 0 0 ∧ Below w.heap.size w (P0 w s) := by
 unfold P0
 refine ⟨⟨?_, ?_, ?_, ?_, ?_, ?_, ?_⟩, ?_⟩
 · exact ((((((Boxed.new w _ _).alloc _).alloc _).alloc _).alloc _).alloc _).alloc _
 · have h := Boxed.new (w.alloc (.cells #[.string s] 9)) 3 (.int .i64 0)
   simp only [World.size_alloc] at h
   exact ((((h.alloc _).alloc _).alloc _).alloc _).alloc _
 · have h := Boxed.new ((w.alloc (.cells #[.string s] 9)).alloc (.cells #[.int .i64 0] 3)) 3 (.int .i64 0)
   simp only [World.size_alloc] at h
   exact (((h.alloc _).alloc _).alloc _).alloc _
 · have h := Boxed.new (((w.alloc (.cells #[.string s] 9)).alloc (.cells #[.int .i64 0] 3)).alloc (.cells #[.int .i64 0] 3)) 147 (.func (.func 100) #[] #[ptr (w.heap.size + 1), ptr w.heap.size])
   simp only [World.size_alloc] at h
   exact ((h.alloc _).alloc _).alloc _
 · have h := Boxed.new ((((w.alloc (.cells #[.string s] 9)).alloc (.cells #[.int .i64 0] 3)).alloc (.cells #[.int .i64 0] 3)).alloc
    (.cells #[.func (.func 100) #[] #[ptr (w.heap.size + 1), ptr w.heap.size]] 147)) 148 (.func (.func 101) #[] #[ptr w.heap.size, ptr (w.heap.size + 1)])
   simp only [World.size_alloc] at h
   exact (h.alloc _).alloc _
 · have h := Boxed.new (((((w.alloc (.cells #[.string s] 9)).alloc (.cells #[.int .i64 0] 3)).alloc (.cells #[.int .i64 0] 3)).alloc
    (.cells #[.func (.func 100) #[] #[ptr (w.heap.size + 1), ptr w.heap.size]] 147)).alloc
    (.cells #[.func (.func 101) #[] #[ptr w.heap.size, ptr (w.heap.size + 1)]] 148)) 118 (.func (.func 104) #[] #[ptr (w.heap.size + 2), ptr (w.heap.size + 4), ptr (w.heap.size + 3), ptr (w.heap.size + 6)])
   simp only [World.size_alloc] at h
   exact h.alloc _
 · have h := Boxed.new ((((((w.alloc (.cells #[.string s] 9)).alloc (.cells #[.int .i64 0] 3)).alloc (.cells #[.int .i64 0] 3)).alloc
    (.cells #[.func (.func 100) #[] #[ptr (w.heap.size + 1), ptr w.heap.size]] 147)).alloc
    (.cells #[.func (.func 101) #[] #[ptr w.heap.size, ptr (w.heap.size + 1)]] 148)).alloc
    (.cells #[.func (.func 104) #[] #[ptr (w.heap.size + 2), ptr (w.heap.size + 4), ptr (w.heap.size + 3), ptr (w.heap.size + 6)]] 118)) 149 (.func (.func 103) #[] #[ptr (w.heap.size + 3), ptr (w.heap.size + 5)])
   simp only [World.size_alloc] at h
   exact h
 exact (((((((Below.refl w.heap.size w).alloc (Nat.le_refl _) _).alloc (by simp) _).alloc (by simp; omega) _).alloc (by simp; omega) _).alloc (by simp; omega) _).alloc (by simp; omega) _).alloc (by simp; omega) _
def MadeO (s : ByteArray) (w : World) (r : Ending) (w2 : World) : Prop :=
 r = .returned (.func (.func 104) #[] #[ptr (w.heap.size + 2), ptr (w.heap.size + 4), ptr (w.heap.size + 3), ptr (w.heap.size + 6)]) ∧ Env w2 w.heap.size s 0 0 ∧ Below w.heap.size w w2
theorem own_made (s : ByteArray) (w : World) : Calls Tryz.prog 75 #[.string s] w (MadeO s w) := by
 have HP := zH (p0_env w s)
 go_enter Tryz.func75, Tryz.ntmps75
 go_wp2_with fail
 go_ret
 exact ⟨rfl, HP.out⟩
theorem fits_none {s : ByteArray} {e : Ex} {a2 n2 : Nat} {ok : Bool} (hg : Fits s 0 0 e a2 n2 ok) (h : ok = false ∨ exFmt e ≠ s) : exParse s = none := by
 cases hp : exParse s with
 | none => rfl
 | some e0 =>
  exfalso
  obtain ⟨h1, h2⟩ := parse_some hp
  have h3 : rest s 0 = exText e0 ++ [] := by
   have hf : exFmt e0 = exStr e0 := by unfold exFmt; rw [h1]; rfl
   rw [← h2, hf]
   unfold rest exStr
   simp
  obtain ⟨g1, g2, -, -⟩ := hg e0 [] (valid_all h1).1 h3 (Or.inl rfl) (by have := (valid_all h1).2; omega)
  rcases h with h | h
  · rw [g1] at h; cases h
  rw [g2] at h; exact h h2
theorem fits_some {s : ByteArray} {e : Ex} {a2 : Nat} (h0 : 0 < a2) (h1 : a2 ≤ s.size) (h : exFmt e = s) : exParse s = some e := by
 have hv : exValid e = true := by
  cases hv : exValid e with
  | true => rfl
  | false =>
   have hf : exFmt e = ⟨#[]⟩ := by unfold exFmt; rw [hv]; rfl
   rw [h] at hf
   rw [hf] at h1
   have : (⟨#[]⟩ : ByteArray).size = 0 := rfl
   omega
 rw [← h]
 exact parse_text hv
theorem own_parse (s : ByteArray) (w : World) (hs : s.size ≤ 1048576) :
 Calls Tryz.prog 47 #[.string s] w (ParsePost s w) := by
 obtain ⟨W1, hW1⟩ : ∃ W1, W1 = w.alloc (.cells #[.int .i64 0, .string ⟨#[]⟩, .slice none 0 0] 34) := ⟨_, rfl⟩
 have hsz1 : W1.heap.size = w.heap.size + 1 := by rw [hW1]; simp
 have hb1 : Bx W1 w.heap.size 0 ⟨#[]⟩ (.slice none 0 0) := by rw [hW1]; exact heap_alloc_new _ _
 have hl1 : Below w.heap.size w W1 := by rw [hW1]; exact (Below.refl _ _).alloc (Nat.le_refl _) _
 have HCALL := zH (fun (W : World) (h : Env W W1.heap.size s 0 0) => expr_all (W1.heap.size) s hs 80 0 0 W h (Nat.zero_le _) (by omega) (by omega))
 have HM := zH (own_made s W1)
 have HB1 := zH hb1
 have HL1 := zH hl1
 have HW1 := zH hW1
 have HSZ := zH hsz1
 clear hb1 hl1 hW1 hsz1
 go_enter Tryz.func47, Tryz.ntmps47
 go_wp2_with fail
 go_at_call 75
 rw [← HW1.out]
 refine HM.out.mono ?_
 rintro r wp ⟨rfl, hep, hlp⟩
 have HB1p := zH (HB1.out.keep (Fr.of_below (S := []) hlp) (by simp))
 have HL1p := zH (HL1.out.trans (hlp.mono HL1.out.size))
 have HPS := zH (show W1.heap.size + 6 < wp.heap.size from hep.lt)
 have HEP := zH hep
 clear hep hlp
 go_wp2_with fail
 go_at_call 104
 refine (HCALL.out wp HEP.out).mono ?_
 have hsz1 := HSZ.out
 rintro r w2 ⟨v2, e, b1, a2, n2, ok, rfl, his, hm2, hf2, -, -, hhi, hcnt, hgot⟩
 obtain ⟨u2, rfl, hns, hu2⟩ := id his
 obtain ⟨A2, c2, rfl, -⟩ := id hu2
 have HL2 := zH (show Below w.heap.size w w2 from HL1p.out.trans (hf2.below (by simp; omega) (by have := HPS.out; omega)))
 have hb2 := HB1p.out.keep hf2 (by simp; omega)
 obtain ⟨e0, e1, e2, hBw⟩ := hb2.cells
 have g0 := hb2.thaw 0
 have g1 := hb2.thaw 1
 have g2 := hb2.thaw 2
 have HB2 := zH hb2
 have HI2 := zH (And.intro his hm2)
 have HG := zH hgot
 have HH := zH (And.intro hhi hcnt)
 have hss : w.heap.size < w2.heap.size := hBw
 have hC : w.heap.size < wp.heap.size := by have := HPS.out; omega
 generalize wp.heap.size = C at *
 clear hb2 his hm2 hf2 hgot hu2 HCALL HB1 HL1 HB1p HL1p HEP hcnt hhi HM
 obtain ⟨q, hq⟩ : ∃ q, q = e.args.length := ⟨_, rfl⟩
 obtain ⟨K, hK⟩ : ∃ K, K = e.kind := ⟨_, rfl⟩
 obtain ⟨S, hS⟩ : ∃ S, S = e.name := ⟨_, rfl⟩
 rw [← hq, ← hK, ← hS] at HI2 ⊢
 have HQ := zH (And.intro hq (And.intro hK hS))
 clear hq hK hS
 have HL3 := zH (HL2.out.alloc (by omega) (.cells #[.int .i64 K, .string S, .slice A2 q c2] 34))
 have HB3 := zH (HB2.out.keep (Fr.alloc (S := []) w2 (.cells #[.int .i64 K, .string S, .slice A2 q c2] 34)) (by simp))
 have HE3 := zH (show Bx (w2.alloc (.cells #[.int .i64 K, .string S, .slice A2 q c2] 34)) w2.heap.size K S (.slice A2 q c2) from heap_alloc_new _ _)
 cases ok
 · have HNO := zH (fits_none HG.out (Or.inl rfl))
   go_wp2_with fail
   obtain ⟨W2, hW2, hpost, hbx⟩ := zero_end2 (o := .cells #[.int .i64 K, .string S, .slice A2 q c2] 34) HNO.out HL2.out HB2.out rfl
   rw [← hW2]
   obtain ⟨y0, y1, y2, -⟩ := hbx.cells
   refine bodyPost_ret (v := .tuple #[.agg #[.int .i64 0, .string ⟨#[]⟩, .slice none 0 0], .bool false]) (by simp [results, Tryz.results47, go_sem, y0, y1, y2]) rfl ?_
   exact hpost
 have HFM := zH (fun (W : World) (v : Value) (bs : List Nat) (h : ExIs W v e bs) => own_format own_join e v bs W h (by have := HH.out.2 rfl; omega))
 generalize hfm : exFmt e = t at HFM
 by_cases ht : t = s
 · have hte := beq_yes ht
   have HYES := zH (fits_some (HH.out.2 rfl).1 HH.out.1 (hfm.trans ht))
   clear ht hfm
   go_wp2_with (go_at_call 76; refine (HFM.out _ _ b1 (HI2.out.1.below ((Below.refl _ _).alloc (Nat.le_refl _) _))).mono ?_; rintro r w4 ⟨rfl, hb4⟩; have hb5 := HB3.out.keep (Fr.of_below (S := []) hb4) (by simp); have HL4 := zH (HL3.out.trans (hb4.mono HL3.out.size)); have HV4 := zH (((Below.refl w2.heap.size w2).alloc (Nat.le_refl _) _).trans (hb4.mono (by simp))); have hb6 := HE3.out.keep (Fr.of_below (S := []) hb4) (by simp); obtain ⟨p0, p1, p2, p3⟩ := hb6.cells; obtain ⟨e0, e1, e2, hBw4⟩ := hb5.cells; have g0 := hb5.thaw 0; have g1 := hb5.thaw 1; have g2 := hb5.thaw 2; have HB5 := zH hb5; clear hb4 hb5 hb6)
   obtain ⟨W2, hW2, hpost, hbx⟩ := good_end (C := C) HYES.out HL4.out HB5.out HV4.out hC HI2.out rfl
   rw [← hW2]
   obtain ⟨y0, y1, y2, -⟩ := hbx.cells
   refine bodyPost_ret (v := .tuple #[.agg #[.int .i64 K, .string S, .slice A2 q c2], .bool true]) (by simp [results, Tryz.results47, go_sem, y0, y1, y2]) rfl ?_
   exact hpost
 have hte := beq_no ht
 have HNO := zH (fits_none HG.out (Or.inr (by rw [hfm]; exact ht)))
 clear ht hfm
 go_wp2_with (go_at_call 76; refine (HFM.out _ _ b1 (HI2.out.1.below ((Below.refl _ _).alloc (Nat.le_refl _) _))).mono ?_; rintro r w4 ⟨rfl, hb4⟩; have hb5 := HB3.out.keep (Fr.of_below (S := []) hb4) (by simp); have HL4 := zH (HL3.out.trans (hb4.mono HL3.out.size)); obtain ⟨e0, e1, e2, hBw4⟩ := hb5.cells; have g0 := hb5.thaw 0; have g1 := hb5.thaw 1; have g2 := hb5.thaw 2; have HB5 := zH hb5; clear hb4 hb5)
 obtain ⟨W2, hW2, hpost, hbx⟩ := zero_end HNO.out HL4.out HB5.out rfl
 rw [← hW2]
 obtain ⟨y0, y1, y2, -⟩ := hbx.cells
 refine bodyPost_ret (v := .tuple #[.agg #[.int .i64 0, .string ⟨#[]⟩, .slice none 0 0], .bool false]) (by simp [results, Tryz.results47, go_sem, y0, y1, y2]) rfl ?_
 exact hpost
def SetPost (xs : List ByteArray) (w : World) (e : Ending) (w' : World) : Prop := e = .returned (.map (some w.heap.size)) ∧ SetIs w' w.heap.size xs.length xs ∧ Below w.heap.size w w'
theorem own_set (A : Option Addr) (xs : List ByteArray) (cap : Nat) (w : World) (hs : Strs w A xs) (hn : xs.length ≤ 1099511627776) (hx : ∀ x ∈ xs, x.size ≤ 9223372036854775807) :
 Calls Tryz.prog 133 #[.slice A xs.length cap] w (SetPost xs w) := by
 obtain ⟨n, hnn⟩ : ∃ n, n = xs.length := ⟨_, rfl⟩
 have HN := zH hnn
 have HS := zH hs
 have HX := zH hx
 rw [← hnn]
 rw [← hnn] at hn
 clear hs hnn hx
 have hmm := run_makeHint
 go_enter Tryz.func133, Tryz.ntmps133
 go_wp2
 have H0 := zH (set_made w)
 have HB0 := zH ((Below.refl w.heap.size w).alloc (Nat.le_refl _) (.map #[] 0))
 clear hmm
 go_loopw [11] (fun i wr => ∃ k : Nat, k ≤ n ∧ i = .int .i64 (k : Int) ∧ Hid (SetIs wr w.heap.size k (xs.take k)) ∧ Hid (Below w.heap.size w wr)) (fun i _ => n - (intOf i).toNat)
 case atStart => exact ⟨0, Nat.zero_le _, rfl, H0, HB0⟩
 case round =>
  obtain ⟨k, hk, rfl, HT, HB⟩ := hrel
  by_cases hlt : k < n
  · obtain ⟨a, x, rfl, hc0, hmem, -, htake, hab⟩ := HS.out.get k (by rw [← HN.out]; exact hlt)
    have hc : wr.cell? (a.add k) = some (.string x) := (HB.out.cell (p := a.add k) (by rw [block_add]; exact hab)).trans hc0
    have HXS := zH (show x.size ≤ maxLen from HX.out x hmem)
    have HK := zH (show k < maxLen by unfold maxLen; omega)
    have HTK := zH htake
    clear hc0 hmem htake
    go_wp2_with (at_mapUpdate; refine add_set _ rfl _ _ _ rfl w.heap.size k _ rfl HT.out HK.out x rfl rfl HXS.out ?_; intro w1 hs1 hg1; have HT1 := zH hs1; have HG1 := zH hg1; clear hs1 hg1)
    go_roundw
    case rel => exact ⟨k + 1, by omega, by go_num, zH (by rw [HTK.out]; exact HT1.out), zH (HB.out.grown HG1.out HB.out.size (fun j hj => by cases hj; exact Nat.le_refl _))⟩
    case measure => simp [intOf]; omega
  have HE := zH (show xs.take k = xs from List.take_of_length_le (by rw [← HN.out]; omega))
  have HK := zH (show k = xs.length by rw [← HN.out]; omega)
  go_wp2
  go_ret
  refine ⟨rfl, ?_, HB.out⟩
  have h := HT.out
  rw [HE.out, HK.out] at h
  exact h
def DistEnd (xs : List ByteArray) (w : World) (e : Ending) (w' : World) : Prop := e = .returned (.bool (distinct xs)) ∧ Below w.heap.size w w'
theorem own_distinct (A : Option Addr) (xs : List ByteArray) (cap : Nat) (w : World) (hs : Strs w A xs) (hn : xs.length ≤ 1099511627776) (hx : ∀ x ∈ xs, x.size ≤ 9223372036854775807) :
 Calls Tryz.prog 110 #[.slice A xs.length cap] w (DistEnd xs w) := by
 have HF := zH (own_set A xs cap w hs hn hx)
 have HD := zH (set_size_distinct xs)
 clear hs hx
 obtain ⟨n, hnn⟩ : ∃ n, n = xs.length := ⟨_, rfl⟩
 have HN := zH hnn
 rw [← hnn]
 rw [← hnn] at hn
 have HD2 := zH (show (((uniteFrom [] xs).length : Int) == (n : Int)) = distinct xs by rw [hnn]; exact HD.out)
 have HF2 := zH (show Calls Tryz.prog 133 #[.slice A n cap] w (SetPost xs w) by rw [hnn]; exact HF.out)
 clear hnn HD HF
 unfold DistEnd
 generalize distinct xs = c at *
 go_enter Tryz.func110, Tryz.ntmps110
 go_wp2_with (first | (go_at_call 133; refine HF2.out.mono ?_; rintro e w1 ⟨rfl, hs1, hb1⟩; have HS1 := zH hs1; have HB1 := zH hb1; clear hs1 hb1) | (at_len; refine len_set _ rfl _ rfl w.heap.size _ xs rfl HS1.out ?_))
 go_ret
 exact ⟨by rw [← HD2.out]; rfl, HB1.out⟩
theorem beq_yes2 {x s : ByteArray} (h : x = s) : (s.toList == x.toList) = true := by rw [h]; simp
theorem beq_no2 {x s : ByteArray} (h : ¬ x = s) : (s.toList == x.toList) = false := by
 cases hb : (s.toList == x.toList) with
 | false => rfl
 | true =>
  rw [beq_iff_eq, ByteArray.toList_eq, ByteArray.toList_eq] at hb
  exact absurd (bytes_eq hb.symm) h
theorem lib_index (A : Option Addr) (xs : List ByteArray) (cap : Nat) (s : ByteArray) (w : World) (hs : Strs w A xs) (hn : xs.length ≤ 140737488355328) :
 Calls Tryz.prog 153 #[.slice A xs.length cap, .string s] w fun e w' => e = .returned (.int .i64 (idx xs s)) ∧ w = w' := by
 obtain ⟨n, hnn⟩ : ∃ n, n = xs.length := ⟨_, rfl⟩
 have HN := zH hnn
 have HS := zH hs
 rw [← hnn]
 rw [← hnn] at hn
 clear hs hnn
 go_enter Tryz.func153, Tryz.ntmps153
 go_wp2
 go_loop [8] (fun i => ∃ k : Nat, k ≤ n ∧ i = .int .i64 (k : Int) ∧ Hid (idx xs s = idxFrom s k (xs.drop k))) (fun i => n - (intOf i).toNat)
 case atStart => exact ⟨0, Nat.zero_le _, rfl, zH rfl⟩
 case round =>
  obtain ⟨k, hk, rfl, HK⟩ := hrel
  by_cases hlt : k < n
  · obtain ⟨a, x, rfl, hc, -, hx, -, -⟩ := HS.out.get k (by rw [← HN.out]; exact hlt)
    have HD := zH (idx_here xs s k x hx)
    clear hx
    by_cases e : x = s
    · have hb := beq_yes2 e
      have HE := zH (HK.out.trans (HD.out.1 e))
      clear e
      go_wp2
      go_ret
      exact ⟨by rw [HE.out]; rfl, rfl⟩
    have hb := beq_no2 e
    have HE := zH (HK.out.trans (HD.out.2 e))
    clear e
    go_wp2
    go_round
    case rel => exact ⟨k + 1, by omega, by go_num, HE⟩
    case measure => simp [intOf]; omega
  have HE := zH (show idxFrom s k (xs.drop k) = -1 by rw [List.drop_eq_nil_of_le (by rw [← HN.out]; omega)]; rfl)
  go_wp2
  go_ret
  exact ⟨by rw [HK.out, HE.out]; rfl, rfl⟩
theorem own_index (A : Option Addr) (xs : List ByteArray) (cap : Nat) (s : ByteArray) (w : World) (hs : Strs w A xs) (hn : xs.length ≤ 140737488355328) :
 Calls Tryz.prog 139 #[.slice A xs.length cap, .string s] w fun e w' => e = .returned (.int .i64 (idx xs s)) ∧ Below w.heap.size w w' := by
 have HF := zH (lib_index A xs cap s w hs hn)
 clear hs hn
 generalize idx xs s = r at *
 go_enter Tryz.func139, Tryz.ntmps139
 go_wp2_with fail
 go_at_call 153
 refine HF.out.mono ?_
 rintro e w' ⟨rfl, rfl⟩
 go_wp2_with fail
 go_ret
 exact ⟨rfl, Below.refl _ _⟩
theorem unite_hit {xs out : List ByteArray} {k : Nat} {x : ByteArray} (h : xs[k]? = some x) (hi : 0 ≤ idx out x) : uniteFrom out (xs.drop k) = uniteFrom out (xs.drop (k + 1)) := by
 have hk : k < xs.length := (List.getElem?_eq_some_iff.1 h).1
 have e : xs[k] = x := (List.getElem?_eq_some_iff.1 h).2
 rw [List.drop_eq_getElem_cons hk, e, uniteFrom, if_pos hi]
theorem unite_miss {xs out : List ByteArray} {k : Nat} {x : ByteArray} (h : xs[k]? = some x) (hi : ¬ 0 ≤ idx out x) : uniteFrom out (xs.drop k) = uniteFrom (out ++ [x]) (xs.drop (k + 1)) := by
 have hk : k < xs.length := (List.getElem?_eq_some_iff.1 h).1
 have e : xs[k] = x := (List.getElem?_eq_some_iff.1 h).2
 rw [List.drop_eq_getElem_cons hk, e, uniteFrom, if_neg hi]
theorem unite_end {xs out : List ByteArray} {k : Nat} (h : xs.length ≤ k) : uniteFrom out (xs.drop k) = out := by
 rw [List.drop_eq_nil_of_le h, uniteFrom]
def UnitePost (a b : List ByteArray) (w : World) (e : Ending) (w' : World) : Prop :=
 ∃ v, e = .returned v ∧ OwnsL w.heap.size w' v (unite a b) ∧ Below w.heap.size w w'
structure Uni (w wr : World) (v : Value) (out : List ByteArray) (S0 S1 : Value) : Prop where
 own : wr.ownsRow (w.heap.size + 2) 9 1 v out.length (out.map Value.string)
 set : SetIs wr w.heap.size out.length out
 two : wr.heap[w.heap.size + 1]? = some (.cells #[S0, S1] 30 (0, 0))
 low : Below w.heap.size w wr
 size : w.heap.size + 2 ≤ wr.heap.size
theorem uni_start (w : World) (S0 S1 : Value) : Uni w ((w.alloc (.map #[] 0)).alloc (.cells #[S0, S1] 30)) (.slice none 0 0) [] S0 S1 := by
 refine ⟨World.ownsRow_nil _ _ _ _, (set_made w).alloc _, ?_, ((Below.refl _ _).alloc (Nat.le_refl _) _).alloc (by simp) _, by simp⟩
 have e : (w.alloc (.map #[] 0)).heap.size = w.heap.size + 1 := by simp
 rw [← e]; exact heap_alloc_new _ _
theorem Uni.cell0 {w wr : World} {v : Value} {out : List ByteArray} {S0 S1 : Value} (h : Uni w wr v out S0 S1) : wr.cell? ⟨w.heap.size + 1, 0, none⟩ = some S0 := by
 simp [World.cell?, h.two]
theorem Uni.cell1 {w wr : World} {v : Value} {out : List ByteArray} {S0 S1 : Value} (h : Uni w wr v out S0 S1) : wr.cell? ⟨w.heap.size + 1, 1, none⟩ = some S1 := by
 simp [World.cell?, h.two]
theorem own_ne {w : World} {B e s n b : Nat} {v : Value} {l : List Value} (h : w.ownsRow B e s v n l) (hb : b < B) : some b ≠ v.ownBlock := fun e1 => by
 have := (h.lt b e1.symm).1
 omega
theorem ne_own {w : World} {B e s n b : Nat} {v : Value} {l : List Value} (h : w.ownsRow B e s v n l) (hb : b < B) : v.ownBlock = none ∨ v.ownBlock ≠ some b := Or.inr (own_ne h hb).symm
theorem Uni.row {w wr w1 : World} {v : Value} {out : List ByteArray} {S0 S1 : Value} (h : Uni w wr v out S0 S1) (hg : wr.grownBy w1 (some w.heap.size)) (o : Obj) :
 (w1.alloc o).ownsRow (w.heap.size + 2) 9 1 v out.length (out.map Value.string) := (h.own.kept hg (ne_own h.own (by omega))).alloc o
theorem Uni.step {w wr w1 w2 : World} {v v2 : Value} {out : List ByteArray} {S0 S1 : Value} (h : Uni w wr v out S0 S1) (x : ByteArray) (hs : SetIs w1 w.heap.size (out.length + 1) (out ++ [x])) (hg : wr.grownBy w1 (some w.heap.size))
 (ho : w2.ownsRow (w.heap.size + 2) 9 1 v2 (out.length + 1) (out.map Value.string ++ [Value.string x])) (hg2 : (w1.alloc (.cells #[.string x] 9)).grownBy w2 v.ownBlock) : Uni w w2 v2 (out ++ [x]) S0 S1 := by
 have hr := h.row hg (.cells #[.string x] 9)
 have z1 := hg.size
 have z2 := hg2.size
 have z := h.size
 simp at z2
 have ha := World.grownBy_alloc w1 (.cells #[.string x] 9) none
 refine ⟨?_, ?_, ?_, ?_, by omega⟩
 · rw [List.length_append, List.map_append]; exact ho
 · have := (hs.alloc (.cells #[.string x] 9)).kept hg2 (own_ne hr (by omega))
   rw [List.length_append]; exact this
 · rw [hg2.block _ (by simp; omega) (own_ne hr (by omega)), ha.block _ (by omega) (by simp), hg.block _ (by omega) (by simp)]
   exact h.two
 exact ((h.low.grown hg h.low.size (fun j hj => by cases hj; exact Nat.le_refl _)).alloc (by omega) _).grown hg2 (by simp; omega) (fun j hj => by have := (hr.lt j hj).1; omega)
theorem Uni.read {w wr : World} {v : Value} {out : List ByteArray} {S0 S1 : Value} (h : Uni w wr v out S0 S1) : ∃ A cap, v = .slice A out.length cap := by
 obtain ⟨A, c, e, -⟩ := OwnsL.shape (show OwnsL (w.heap.size + 2) wr v out from h.own)
 exact ⟨A, c, e⟩
theorem own_down {w : World} {B C : Nat} {v : Value} {out : List ByteArray} (h : OwnsL B w v out) (hC : C ≤ B) : OwnsL C w v out := by
 refine ⟨h.1, ?_⟩
 rcases h.2 with h2 | ⟨g, cap, cur, e, hb, r⟩
 · exact Or.inl h2
 exact Or.inr ⟨g, cap, cur, e, Nat.le_trans hC hb, r⟩
def restU (xs ys out : List ByteArray) : Nat → List ByteArray
 | 0 => uniteFrom (uniteFrom out xs) ys
 | 1 => uniteFrom out ys
 | _ => out
structure CurU (w wr : World) (A : Option Addr) (l : List ByteArray) (cap m : Nat) (xs ys out : List ByteArray) : Prop where
 cell : wr.cell? ⟨w.heap.size + 1, m, none⟩ = some (.slice A l.length cap)
 strs : Strs w A l
 len : l.length ≤ 1099511627776
 sizes : ∀ x ∈ l, x.size ≤ 9223372036854775807
 rest : restU xs ys out m = restU xs ys (uniteFrom out l) (m + 1)
theorem bound0 (q : Nat) : ([] : List ByteArray).length ≤ 1099511627776 * q := Nat.zero_le _
theorem own_unite (A B : Option Addr) (xs ys : List ByteArray) (cap cap2 : Nat) (w : World) (hs : Strs w A xs) (hs2 : Strs w B ys) (hn : xs.length ≤ 1099511627776) (hm : ys.length ≤ 1099511627776) (hx : ∀ x ∈ xs, x.size ≤ 9223372036854775807) (hy : ∀ x ∈ ys, x.size ≤ 9223372036854775807) :
 Calls Tryz.prog 152 #[.slice A xs.length cap, .slice B ys.length cap2] w (UnitePost xs ys w) := by
 obtain ⟨i0, hi, hz0, hz1, hz2⟩ := info_parts Tryz.info9u
 have HI := zH (And.intro hi (And.intro hz0 (And.intro hz1 hz2)))
 clear hi hz0 hz1 hz2
 have HCU := zH (fun (wr : World) (v : Value) (out : List ByteArray) (h : Uni w wr v out (.slice A xs.length cap) (.slice B ys.length cap2)) (m : Nat) (hm2 : m < 2) => show ∃ A' l c', CurU w wr A' l c' m xs ys out by
  rcases m with _ | _ | m
  · exact ⟨A, xs, cap, h.cell0, hs, hn, hx, rfl⟩
  · exact ⟨B, ys, cap2, h.cell1, hs2, hm, hy, rfl⟩
  omega)
 obtain ⟨n, hnn⟩ : ∃ n, n = xs.length := ⟨_, rfl⟩
 obtain ⟨m, hmm⟩ : ∃ m, m = ys.length := ⟨_, rfl⟩
 have H0 := uni_start w (.slice A xs.length cap) (.slice B ys.length cap2)
 rw [← hnn, ← hmm] at HCU
 rw [← hnn, ← hmm] at H0
 have H0 := zH H0
 rw [← hnn, ← hmm]
 rw [← hnn] at hn
 rw [← hmm] at hm
 clear hs hnn hs2 hmm hx hy
 have hmk := run_makeHint
 go_enter Tryz.func152, Tryz.ntmps152
 go_wp2
 clear hmk
 go_loopg [5, 21] 2 (fun g v j wr => ∃ (q : Nat) (out : List ByteArray), q ≤ 2 ∧ g = 2 - q ∧ j = .int .i64 (q : Int) ∧ Hid (out.length ≤ 1099511627776 * q) ∧ Hid (Uni w wr v out (.slice A n cap) (.slice B m cap2)) ∧ Hid (unite xs ys = restU xs ys out q))
 case atStart => exact ⟨0, [], by omega, rfl, rfl, zH (bound0 0), H0, zH rfl⟩
 case round =>
  obtain ⟨q, out, hq, rfl, rfl, HOL, HU, HR⟩ := hrel
  clear H0
  by_cases hlt : q < 2
  · obtain ⟨A', l, c', hcur⟩ := HCU.out wr _ _ HU.out q hlt
    have hc := hcur.cell
    obtain ⟨L, hL⟩ : ∃ L, L = l.length := ⟨_, rfl⟩
    rw [← hL] at hc
    have HL := zH hL
    have hLn : L ≤ 1099511627776 := by rw [hL]; exact hcur.len
    have HS := zH hcur.strs
    have HX := zH hcur.sizes
    have HR2 := zH (HR.out.trans hcur.rest)
    clear hcur hL
    obtain ⟨A2, c2, hv⟩ := HU.out.read
    subst hv
    have hqd : decide ((q : Int) < 2) = true := by simp; omega
    go_wp2
    go_loopg [5, 27] L (fun g v i wi => ∃ (k : Nat) (o : List ByteArray), k ≤ L ∧ g = L - k ∧ i = .int .i64 (k : Int) ∧ Hid (o.length ≤ 1099511627776 * q + k) ∧ Hid (Uni w wi v o (.slice A n cap) (.slice B m cap2)) ∧ Hid (uniteFrom out l = uniteFrom o (l.drop k)))
    case atStart => exact ⟨0, out, Nat.zero_le _, rfl, rfl, HOL, HU, zH rfl⟩
    case round =>
     clear HU hc HOL
     obtain ⟨k, o, hk, rfl, rfl, HOL, HU, HK⟩ := hrel
     obtain ⟨A3, c3, hv⟩ := HU.out.read
     subst hv
     by_cases hlt2 : k < L
     · obtain ⟨a, x, rfl, hc0, hmem, hx, -, hab⟩ := HS.out.get k (by rw [← HL.out]; exact hlt2)
       have hc := (HU.out.low.cell (p := a.add k) (by rw [block_add]; exact hab)).trans hc0
       have HX1 := zH (show x.size ≤ maxLen from HX.out x hmem)
       have HXX := zH hx
       clear hx hc0 hmem hab
       by_cases hr : 0 ≤ idx o x
       · have HIN := zH (show inL o x = true from decide_eq_true hr)
         have HK2 := zH (HK.out.trans (unite_hit HXX.out hr))
         clear hr
         go_wp2_with (at_lookup; refine look_set _ rfl _ _ rfl w.heap.size o.length o rfl HU.out.set x rfl HX1.out true HIN.out ?_)
         go_roundg (L - (k + 1))
         case measure => omega
         case rel => exact ⟨k + 1, o, by omega, rfl, by go_num, zH (by have := HOL.out; omega), HU, HK2⟩
       have HIN := zH (show inL o x = false from decide_eq_false hr)
       have HK2 := zH (HK.out.trans (unite_miss HXX.out hr))
       have C0 := zH (show o.length < maxLen by have := HOL.out; unfold maxLen; omega)
       have C1 := zH (show o.length + 1 ≤ maxLen by have := HOL.out; unfold maxLen; omega)
       have C2 := zH (show (o.length + 1) * 16 ≤ 140737488355328 by have := HOL.out; omega)
       have HDL := zH (show (o ++ [x]).length ≤ 1099511627776 * q + (k + 1) by have := HOL.out; rw [List.length_append]; simp; omega)
       have H1C := zH (one_new (x := x))
       clear hr
       go_wp2_with (first
        | (at_lookup; refine look_set _ rfl _ _ rfl w.heap.size o.length o rfl HU.out.set x rfl HX1.out false HIN.out ?_)
        | (at_mapUpdate; refine add_set _ rfl _ _ _ rfl w.heap.size o.length o rfl HU.out.set C0.out x rfl rfl HX1.out ?_; intro w1 hs1 hg1; have HS1 := zH hs1; have HG1 := zH hg1; have HO2 := zH (HU.out.row hg1 (.cells #[.string x] 9)); have HNW := zH (cell_new (W := w1) (x := x)); have C4 := zH (show w.heap.size + 2 ≤ (w1.alloc (.cells #[.string x] 9)).heap.size by have h1 := HU.out.size; have h2 := hg1.size; simp; omega); clear hs1 hg1)
        | (at_builtin; (refine wpList_append_own _ rfl (.tmp 37) (.tmp 39) 30 rfl (w.heap.size + 2) 9 i0 (.string ⟨#[]⟩) 1 16 Tryz.underlying30 HI.out.1 HI.out.2.1 HI.out.2.2.1 HI.out.2.2.2 rfl (by decide) (.slice A3 o.length c3) _ _ rfl HO2.out ⟨w1.heap.size, 0, none⟩ 1 1 [.string x] rfl rfl HNW.out H1C.out C1.out C2.out C4.out ?_); intro v2 w2 ho2 hg2 _; have HU2 := zH (HU.out.step x HS1.out HG1.out ho2 hg2); clear ho2 hg2))
       go_roundg (L - (k + 1))
       case measure => omega
       case rel => exact ⟨k + 1, _, by omega, rfl, by go_num, HDL, HU2, HK2⟩
     have HE := zH (show uniteFrom out l = o from HK.out.trans (unite_end (by rw [← HL.out]; omega)))
     have HRX := zH (show unite xs ys = restU xs ys o (q + 1) by rw [← HE.out]; exact HR2.out)
     go_wp2
     go_roundg (2 - (q + 1))
     case measure => omega
     case rel => exact ⟨q + 1, o, by omega, rfl, by go_num, zH (by have := HOL.out; omega), HU, HRX⟩
  have HE := zH (show unite xs ys = out by
   have h := HR.out
   rw [show q = 2 by omega] at h
   exact h)
  go_wp2
  go_ret
  exact ⟨_, rfl, by rw [HE.out]; exact own_down HU.out.own (by omega), HU.out.low⟩
end Go.Proofs.YthljhiklpopmgaaGreatDoor
