/- The contract of the program's own ParseExpr. Condition: a text of at most 1048576 bytes. -/
import Derived.Test.YtliifdiajcahdaaOwnExpr
import Derived.Test.YtliifdiajcahdaaOwnJoin
import Derived.Laws.EntriesVeiled
namespace Go.Proofs.Ytliifdiajcahdaa
open Go Go.RowKit

/-- The world in which exprParser has made its variables. -/
def P0 (w : World) (s : ByteArray) : World :=
  ((((((w.alloc (.cells #[.string s] 9)).alloc (.cells #[.int .i64 0] 3)).alloc (.cells #[.int .i64 0] 3)).alloc
    (.cells #[.func (.func 72) #[] #[ptr (w.heap.size + 1), ptr w.heap.size]] 122)).alloc
    (.cells #[.func (.func 73) #[] #[ptr w.heap.size, ptr (w.heap.size + 1)]] 124)).alloc
    (.cells #[.func (.func 76) #[] #[ptr (w.heap.size + 2), ptr (w.heap.size + 4), ptr (w.heap.size + 3), ptr (w.heap.size + 6)]] 66)).alloc
    (.cells #[.func (.func 75) #[] #[ptr (w.heap.size + 3), ptr (w.heap.size + 5)]] 125)
theorem p0_env (w : World) (s : ByteArray) : Env (P0 w s) w.heap.size s 0 0 ∧ Below w.heap.size w (P0 w s) := by
  unfold P0
  refine ⟨⟨?_, ?_, ?_, ?_, ?_, ?_, ?_⟩, ?_⟩
  · exact ((((((Boxed.new w _ _).alloc _).alloc _).alloc _).alloc _).alloc _).alloc _
  · have h := Boxed.new (w.alloc (.cells #[.string s] 9)) 3 (.int .i64 0)
    simp only [World.size_alloc] at h
    exact ((((h.alloc _).alloc _).alloc _).alloc _).alloc _
  · have h := Boxed.new ((w.alloc (.cells #[.string s] 9)).alloc (.cells #[.int .i64 0] 3)) 3 (.int .i64 0)
    simp only [World.size_alloc] at h
    exact (((h.alloc _).alloc _).alloc _).alloc _
  · have h := Boxed.new (((w.alloc (.cells #[.string s] 9)).alloc (.cells #[.int .i64 0] 3)).alloc (.cells #[.int .i64 0] 3)) 122 (.func (.func 72) #[] #[ptr (w.heap.size + 1), ptr w.heap.size])
    simp only [World.size_alloc] at h
    exact ((h.alloc _).alloc _).alloc _
  · have h := Boxed.new ((((w.alloc (.cells #[.string s] 9)).alloc (.cells #[.int .i64 0] 3)).alloc (.cells #[.int .i64 0] 3)).alloc
      (.cells #[.func (.func 72) #[] #[ptr (w.heap.size + 1), ptr w.heap.size]] 122)) 124 (.func (.func 73) #[] #[ptr w.heap.size, ptr (w.heap.size + 1)])
    simp only [World.size_alloc] at h
    exact (h.alloc _).alloc _
  · have h := Boxed.new (((((w.alloc (.cells #[.string s] 9)).alloc (.cells #[.int .i64 0] 3)).alloc (.cells #[.int .i64 0] 3)).alloc
      (.cells #[.func (.func 72) #[] #[ptr (w.heap.size + 1), ptr w.heap.size]] 122)).alloc
      (.cells #[.func (.func 73) #[] #[ptr w.heap.size, ptr (w.heap.size + 1)]] 124)) 66 (.func (.func 76) #[] #[ptr (w.heap.size + 2), ptr (w.heap.size + 4), ptr (w.heap.size + 3), ptr (w.heap.size + 6)])
    simp only [World.size_alloc] at h
    exact h.alloc _
  · have h := Boxed.new ((((((w.alloc (.cells #[.string s] 9)).alloc (.cells #[.int .i64 0] 3)).alloc (.cells #[.int .i64 0] 3)).alloc
      (.cells #[.func (.func 72) #[] #[ptr (w.heap.size + 1), ptr w.heap.size]] 122)).alloc
      (.cells #[.func (.func 73) #[] #[ptr w.heap.size, ptr (w.heap.size + 1)]] 124)).alloc
      (.cells #[.func (.func 76) #[] #[ptr (w.heap.size + 2), ptr (w.heap.size + 4), ptr (w.heap.size + 3), ptr (w.heap.size + 6)]] 66)) 125 (.func (.func 75) #[] #[ptr (w.heap.size + 3), ptr (w.heap.size + 5)])
    simp only [World.size_alloc] at h
    exact h
  · exact (((((((Below.refl w.heap.size w).alloc (Nat.le_refl _) _).alloc (by simp) _).alloc (by simp; omega) _).alloc (by simp; omega) _).alloc (by simp; omega) _).alloc (by simp; omega) _).alloc (by simp; omega) _

def MadeO (s : ByteArray) (w : World) (r : Ending) (w2 : World) : Prop :=
  r = .returned (.func (.func 76) #[] #[ptr (w.heap.size + 2), ptr (w.heap.size + 4), ptr (w.heap.size + 3), ptr (w.heap.size + 6)]) ∧ Env w2 w.heap.size s 0 0 ∧ Below w.heap.size w w2
set_option maxHeartbeats 2000000 in
theorem own_made (s : ByteArray) (w : World) : Calls Try.prog 36 #[.string s] w (MadeO s w) := by
  have HP := Lib.hid (p0_env w s)
  go_enter Try.func36, Try.ntmps36
  go_wp2_with fail
  go_ret
  exact ⟨rfl, HP.out⟩

/-- What a text stands for, it is the text of. -/
theorem parse_some {s : ByteArray} {e : Ex} (h : exParse s = some e) : exValid e = true ∧ exFmt e = s := by
  have h0 := h
  unfold exParse at h
  split at h
  · cases h
  · split at h
    · rename_i hh
      obtain rfl := Option.some.inj h
      refine ⟨?_, hh.2⟩
      cases hv : exValid _ with
      | true => rfl
      | false =>
        have h1 := parse_none hv
        rw [hh.2, h0] at h1
        cases h1
    · cases h
theorem valid_all {e : Ex} (h : exValid e = true) : exAll e = true ∧ exSize e ≤ 80 := by
  unfold exValid at h
  rw [Bool.and_eq_true, Bool.and_eq_true] at h
  exact ⟨h.2.2, of_decide_eq_true h.1⟩
theorem fits_none {s : ByteArray} {e : Ex} {a2 n2 : Nat} {ok : Bool} (hg : Fits s 0 0 e a2 n2 ok) (h : ok = false ∨ exFmt e ≠ s) : exParse s = none := by
  cases hp : exParse s with
  | none => rfl
  | some e0 =>
    exfalso
    obtain ⟨h1, h2⟩ := parse_some hp
    have h3 : rest s 0 = exText e0 ++ [] := by
      have hf : exFmt e0 = exStr e0 := by unfold exFmt; rw [h1]; rfl
      rw [← h2, hf]
      unfold rest exStr
      simp
    obtain ⟨g1, g2, -, -⟩ := hg e0 [] (valid_all h1).1 h3 (Or.inl rfl) (by have := (valid_all h1).2; omega)
    rcases h with h | h
    · rw [g1] at h; cases h
    · rw [g2] at h; exact h h2
theorem fits_some {s : ByteArray} {e : Ex} {a2 : Nat} (h0 : 0 < a2) (h1 : a2 ≤ s.size) (h : exFmt e = s) : exParse s = some e := by
  have hv : exValid e = true := by
    cases hv : exValid e with
    | true => rfl
    | false =>
      have hf : exFmt e = ⟨#[]⟩ := by unfold exFmt; rw [hv]; rfl
      rw [h] at hf
      rw [hf] at h1
      have : (⟨#[]⟩ : ByteArray).size = 0 := rfl
      omega
  rw [← h]
  exact parse_text hv

set_option maxHeartbeats 4000000 in
theorem own_parse (s : ByteArray) (w : World) (hs : s.size ≤ 1048576) :
    Calls Try.prog 11 #[.string s] w (ParsePost s w) := by
  obtain ⟨W1, hW1⟩ : ∃ W1, W1 = w.alloc (.cells #[.int .i64 0, .string ⟨#[]⟩, .slice none 0 0] 26) := ⟨_, rfl⟩
  have hsz1 : W1.heap.size = w.heap.size + 1 := by rw [hW1]; simp
  have hb1 : Bx W1 w.heap.size 0 ⟨#[]⟩ (.slice none 0 0) := by rw [hW1]; exact heap_alloc_new _ _
  have hl1 : Below w.heap.size w W1 := by rw [hW1]; exact (Below.refl _ _).alloc (Nat.le_refl _) _
  have HCALL := Lib.hid (fun (W : World) (h : Env W W1.heap.size s 0 0) => expr_all (W1.heap.size) s hs 80 0 0 W h (Nat.zero_le _) (by omega) (by omega))
  have HM := Lib.hid (own_made s W1)
  have HB1 := Lib.hid hb1
  have HL1 := Lib.hid hl1
  have HW1 := Lib.hid hW1
  have HSZ := Lib.hid hsz1
  clear hb1 hl1 hW1 hsz1
  go_enter Try.func11, Try.ntmps11
  go_wp2_with fail
  go_at_call 36
  rw [← HW1.out]
  refine HM.out.mono ?_
  rintro r wp ⟨rfl, hep, hlp⟩
  have HB1p := Lib.hid (HB1.out.keep (Fr.of_below (S := []) hlp) (by simp))
  have HL1p := Lib.hid (HL1.out.trans (hlp.mono HL1.out.size))
  have HPS := Lib.hid (show W1.heap.size + 6 < wp.heap.size from hep.lt)
  have HEP := Lib.hid hep
  clear hep hlp
  go_wp2_with fail
  go_at_call 76
  refine (HCALL.out wp HEP.out).mono ?_
  have hsz1 := HSZ.out
  rintro r w2 ⟨v2, e, b1, a2, n2, ok, rfl, his, hm2, hf2, -, -, hhi, hcnt, hgot⟩
  obtain ⟨u2, rfl, hns, hu2⟩ := id his
  obtain ⟨A2, c2, rfl, -⟩ := id hu2
  have HL2 := Lib.hid (show Below w.heap.size w w2 from HL1p.out.trans (hf2.below (by simp; omega) (by have := HPS.out; omega)))
  have hb2 := HB1p.out.keep hf2 (by simp; omega)
  obtain ⟨e0, e1, e2, hBw⟩ := hb2.cells
  have g0 := hb2.thaw 0
  have g1 := hb2.thaw 1
  have g2 := hb2.thaw 2
  have HB2 := Lib.hid hb2
  have HI2 := Lib.hid (And.intro his hm2)
  have HG := Lib.hid hgot
  have HH := Lib.hid (And.intro hhi hcnt)
  have hss : w.heap.size < w2.heap.size := hBw
  have hC : w.heap.size < wp.heap.size := by have := HPS.out; omega
  generalize wp.heap.size = C at *
  clear hb2 his hm2 hf2 hgot hu2 HCALL HB1 HL1 HB1p HL1p HEP hcnt hhi HM
  obtain ⟨q, hq⟩ : ∃ q, q = e.args.length := ⟨_, rfl⟩
  obtain ⟨K, hK⟩ : ∃ K, K = e.kind := ⟨_, rfl⟩
  obtain ⟨S, hS⟩ : ∃ S, S = e.name := ⟨_, rfl⟩
  rw [← hq, ← hK, ← hS] at HI2 ⊢
  have HQ := Lib.hid (And.intro hq (And.intro hK hS))
  clear hq hK hS
  have HL3 := Lib.hid (HL2.out.alloc (by omega) (.cells #[.int .i64 K, .string S, .slice A2 q c2] 26))
  have HB3 := Lib.hid (HB2.out.keep (Fr.alloc (S := []) w2 (.cells #[.int .i64 K, .string S, .slice A2 q c2] 26)) (by simp))
  have HE3 := Lib.hid (show Bx (w2.alloc (.cells #[.int .i64 K, .string S, .slice A2 q c2] 26)) w2.heap.size K S (.slice A2 q c2) from heap_alloc_new _ _)
  cases ok
  · have HNO := Lib.hid (fits_none HG.out (Or.inl rfl))
    go_wp2_with fail
    obtain ⟨W2, hW2, hpost, hbx⟩ := zero_end2 (o := .cells #[.int .i64 K, .string S, .slice A2 q c2] 26) HNO.out HL2.out HB2.out rfl
    rw [← hW2]
    obtain ⟨y0, y1, y2, -⟩ := hbx.cells
    refine bodyPost_ret (v := .tuple #[.agg #[.int .i64 0, .string ⟨#[]⟩, .slice none 0 0], .bool false]) (by simp [results, Try.results11, go_sem, y0, y1, y2]) rfl ?_
    exact hpost
  · have HFM := Lib.hid (fun (W : World) (v : Value) (bs : List Nat) (h : ExIs W v e bs) => own_format own_join e v bs W h (by have := HH.out.2 rfl; omega))
    generalize hfm : exFmt e = t at HFM
    by_cases ht : t = s
    · have hte := beq_yes ht
      have HYES := Lib.hid (fits_some (HH.out.2 rfl).1 HH.out.1 (hfm.trans ht))
      clear ht hfm
      go_wp2_with (go_at_call 10; refine (HFM.out _ _ b1 (HI2.out.1.below ((Below.refl _ _).alloc (Nat.le_refl _) _))).mono ?_; rintro r w4 ⟨rfl, hb4⟩; have hb5 := HB3.out.keep (Fr.of_below (S := []) hb4) (by simp); have HL4 := Lib.hid (HL3.out.trans (hb4.mono HL3.out.size)); have HV4 := Lib.hid (((Below.refl w2.heap.size w2).alloc (Nat.le_refl _) _).trans (hb4.mono (by simp))); have hb6 := HE3.out.keep (Fr.of_below (S := []) hb4) (by simp); obtain ⟨p0, p1, p2, p3⟩ := hb6.cells; obtain ⟨e0, e1, e2, hBw4⟩ := hb5.cells; have g0 := hb5.thaw 0; have g1 := hb5.thaw 1; have g2 := hb5.thaw 2; have HB5 := Lib.hid hb5; clear hb4 hb5 hb6)
      obtain ⟨W2, hW2, hpost, hbx⟩ := good_end (C := C) HYES.out HL4.out HB5.out HV4.out hC HI2.out rfl
      rw [← hW2]
      obtain ⟨y0, y1, y2, -⟩ := hbx.cells
      refine bodyPost_ret (v := .tuple #[.agg #[.int .i64 K, .string S, .slice A2 q c2], .bool true]) (by simp [results, Try.results11, go_sem, y0, y1, y2]) rfl ?_
      exact hpost
    · have hte := beq_no ht
      have HNO := Lib.hid (fits_none HG.out (Or.inr (by rw [hfm]; exact ht)))
      clear ht hfm
      go_wp2_with (go_at_call 10; refine (HFM.out _ _ b1 (HI2.out.1.below ((Below.refl _ _).alloc (Nat.le_refl _) _))).mono ?_; rintro r w4 ⟨rfl, hb4⟩; have hb5 := HB3.out.keep (Fr.of_below (S := []) hb4) (by simp); have HL4 := Lib.hid (HL3.out.trans (hb4.mono HL3.out.size)); obtain ⟨e0, e1, e2, hBw4⟩ := hb5.cells; have g0 := hb5.thaw 0; have g1 := hb5.thaw 1; have g2 := hb5.thaw 2; have HB5 := Lib.hid hb5; clear hb4 hb5)
      obtain ⟨W2, hW2, hpost, hbx⟩ := zero_end HNO.out HL4.out HB5.out rfl
      rw [← hW2]
      obtain ⟨y0, y1, y2, -⟩ := hbx.cells
      refine bodyPost_ret (v := .tuple #[.agg #[.int .i64 0, .string ⟨#[]⟩, .slice none 0 0], .bool false]) (by simp [results, Try.results11, go_sem, y0, y1, y2]) rfl ?_
      exact hpost
end Go.Proofs.Ytliifdiajcahdaa
