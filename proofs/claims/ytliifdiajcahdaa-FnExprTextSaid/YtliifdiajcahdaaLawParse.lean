/- FnExactParseExpr, from a contract of the program's own ParseExpr. Condition: that contract. -/
import Derived.Test.YtliifdiajcahdaaSpecParse
import Derived.Test.YtliifdiajcahdaaLawSizes
import Derived.Test.YtliifdiajcahdaaExHeld
import Derived.Test.YtliifdiajcahdaaExEq
namespace Go.Proofs.Ytliifdiajcahdaa
open Go Go.RowKit

theorem OnlyIn.fr {a b : World} {bs : List Nat} (h : OnlyIn a b bs) : Fr bs a b := ⟨h.os, h.tape, h.output, h.size, h.block⟩
theorem parse_valid {s : ByteArray} {e : Ex} (h : exParse s = some e) : exValid e = true := by
  cases hv : exValid e
  · unfold exParse at h
    have hf : exFmt e = ⟨#[]⟩ := by unfold exFmt; rw [hv]; rfl
    cases hp : pNode 24 (rest s 0) with
    | none => rw [hp] at h; cases h
    | some x =>
      obtain ⟨e2, r⟩ := x
      rw [hp] at h
      simp only at h
      split at h
      · rename_i hh
        obtain rfl : e2 = e := by simpa using h
        rw [hf] at hh
        rw [← hh.2] at hp
        cases hp
      · cases h
  · rfl
theorem parse_small (s : ByteArray) : exSizes ((exParse s).getD zeroEx).args ≤ 80 := by
  cases h : exParse s with
  | none => simp [zeroEx, Ex.args, exSizes]
  | some e =>
    have hv := parse_valid h
    unfold exValid at hv
    rw [Bool.and_eq_true] at hv
    have h1 := of_decide_eq_true hv.1
    have h2 : exSize e = exSizes e.args + 1 := by cases e; rfl
    show exSizes e.args ≤ 80
    omega

set_option maxHeartbeats 4000000 in
theorem lawparse (s : ByteArray) (w : World)
    (hO : ∀ (W : World), s.size ≤ 1048576 → Calls Try.prog 11 #[.string s] W (ParsePost s W)) :
    Calls Try.prog 5 #[.string s] w (TrueX w) := by
  by_cases hbig : s.size ≤ 1048576
  · have HO := Lib.hid (fun (W : World) => hO W hbig)
    have HS := Lib.hid (parse_any s w hbig)
    have HSM := Lib.hid (parse_small s)
    have hbi : (s.size : Int) ≤ 1048576 := by omega
    have hbd : decide (1048576 < (s.size : Int)) = false := by simp; omega
    have hbd2 : decide (1048576 < s.size) = false := by simp; omega
    clear hO hbig
    obtain ⟨e, he⟩ : ∃ e, e = (exParse s).getD zeroEx := ⟨_, rfl⟩
    obtain ⟨ok, hok⟩ : ∃ ok, ok = (exParse s).isSome := ⟨_, rfl⟩
    unfold ParsePost at HO HS
    rw [← he, ← hok] at HO HS
    rw [← he] at HSM
    clear he hok
    go_enter Try.func5, Try.ntmps5
    go_wp2_with fail
    go_at_call 16
    refine HS.out.mono ?_
    rintro r w1 ⟨v0, b0, rfl, hs0, hm0, hb1⟩
    obtain ⟨u0, rfl, hns, hu0⟩ := id hs0
    obtain ⟨A0, c0, rfl, -⟩ := id hu0
    have HB1 := Lib.hid (hb1.alloc hb1.size (.cells #[.int .i64 e.kind, .string e.name, .slice A0 e.args.length c0] 26))
    have HX1 := Lib.hid (show Bx (w1.alloc (.cells #[.int .i64 e.kind, .string e.name, .slice A0 e.args.length c0] 26)) w1.heap.size e.kind e.name (.slice A0 e.args.length c0) from heap_alloc_new _ _)
    have HS1 := Lib.hid (hs0.below ((Below.refl w1.heap.size w1).alloc (Nat.le_refl _) (.cells #[.int .i64 e.kind, .string e.name, .slice A0 e.args.length c0] 26)))
    have HR0 := Lib.hid (fun x (hx : x ∈ b0) => (hm0.range x hx).2)
    have hz1 := hb1.size
    clear hs0 hm0 hb1 hu0
    go_wp2_with fail
    go_at_call 11
    refine (HO.out _).mono ?_
    rintro r w2 ⟨vg, bg, rfl, hsg, hmg, hb2⟩
    obtain ⟨ug, rfl, -, hug⟩ := id hsg
    obtain ⟨Ag, cg, rfl, -⟩ := id hug
    have hz2 : w1.heap.size + 1 ≤ w2.heap.size := by have := hb2.size; simpa using this
    have hAl := (Below.refl w2.heap.size w2).alloc (Nat.le_refl _) (.cells #[.int .i64 e.kind, .string e.name, .slice Ag e.args.length cg] 26)
    have HB2 := Lib.hid ((HB1.out.trans (hb2.mono HB1.out.size)).trans (hAl.mono (by omega)))
    have HX2 := Lib.hid ((HX1.out.keep (Fr.of_below (S := []) hb2) (by simp)).keep (Fr.of_below (S := []) hAl) (by simp))
    have HS2 := Lib.hid ((HS1.out.below hb2).below hAl)
    have HG2 := Lib.hid (show Bx (w2.alloc (.cells #[.int .i64 e.kind, .string e.name, .slice Ag e.args.length cg] 26)) w2.heap.size e.kind e.name (.slice Ag e.args.length cg) from heap_alloc_new _ _)
    have HE2 := Lib.hid (hsg.below hAl)
    have HM2 := Lib.hid ((hmg.mono (Nat.zero_le _)).keeps (keeps_below hAl bg))
    have HRG := Lib.hid (fun x (hx : x ∈ bg) => show w1.heap.size < x ∧ x < w2.heap.size by have := hmg.range x hx; simp at this; omega)
    clear hsg hmg hb2 hug hAl HB1 HX1 HS1
    have HEQ := Lib.hid (eq_expr e _ _ bg b0 _ HE2.out HS2.out)
    obtain ⟨x0, x1, x2, -⟩ := HX2.out.cells
    go_wp2_with fail
    go_at_call 19
    refine HEQ.out.mono ?_
    rintro r w3 ⟨rfl, hb3⟩
    have hz3 : w2.heap.size + 1 ≤ w3.heap.size := by have := hb3.size; simpa using this
    have HB3 := Lib.hid (HB2.out.trans (hb3.mono HB2.out.size))
    have HX3 := Lib.hid (HX2.out.keep (Fr.of_below (S := []) hb3) (by simp))
    have HS3 := Lib.hid (HS2.out.below hb3)
    have HG3 := Lib.hid (HG2.out.keep (Fr.of_below (S := []) hb3) (by simp))
    have HE3 := Lib.hid (HE2.out.below hb3)
    have HM3 := Lib.hid (HM2.out.keeps (keeps_below hb3 bg))
    clear hb3 HEQ HB2 HX2 HS2 HG2 HE2 HM2 x0 x1 x2
    obtain ⟨y0, y1, y2, -⟩ := HG3.out.cells
    go_wp2_with fail
    go_at_call 20
    refine (mark_expr e _ bg w3 1 HE3.out HM3.out (by omega) (by have := HSM.out; omega)).mono ?_
    rintro r w4 ⟨rfl, hk4, ho4, -⟩
    obtain ⟨mk, hmk⟩ : ∃ mk, mk = 1 + 2 * (exSizes e.args : Int) := ⟨_, rfl⟩
    rw [← hmk]
    have hmk0 : 0 ≤ mk := by omega
    have hmkd : decide (mk < 0) = false := by simp; omega
    have HMK := Lib.hid hmk
    have hz4 : w2.heap.size + 1 ≤ w4.heap.size := Nat.le_trans hz3 ho4.size
    have HB4 := Lib.hid (HB3.out.trans (ho4.fr.below (fun x hx => by have := (HRG.out x hx).1; omega) (by omega)))
    have HX4 := Lib.hid (HX3.out.keep ho4.fr (fun hx => by have := (HRG.out _ hx).1; omega))
    have HS4 := Lib.hid (HS3.out.keeps (ho4.keeps (fun x hx hg => by have := HR0.out x hx; have := (HRG.out x hg).1; omega)))
    have HG4 := Lib.hid (HG3.out.keep ho4.fr (fun hx => by have := (HRG.out _ hx).2; omega))
    have HK4 := Lib.hid hk4
    clear hk4 ho4 hmk HB3 HX3 HS3 HG3 HE3 HM3 y0 y1 y2
    obtain ⟨y0, y1, y2, -⟩ := HG4.out.cells
    go_wp2_with fail
    go_at_call 21
    refine (held_expr e e.kind e.name _ bg w4 1 HK4.out (by omega) (by have := HSM.out; omega)).mono ?_
    rintro r w5 ⟨rfl, hb5⟩
    rw [← HMK.out]
    have hz5 : w2.heap.size + 1 ≤ w5.heap.size := Nat.le_trans hz4 hb5.size
    have HB5 := Lib.hid (HB4.out.trans (hb5.mono HB4.out.size))
    have HX5 := Lib.hid (HX4.out.keep (Fr.of_below (S := []) hb5) (by simp))
    have HS5 := Lib.hid (HS4.out.below hb5)
    have HG5 := Lib.hid (HG4.out.keep (Fr.of_below (S := []) hb5) (by simp))
    have HK5 := Lib.hid (HK4.out.below hb5)
    clear hb5 HB4 HX4 HS4 HG4 HK4 y0 y1 y2
    go_wp2_with fail
    go_at_call 11
    refine (HO.out _).mono ?_
    rintro r w6 ⟨vh, bh, rfl, hsh, -, hb6⟩
    obtain ⟨uh, rfl, -, huh⟩ := id hsh
    obtain ⟨Ah, ch, rfl, -⟩ := id huh
    have hAl := (Below.refl w6.heap.size w6).alloc (Nat.le_refl _) (.cells #[.int .i64 e.kind, .string e.name, .slice Ah e.args.length ch] 26)
    have HB6 := Lib.hid ((HB5.out.trans (hb6.mono HB5.out.size)).trans (hAl.mono (by have := hb6.size; have := HB5.out.size; omega)))
    have HX6 := Lib.hid ((HX5.out.keep (Fr.of_below (S := []) hb6) (by simp)).keep (Fr.of_below (S := []) hAl) (by simp))
    have HS6 := Lib.hid ((HS5.out.below hb6).below hAl)
    have HG6 := Lib.hid ((HG5.out.keep (Fr.of_below (S := []) hb6) (by simp)).keep (Fr.of_below (S := []) hAl) (by simp))
    have HK6 := Lib.hid ((HK5.out.below hb6).below hAl)
    have HEQ := Lib.hid (eq_expr e _ _ bh b0 _ (hsh.below hAl) HS6.out)
    clear hsh hb6 huh hAl HB5 HX5 HS5 HG5 HK5 HS6
    obtain ⟨x0, x1, x2, -⟩ := HX6.out.cells
    go_wp2_with fail
    go_at_call 19
    refine HEQ.out.mono ?_
    rintro r w7 ⟨rfl, hb7⟩
    have HB7 := Lib.hid (HB6.out.trans (hb7.mono HB6.out.size))
    have HG7 := Lib.hid (HG6.out.keep (Fr.of_below (S := []) hb7) (by simp))
    have HK7 := Lib.hid (HK6.out.below hb7)
    clear hb7 HEQ HB6 HX6 HG6 HK6 x0 x1 x2
    obtain ⟨y0, y1, y2, -⟩ := HG7.out.cells
    go_wp2_with fail
    go_at_call 21
    refine (held_expr e e.kind e.name _ bg w7 1 HK7.out (by omega) (by have := HSM.out; omega)).mono ?_
    rintro r w8 ⟨rfl, hb8⟩
    rw [← HMK.out]
    have HB8 := Lib.hid (HB7.out.trans (hb8.mono HB7.out.size))
    clear hb8
    go_wp2_with fail
    go_ret
    exact ⟨rfl, HB8.out⟩
  · have hbi : 1048576 < (s.size : Int) := by omega
    have hbn : 1048576 < s.size := by omega
    clear hO
    go_enter Try.func5, Try.ntmps5
    go_wp2_with fail
    go_ret
    exact ⟨rfl, Below.refl _ _⟩
end Go.Proofs.Ytliifdiajcahdaa
