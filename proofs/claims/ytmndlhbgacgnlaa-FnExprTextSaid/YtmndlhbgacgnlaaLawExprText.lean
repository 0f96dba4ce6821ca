/- The law FnExprText, from contracts of the program's own FormatExpr, ParseExpr, EqualExpr. Conditions: those contracts; a code of at most 1048576 bytes. -/
import Derived.Test.YtmndlhbgacgnlaaHoldsParse
import Derived.Test.YtmndlhbgacgnlaaTextDraw
import Derived.Test.YtmndlhbgacgnlaaGramAll
import Derived.Test.YtmndlhbgacgnlaaSpecEqual
namespace Go.Proofs.Ytmndlhbgacgnlaa
open Go Go.RowKit

/-- What the program's own EqualExpr gives. -/
theorem valid_small {e : Ex} (h : exValid e = true) : exSize e ≤ 80 := by
  unfold exValid at h
  simp at h
  omega
def OwnEqualT : Prop := ∀ (e e2 : Ex) (v v2 : Value) (bs bs2 : List Nat) (W : World), ExIs W v e bs → ExIs W v2 e2 bs2 → exTot e ≤ 1048576 → exTot e2 ≤ 1048576 → exSize e ≤ 80 → (∀ x ∈ bs ++ bs2, ∀ o, W.frozen? ⟨x, o, none⟩ = false) → Calls Try.prog 26 #[v, v2] W (RetPost (.bool (exEq e e2)) W)
theorem eq_refl (n : Nat) : (∀ e : Ex, exSize e ≤ n → exEq e e = true) ∧ (∀ l : List Ex, exSizes l ≤ n → exEqs l l = true) := by
  induction n with
  | zero =>
    refine ⟨fun e h => by have := exSize_pos e; omega, fun l h => ?_⟩
    cases l with
    | nil => rfl
    | cons e r => rw [exSizes] at h; have := exSize_pos e; omega
  | succ n ih =>
    have hE : ∀ e : Ex, exSize e ≤ n + 1 → exEq e e = true := by
      intro e h
      cases e with
      | mk k s l =>
        rw [exSize] at h
        rw [exEq, ih.2 l (by omega)]
        simp
    refine ⟨hE, ?_⟩
    intro l
    induction l with
    | nil => intro _; rfl
    | cons e r ihl =>
      intro h
      rw [exSizes] at h
      rw [exEqs, hE e (by omega), ihl (by omega)]
      rfl
theorem parse_fmt {s : ByteArray} {e : Ex} (h : exParse s = some e) : exFmt e = s := by
  unfold exParse at h
  cases hp : pNode 24 (rest s 0) with
  | none => rw [hp] at h; cases h
  | some x =>
    obtain ⟨e2, r⟩ := x
    rw [hp] at h
    simp only at h
    split at h
    · rename_i hh
      obtain rfl : e2 = e := by simpa using h
      exact hh.2
    · cases h
/-- A reading, told of one result. -/
def ParsedPost (b : Bool) (e : Ex) (w : World) (r : Ending) (w2 : World) : Prop := ∃ v bs, r = .returned (.tuple #[v, .bool b]) ∧ ExF w2 v e bs ∧ Below w.heap.size w w2
theorem parsed_of {s : ByteArray} {w w2 : World} {r : Ending} {b : Bool} {e : Ex} (hb : (exParse s).isSome = b) (he : (exParse s).getD zeroEx = e) (h : ParsePost s w r w2) : ParsedPost b e w r w2 := by
  obtain ⟨v, bs, h1, h2, hm, h3⟩ := h
  rw [hb] at h1
  rw [he] at h2
  exact ⟨v, bs, h1, ⟨h2, hm.free⟩, h3⟩
def TrueT (w : World) (e : Ending) (w' : World) : Prop := e = .returned (.bool true) ∧ Below w.heap.size w w'
set_option maxHeartbeats 400000 in
theorem bigT_no (A : Option Addr) (n cap : Nat) (w : World) (h : (n : Int) ≤ 1048576) :
    Calls Try.prog 11 #[.slice A n cap] w fun e w' => e = .returned (.bool false) ∧ w = w' := by
  go_enter Try.func11, Try.ntmps11
  go_wp2
  go_ret
  exact ⟨by simp; omega, rfl⟩
set_option maxHeartbeats 400000 in
theorem bigT_yes (A : Option Addr) (n cap : Nat) (w : World) (h : 1048576 < (n : Int)) :
    Calls Try.prog 11 #[.slice A n cap] w fun e w' => e = .returned (.bool true) ∧ w = w' := by
  go_enter Try.func11, Try.ntmps11
  go_wp2
  go_ret
  exact ⟨by simp, rfl⟩

set_option maxHeartbeats 8000000 in
theorem law_text (hF : OwnFormatExpr) (hP : OwnParseExpr) (hE : OwnEqualT) (A : Option Addr) (zs : List Int) (cap : Nat) (w : World) (hs : Bytes w w.heap.size A zs) (hn : zs.length ≤ 1048576) :
    Calls Try.prog 4 #[.slice A zs.length cap] w (TrueT w) := by
  have HBG := Lib.hid (bigT_no A zs.length cap w (by omega))
  have HDF := Lib.hid (draw_format A zs cap w hs hn)
  have HDP := Lib.hid (fun (W : World) (h : Below w.heap.size w W) => draw_parse A zs cap W ((fun i z hz => by
    obtain ⟨a, h1, h2, h3, h4, h5⟩ := (hs.below h) i z hz
    exact ⟨a, h1, h2, h3, h4, Nat.lt_of_lt_of_le h5 h.size⟩)) hn)
  have HF := Lib.hid hF
  have HP := Lib.hid hP
  have HE := Lib.hid hE
  generalize hq : zs.length = q at *
  clear hs hn hF hP hE hq
  go_enter Try.func4, Try.ntmps4
  go_wp2_with fail
  go_at_call 11
  refine HBG.out.mono ?_
  rintro r _ ⟨rfl, rfl⟩
  go_wp2_with fail
  go_at_call 28
  refine HDF.out.mono ?_
  rintro r w1 ⟨v0, e, b0, rfl, hs0, ht0, hb1⟩
  obtain ⟨u0, rfl, -, hu0⟩ := id hs0.1
  obtain ⟨A0, c0, rfl, -⟩ := id hu0
  have hAl := (Below.refl w1.heap.size w1).alloc (Nat.le_refl _) (.cells #[.int .i64 e.kind, .string e.name, .slice A0 e.args.length c0] 26)
  have HB1 := Lib.hid (hb1.trans (hAl.mono hb1.size))
  have HX1 := Lib.hid (show Bx (w1.alloc (.cells #[.int .i64 e.kind, .string e.name, .slice A0 e.args.length c0] 26)) w1.heap.size e.kind e.name (.slice A0 e.args.length c0) from heap_alloc_new _ _)
  have HS1 := Lib.hid (hs0.below hAl)
  have HT := Lib.hid (show exTot e ≤ 1048576 by omega)
  have HFS := Lib.hid (fmt_size ht0)
  have HPT := Lib.hid (fun (h : exValid e = true) => parse_text h)
  have HPN := Lib.hid (fun (h : exValid e = false) => parse_none h)
  have HEE := Lib.hid ((eq_refl (exSize e)).1 e (Nat.le_refl _))
  clear hs0 hu0 hb1 hAl ht0 HDF HBG
  go_wp2_with fail
  go_at_call 29
  refine (HF.out e _ b0 _ HS1.out.1 HT.out).mono ?_
  rintro r w2 ⟨rfl, hb2⟩
  have HB2 := Lib.hid (HB1.out.trans (hb2.mono HB1.out.size))
  have HX2 := Lib.hid (HX1.out.keep (Fr.of_below (S := []) hb2) (by simp))
  have HS2 := Lib.hid (HS1.out.below hb2)
  clear hb2 HB1 HX1 HS1
  obtain ⟨x, b, HPP, hbv, hbx⟩ : ∃ (x : Ex) (b : Bool), Hid (∀ (W : World), Calls Try.prog 30 #[.string (exFmt e)] W (ParsedPost b x W)) ∧ exValid e = b ∧ (b = true → x = e) := by
    cases hv : exValid e
    · exact ⟨zeroEx, false, Lib.hid (fun W => (HP.out (exFmt e) W (by have := HFS.out; omega)).mono fun _ _ h => parsed_of (by rw [HPN.out hv]; rfl) (by rw [HPN.out hv]; rfl) h), rfl, fun h => by cases h⟩
    · exact ⟨e, true, Lib.hid (fun W => (HP.out (exFmt e) W (by have := HFS.out; omega)).mono fun _ _ h => parsed_of (by rw [HPT.out hv]; rfl) (by rw [HPT.out hv]; rfl) h), rfl, fun _ => rfl⟩
  have HVA := Lib.hid hbv
  have HXE := Lib.hid hbx
  clear hbv hbx HPT HPN
  have HFE := Lib.hid (fun (W : World) (bs : List Nat) (v : Value) (h : ExIs W v e bs) => format_any e v bs W h HT.out)
  have HVE := Lib.hid (fun (W : World) (bs : List Nat) (v : Value) (h : ExIs W v e bs) => show Calls Try.prog 16 #[v] W (RetPost (.bool b) W) by
    have h1 := valid_any e v bs W h HT.out
    rw [HVA.out] at h1; exact h1)
  generalize exFmt e = t at *
  have hteq : (t.toList == t.toList) = true := beq_yes rfl
  go_wp2_with fail
  go_at_call 30
  refine (HPP.out _).mono ?_
  rintro r w3 ⟨vg, bg, rfl, hsg, hb3⟩
  obtain ⟨ug, rfl, -, hug⟩ := id hsg.1
  obtain ⟨Ag, cg, rfl, -⟩ := id hug
  have hAl := (Below.refl w3.heap.size w3).alloc (Nat.le_refl _) (.cells #[.int .i64 x.kind, .string x.name, .slice Ag x.args.length cg] 26)
  have HB3 := Lib.hid ((HB2.out.trans (hb3.mono HB2.out.size)).trans (hAl.mono (by have := hb3.size; have := HB2.out.size; omega)))
  have HX3 := Lib.hid ((HX2.out.keep (Fr.of_below (S := []) hb3) (by simp)).keep (Fr.of_below (S := []) hAl) (by simp))
  have HS3 := Lib.hid ((HS2.out.below hb3).below hAl)
  have HG3 := Lib.hid (show Bx (w3.alloc (.cells #[.int .i64 x.kind, .string x.name, .slice Ag x.args.length cg] 26)) w3.heap.size x.kind x.name (.slice Ag x.args.length cg) from heap_alloc_new _ _)
  have HQ3 := Lib.hid (hsg.below hAl)
  clear hsg hug hb3 hAl HB2 HX2 HS2 HPP
  obtain ⟨x0, x1, x2, -⟩ := HX3.out.cells
  go_wp2_with fail
  go_at_call 31
  refine (HFE.out _ b0 _ HS3.out.1).mono ?_
  rintro r w4 ⟨rfl, hb4⟩
  have HB4 := Lib.hid (HB3.out.trans (hb4.mono HB3.out.size))
  have HX4 := Lib.hid (HX3.out.keep (Fr.of_below (S := []) hb4) (by simp))
  have HS4 := Lib.hid (HS3.out.below hb4)
  have HG4 := Lib.hid (HG3.out.keep (Fr.of_below (S := []) hb4) (by simp))
  have HQ4 := Lib.hid (HQ3.out.below hb4)
  clear hb4 HB3 HX3 HS3 HG3 HQ3 x0 x1 x2 HFE
  obtain ⟨x0, x1, x2, -⟩ := HX4.out.cells
  go_wp2_with fail
  go_at_call 16
  refine (HVE.out _ b0 _ HS4.out.1).mono ?_
  rintro r w5 ⟨rfl, hb5⟩
  have HB5 := Lib.hid (HB4.out.trans (hb5.mono HB4.out.size))
  have HX5 := Lib.hid (HX4.out.keep (Fr.of_below (S := []) hb5) (by simp))
  have HS5 := Lib.hid (HS4.out.below hb5)
  have HG5 := Lib.hid (HG4.out.keep (Fr.of_below (S := []) hb5) (by simp))
  have HQ5 := Lib.hid (HQ4.out.below hb5)
  clear hb5 HB4 HX4 HS4 HG4 HQ4 x0 x1 x2 HVE
  cases b
  · clear HXE HE HX5 HS5 HG5 HQ5
    go_wp2_with fail
    go_at_call 32
    refine (HDP.out _ HB5.out).mono ?_
    rintro r w6 ⟨s2, rfl, hs2, hb6⟩
    have HB6 := Lib.hid (HB5.out.trans (hb6.mono HB5.out.size))
    clear hb6 HDP HB5
    have hs2eq : (s2.toList == s2.toList) = true := beq_yes rfl
    obtain ⟨y, b2, HP1, HP2, HFY⟩ : ∃ (y : Ex) (b2 : Bool), Hid (∀ (W : World), Calls Try.prog 30 #[.string s2] W (ParsedPost b2 y W)) ∧ Hid (∀ (W : World), Calls Try.prog 33 #[.string s2] W (ParsedPost b2 y W)) ∧ Hid (b2 = true → exFmt y = s2 ∧ exTot y ≤ 1048576) :=
      ⟨(exParse s2).getD zeroEx, (exParse s2).isSome, Lib.hid (fun W => (HP.out s2 W (by omega)).mono fun _ _ h => parsed_of rfl rfl h), Lib.hid (fun W => (parse_any s2 W (by omega)).mono fun _ _ h => parsed_of rfl rfl h), Lib.hid (fun hh => by
        cases hp : exParse s2 with
        | none => rw [hp] at hh; cases hh
        | some z => exact ⟨parse_fmt hp, by have := valid_tot (parse_valid hp); show exTot z ≤ _; omega⟩)⟩
    clear HP hs2
    go_wp2_with fail
    go_at_call 30
    refine (HP1.out _).mono ?_
    rintro r w7 ⟨vy, by7, rfl, hsy, hb7⟩
    obtain ⟨uy, rfl, -, huy⟩ := id hsy.1
    obtain ⟨Ay, cy, rfl, -⟩ := id huy
    have hAl := (Below.refl w7.heap.size w7).alloc (Nat.le_refl _) (.cells #[.int .i64 y.kind, .string y.name, .slice Ay y.args.length cy] 26)
    have HB7 := Lib.hid ((HB6.out.trans (hb7.mono HB6.out.size)).trans (hAl.mono (by have := hb7.size; have := HB6.out.size; omega)))
    have HY7 := Lib.hid (show Bx (w7.alloc (.cells #[.int .i64 y.kind, .string y.name, .slice Ay y.args.length cy] 26)) w7.heap.size y.kind y.name (.slice Ay y.args.length cy) from heap_alloc_new _ _)
    have HS7 := Lib.hid (hsy.below hAl)
    clear hsy huy hb7 hAl HB6 HP1
    go_wp2_with fail
    go_at_call 33
    refine (HP2.out _).mono ?_
    rintro r w8 ⟨vz, bz, rfl, hsz, hb8⟩
    obtain ⟨uz, rfl, -, huz⟩ := id hsz.1
    obtain ⟨Az, cz, rfl, -⟩ := id huz
    have hAl := (Below.refl w8.heap.size w8).alloc (Nat.le_refl _) (.cells #[.int .i64 y.kind, .string y.name, .slice Az y.args.length cz] 26)
    have HB8 := Lib.hid ((HB7.out.trans (hb8.mono HB7.out.size)).trans (hAl.mono (by have := hb8.size; have := HB7.out.size; omega)))
    have HY8 := Lib.hid ((HY7.out.keep (Fr.of_below (S := []) hb8) (by simp)).keep (Fr.of_below (S := []) hAl) (by simp))
    have HS8 := Lib.hid ((HS7.out.below hb8).below hAl)
    clear hsz huz hb8 hAl HB7 HY7 HS7 HP2
    cases b2
    · go_wp2_with fail
      go_ret
      exact ⟨rfl, HB8.out⟩
    · obtain ⟨hfy, hty⟩ := HFY.out (by first | rfl | trivial)
      have HCF := Lib.hid (HF.out y _ by7 _ HS8.out.1 hty)
      rw [hfy] at HCF
      obtain ⟨z0, z1, z2, -⟩ := HY8.out.cells
      clear hfy hty HFY
      go_wp2_with fail
      go_at_call 29
      refine HCF.out.mono ?_
      rintro r w10 ⟨rfl, hb10⟩
      have HB10 := Lib.hid (HB8.out.trans (hb10.mono HB8.out.size))
      clear hb10
      go_wp2_with fail
      go_ret
      exact ⟨rfl, HB10.out⟩
  · obtain rfl : x = e := HXE.out (by first | rfl | trivial)
    obtain ⟨x0, x1, x2, -⟩ := HX5.out.cells
    obtain ⟨y0, y1, y2, -⟩ := HG5.out.cells
    go_wp2_with fail
    go_at_call 26
    refine (HE.out x x _ _ bg b0 _ HQ5.out.1 HS5.out.1 HT.out HT.out (valid_small HVA.out) (fun z hz o => (List.mem_append.1 hz).elim (fun h' => HQ5.out.2 z h' o) (fun h' => HS5.out.2 z h' o))).mono ?_
    rintro r w9 ⟨rfl, hb9⟩
    rw [HEE.out]
    have HB5 := Lib.hid (HB5.out.trans (hb9.mono HB5.out.size))
    clear hb9 HXE HE HX5 HS5 HG5 HQ5 x0 x1 x2 y0 y1 y2
    clear HEE
    go_wp2_with fail
    go_at_call 32
    refine (HDP.out _ HB5.out).mono ?_
    rintro r w6 ⟨s2, rfl, hs2, hb6⟩
    have HB6 := Lib.hid (HB5.out.trans (hb6.mono HB5.out.size))
    clear hb6 HDP HB5
    have hs2eq : (s2.toList == s2.toList) = true := beq_yes rfl
    obtain ⟨y, b2, HP1, HP2, HFY⟩ : ∃ (y : Ex) (b2 : Bool), Hid (∀ (W : World), Calls Try.prog 30 #[.string s2] W (ParsedPost b2 y W)) ∧ Hid (∀ (W : World), Calls Try.prog 33 #[.string s2] W (ParsedPost b2 y W)) ∧ Hid (b2 = true → exFmt y = s2 ∧ exTot y ≤ 1048576) :=
      ⟨(exParse s2).getD zeroEx, (exParse s2).isSome, Lib.hid (fun W => (HP.out s2 W (by omega)).mono fun _ _ h => parsed_of rfl rfl h), Lib.hid (fun W => (parse_any s2 W (by omega)).mono fun _ _ h => parsed_of rfl rfl h), Lib.hid (fun hh => by
        cases hp : exParse s2 with
        | none => rw [hp] at hh; cases hh
        | some z => exact ⟨parse_fmt hp, by have := valid_tot (parse_valid hp); show exTot z ≤ _; omega⟩)⟩
    clear HP hs2
    go_wp2_with fail
    go_at_call 30
    refine (HP1.out _).mono ?_
    rintro r w7 ⟨vy, by7, rfl, hsy, hb7⟩
    obtain ⟨uy, rfl, -, huy⟩ := id hsy.1
    obtain ⟨Ay, cy, rfl, -⟩ := id huy
    have hAl := (Below.refl w7.heap.size w7).alloc (Nat.le_refl _) (.cells #[.int .i64 y.kind, .string y.name, .slice Ay y.args.length cy] 26)
    have HB7 := Lib.hid ((HB6.out.trans (hb7.mono HB6.out.size)).trans (hAl.mono (by have := hb7.size; have := HB6.out.size; omega)))
    have HY7 := Lib.hid (show Bx (w7.alloc (.cells #[.int .i64 y.kind, .string y.name, .slice Ay y.args.length cy] 26)) w7.heap.size y.kind y.name (.slice Ay y.args.length cy) from heap_alloc_new _ _)
    have HS7 := Lib.hid (hsy.below hAl)
    clear hsy huy hb7 hAl HB6 HP1
    go_wp2_with fail
    go_at_call 33
    refine (HP2.out _).mono ?_
    rintro r w8 ⟨vz, bz, rfl, hsz, hb8⟩
    obtain ⟨uz, rfl, -, huz⟩ := id hsz.1
    obtain ⟨Az, cz, rfl, -⟩ := id huz
    have hAl := (Below.refl w8.heap.size w8).alloc (Nat.le_refl _) (.cells #[.int .i64 y.kind, .string y.name, .slice Az y.args.length cz] 26)
    have HB8 := Lib.hid ((HB7.out.trans (hb8.mono HB7.out.size)).trans (hAl.mono (by have := hb8.size; have := HB7.out.size; omega)))
    have HY8 := Lib.hid ((HY7.out.keep (Fr.of_below (S := []) hb8) (by simp)).keep (Fr.of_below (S := []) hAl) (by simp))
    have HS8 := Lib.hid ((HS7.out.below hb8).below hAl)
    clear hsz huz hb8 hAl HB7 HY7 HS7 HP2
    cases b2
    · go_wp2_with fail
      go_ret
      exact ⟨rfl, HB8.out⟩
    · obtain ⟨hfy, hty⟩ := HFY.out (by first | rfl | trivial)
      have HCF := Lib.hid (HF.out y _ by7 _ HS8.out.1 hty)
      rw [hfy] at HCF
      obtain ⟨z0, z1, z2, -⟩ := HY8.out.cells
      clear hfy hty HFY
      go_wp2_with fail
      go_at_call 29
      refine HCF.out.mono ?_
      rintro r w10 ⟨rfl, hb10⟩
      have HB10 := Lib.hid (HB8.out.trans (hb10.mono HB8.out.size))
      clear hb10
      go_wp2_with fail
      go_ret
      exact ⟨rfl, HB10.out⟩
end Go.Proofs.Ytmndlhbgacgnlaa
