/- The contracts of the model's draws DrawFormatExpr and DrawParseExpr. Condition: the code is at most 1048576 bytes long. The law FnExprText, from contracts of the program's own FormatExpr, ParseExpr, EqualExpr. Conditions: those contracts; a code of at most 1048576 bytes. The law FnExprText, from contracts of the program's own FormatExpr, ParseExpr, EqualExpr: for every code, the expression that is drawn is parsed from its text, and the text that is drawn is parsed as the model parses it. Conditions: those contracts; the reach of the form. -/
import Derived.Test.YtliifdiajcahdaaExBent
import Derived.Test.YtliifdiajcahdaaSpecNode
import Derived.Deep.RegionHeld3
import Derived.Laws.Concat
import Derived.Test.YtliifdiajcahdaaHoldsParse
import Derived.Test.YtliifdiajcahdaaGramAll
import Derived.Test.YtliifdiajcahdaaSpecEqual
import Derived.ProofKit
import Derived.SizedLaws
import Derived.OpenShut
namespace Go.Proofs.Ytliifdiajcahdaa
open Go Go.RowKit

theorem below_any (B g : Nat) (A : Option Addr) (zs : List Int) (cap : Nat) (lim : Int) (w : World) (hs : Bytes w B A zs) (hg : B ≤ g) (hc : Cur w g A zs.length cap) (hn : zs.length ≤ 1048576) (h0 : 1 ≤ lim) (h1 : lim ≤ 1000000000) :
    Calls Try.prog 65 #[.pointer (some ⟨g, 0, none⟩), .int .i64 lim] w (NumPost lim g A zs.length cap w) := by
  by_cases h : lim ≤ 256
  · exact below_small B g A zs cap lim w hs hg hc hn h0 h
  · exact below_large B g A zs cap lim w hs hg hc hn (by omega) h1
/-- A cursor, its bytes and a row of texts. -/
structure Cr (w : World) (B g b : Nat) (A : Option Addr) (zs : List Int) (cap : Nat) (ss : List ByteArray) (W : World) : Prop where
  only : Only g w W
  cur : Cur W g A zs.length cap
  bytes : Bytes W B A zs
  row : Row W b 9 (ss.map Value.string)
theorem Cr.go {w : World} {B g b : Nat} {A : Option Addr} {zs : List Int} {cap : Nat} {ss : List ByteArray} {W W2 : World} (h : Cr w B g b A zs cap ss W) (hg : B ≤ g) (hne : b ≠ g) (hc : Cur W2 g A zs.length cap) (ho : Only g W W2) : Cr w B g b A zs cap ss W2 :=
  ⟨h.only.trans ho, hc, h.bytes.only ho hg (Nat.le_trans hg (Nat.le_of_lt h.cur.lt)), h.row.only ho hne⟩
theorem Cr.drew {w : World} {B g b : Nat} {A : Option Addr} {zs : List Int} {cap : Nat} {ss : List ByteArray} {W : World} (h : Cr w B g b A zs cap ss W) : Cr w B g b A zs cap ss W.drew :=
  ⟨⟨h.only.os, h.only.tape, h.only.output, h.only.size, h.only.block⟩, h.cur, h.bytes, h.row⟩

def TurnedPost (g : Nat) (w : World) (e : Ending) (w' : World) : Prop := ∃ t : ByteArray, e = .returned (.string t) ∧ t.size ≤ 1200 ∧ Only g w w'
set_option maxHeartbeats 4000000 in
theorem turned_any (B g b : Nat) (A : Option Addr) (zs : List Int) (cap c2 : Nat) (ss : List ByteArray) (s : ByteArray) (w : World) (hs : Bytes w B A zs) (hg : B ≤ g) (hc : Cur w g A zs.length cap) (hn : zs.length ≤ 1048576) (hr : Row w b 9 (ss.map Value.string)) (hne : b ≠ g) (h0 : 1 ≤ ss.length) (h1 : ss.length ≤ 256)
    (hsz : s.size ≤ 1000) (hss : ∀ x ∈ ss, x.size ≤ 100) :
    Calls Try.prog 41 #[.pointer (some ⟨g, 0, none⟩), .string s, .slice (some ⟨b, 0, none⟩) ss.length c2] w (TurnedPost g w) := by
  have H0 := Lib.hid (show Cr w B g b A zs cap ss w from ⟨Only.refl _ _, hc, hs, hr⟩)
  have HBL := Lib.hid (fun (lim : Int) (W : World) (h : Cr w B g b A zs cap ss W) (h0 : 1 ≤ lim) (h1 : lim ≤ 1000000000) => below_any B g A zs cap lim W h.bytes hg h.cur hn h0 h1)
  have HPK := Lib.hid (fun (W : World) (h : Cr w B g b A zs cap ss W) => pick_any B g b A zs cap c2 ss W h.bytes hg h.cur hn h.row hne h0 h1)
  have HSS := Lib.hid hss
  have HGO := Lib.hid (And.intro hg hne)
  have hz0 : (s.size : Int) ≤ 1000 := by omega
  have hz1 : 0 ≤ (s.size : Int) := by omega
  have hw1 : IntKind.i64.wrap ((s.size : Int) + 1) = (s.size : Int) + 1 := IntWalk.i64_in _ (by omega)
  generalize ss.length = q at *
  clear hs hg hc hn hr hne hss
  go_enter Try.func41, Try.ntmps41
  go_wp2_with fail
  go_at_call 65
  refine (HBL.out _ w H0.out (by omega) (by omega)).mono ?_
  rintro r w1 ⟨x, rfl, x0, x1, hc1, ho1⟩
  have HC1 := Lib.hid (H0.out.go HGO.out.1 HGO.out.2 hc1 ho1)
  clear hc1 ho1 H0
  obtain ⟨j, rfl⟩ : ∃ j : Nat, x = (j : Int) := ⟨x.toNat, by omega⟩
  have hj : j ≤ s.size := by omega
  have hj1 : (j : Int) ≤ (s.size : Int) := by omega
  go_wp2_with fail
  go_at_call 65
  refine (HBL.out 6 w1 HC1.out (by omega) (by omega)).mono ?_
  rintro r w2 ⟨y, rfl, y0, y1, hc2, ho2⟩
  have HC2 := Lib.hid (HC1.out.go HGO.out.1 HGO.out.2 hc2 ho2)
  clear hc2 ho2 HC1 x0 x1
  by_cases hy0 : y = 0
  · subst hy0
    have hp1 : ((s.extract 0 j).size : Int) ≤ 1000 := by rw [ByteArray.size_extract]; omega
    have hp2 : ((s.extract j s.size).size : Int) ≤ 1000 := by rw [ByteArray.size_extract]; omega
    have HP := Lib.hid (And.intro hp1 hp2)
    have HCAT := Lib.hid (fun (p q : ByteArray) (h : p.size ≤ 2000) (h2 : q.size ≤ 2000) (W : World) => show (Op.stringOp .add p q).run Try.prog W = .ok (.string (p ++ q)) W from run_string_add_sum W p q (by omega))
    go_wp2_with fail
    go_region_held3 (fun X => Hid (Cr w B g b A zs cap ss X))
      (first | exact Lib.hid HC2.out.drew | exact Lib.hid ((‹Hid (Cr w B g b A zs cap ss _)›).out.go HGO.out.1 HGO.out.2 hc3 ho3))
      (first | (go_at_call 66; have hh := (‹Hid (Cr w B g b A zs cap ss _)›).out; refine (HPK.out _ hh).mono ?_; rintro r w3 ⟨x, hx, rfl, hc3, ho3⟩; have hxs : (x.size : Int) ≤ 100 := (by have := HSS.out x hx; omega); have hcat1 := HCAT.out (s.extract 0 j) x (by omega) (by omega); have hcat2 := HCAT.out (s.extract 0 j ++ x) (s.extract j s.size) (by rw [ByteArray.size_append]; omega) (by omega); clear hh))
    all_goals
      have HF := Lib.hid (‹Hid (Cr w B g b A zs cap ss w3)›).out.only
      have HT := Lib.hid (show (s.extract 0 j ++ x ++ s.extract j s.size).size ≤ 1200 by rw [ByteArray.size_append, ByteArray.size_append, ByteArray.size_extract, ByteArray.size_extract]; omega)
      clear hcat1 hcat2 hc3 ho3
      go_wp2_with fail
      go_ret
      exact ⟨_, rfl, HT.out, HF.out⟩
  · have hy0' : (y == 0) = false := by simpa using hy0
    by_cases hy1 : y = 1
    · subst hy1
      have HX := Lib.hid (show (s.extract 0 j).size ≤ 1200 by rw [ByteArray.size_extract]; omega)
      clear hy0
      go_wp2_with fail
      go_ret
      exact ⟨_, rfl, HX.out, HC2.out.only⟩
    · have hy1' : (y == 1) = false := by simpa using hy1
      clear hy0 hy1
      go_wp2_with fail
      go_ret
      exact ⟨_, rfl, by omega, HC2.out.only⟩

/-- What a draw of one expression gives. -/
def DrawTPost (w : World) (r : Ending) (w' : World) : Prop := ∃ v e bs, r = .returned v ∧ ExIs w' v e bs ∧ exTot e ≤ 140 ∧ Below w.heap.size w w'
theorem Only.fr {g : Nat} {a b : World} (h : Only g a b) : Fr [g] a b := ⟨h.os, h.tape, h.output, h.size, fun k hk hn => h.block k hk (fun e => hn (by simp [Option.some.inj e]))⟩

theorem draw_end {w w2 W : World} {K : Int} {S : ByteArray} {u : Value} {e : Ex} {bs : List Nat} (hl : Below w.heap.size w w2) (hx : Bx w2 w.heap.size 0 ⟨#[]⟩ (.slice none 0 0)) (hi : ExIs w2 (.agg #[.int .i64 K, .string S, u]) e bs) (hb : ∀ x ∈ bs, w.heap.size < x) (ht : exTot e ≤ 140)
    (hW : W = ((w2.setCell ⟨w.heap.size, 0, none⟩ (.int .i64 K)).setCell ⟨w.heap.size, 1, none⟩ (.string S)).setCell ⟨w.heap.size, 2, none⟩ u) :
    ∃ W2, W2 = W ∧ DrawTPost w (.returned (.agg #[.int .i64 K, .string S, u])) W2 ∧ Bx W2 w.heap.size K S u := by
  have hn : ∀ x ∈ bs, x ≠ w.heap.size := fun x hx e => by have := hb x hx; omega
  refine ⟨W, rfl, ⟨_, e, bs, rfl, ?_, ht, ?_⟩, ?_⟩
  · rw [hW]
    exact hi.keeps (keeps_on (keeps_on (keeps_set (fun x hx => hn x hx)) (keeps_set (fun x hx => hn x hx))) (keeps_set (fun x hx => hn x hx)))
  · rw [hW]
    exact ((hl.setCell (Nat.le_refl _) _).setCell (Nat.le_refl _) _).setCell (Nat.le_refl _) _
  · rw [hW]
    exact ((hx.set0 K).set1 _).set2 _

set_option maxHeartbeats 4000000 in
theorem draw_format (A : Option Addr) (zs : List Int) (cap : Nat) (w : World) (hs : Bytes w w.heap.size A zs) (hn : zs.length ≤ 1048576) :
    Calls Try.prog 9 #[.slice A zs.length cap] w (DrawTPost w) := by
  have HW0 := Lib.hid ((Below.refl w.heap.size w).alloc (Nat.le_refl _) (.cells #[.int .i64 0, .string ⟨#[]⟩, .slice none 0 0] 26))
  have HS := Lib.hid (show Bytes (w.alloc (.cells #[.int .i64 0, .string ⟨#[]⟩, .slice none 0 0] 26)) (w.heap.size + 1) A zs from fun i z hz => by
    obtain ⟨a, h1, h2, h3, h4, h5⟩ := (hs.below HW0.out) i z hz
    exact ⟨a, h1, h2, h3, h4, by omega⟩)
  have HX0 := Lib.hid (show Bx (w.alloc (.cells #[.int .i64 0, .string ⟨#[]⟩, .slice none 0 0] 26)) w.heap.size 0 ⟨#[]⟩ (.slice none 0 0) from heap_alloc_new _ _)
  have HNW := Lib.hid (new_any (w.heap.size + 1) A zs cap _ HS.out (by simp) hn)
  have HN := Lib.hid hn
  clear hs hn
  generalize hq : zs.length = q at *
  go_enter Try.func9, Try.ntmps9
  go_wp2_with fail
  go_at_call 33
  refine HNW.out.mono ?_
  rintro r w1 ⟨g, rfl, hc1, hg1, hb1⟩
  have hz1 : w.heap.size + 1 ≤ w1.heap.size := by have := hb1.size; simpa using this
  have HX1 := Lib.hid ((hb1.block w.heap.size (Nat.lt_succ_self _)).trans HX0.out)
  have HB1 := Lib.hid (HW0.out.trans (hb1.mono (Nat.le_succ _)))
  have HBT := Lib.hid (bent_any (w.heap.size + 1) g A zs cap w1 (HS.out.below hb1) hg1 (by rw [hq]; exact hc1) (by rw [hq]; exact HN.out))
  rw [hq] at HBT
  clear hc1 hb1 hq HX0
  go_wp2_with fail
  go_at_call 32
  refine HBT.out.mono ?_
  rintro r w2 ⟨v, e, bs, rfl, his, hbs, htot, hc2, ho2⟩
  obtain ⟨u, rfl, -, hu⟩ := id his
  obtain ⟨A2, c2, rfl, -⟩ := id hu
  have hx2 := Bx.keep HX1.out ho2.fr (by simp; omega)
  obtain ⟨e0, e1, e2, hBw⟩ := hx2.cells
  have g0 := hx2.thaw 0
  have g1 := hx2.thaw 1
  have g2 := hx2.thaw 2
  have HX2 := Lib.hid hx2
  have HB2 := Lib.hid (HB1.out.trans (ho2.below (B := w.heap.size) (by omega) (by omega)))
  have HI2 := Lib.hid his
  have HBS := Lib.hid hbs
  have HT := Lib.hid htot
  clear hx2 his hu hbs htot hc2 ho2 HX1 HB1 HBT
  generalize hK : e.kind = K at *
  generalize hSn : e.name = S at *
  generalize e.args.length = p at *
  go_wp2_with fail
  obtain ⟨W2, hW2, hpost, hbx⟩ := draw_end HB2.out HX2.out HI2.out (fun x hx => by have := HBS.out x hx; omega) HT.out rfl
  rw [← hW2]
  obtain ⟨y0, y1, y2, -⟩ := hbx.cells
  refine bodyPost_ret (v := .agg #[.int .i64 K, .string S, .slice A2 p c2]) (by simp [results, Try.results9, go_sem, y0, y1, y2]) rfl ?_
  exact hpost

def texts8 : List ByteArray := [⟨#[40]⟩, ⟨#[41]⟩, ⟨#[44]⟩, ⟨#[120]⟩, ⟨#[83]⟩, ⟨#[33]⟩, ⟨#[32]⟩, ⟨#[102, 40, 41]⟩]
theorem texts8_size : ∀ x ∈ texts8, x.size ≤ 100 := by decide
def DrawSPost (w : World) (r : Ending) (w' : World) : Prop := ∃ t : ByteArray, r = .returned (.string t) ∧ t.size ≤ 1200 ∧ Below w.heap.size w w'
theorem fmt_size {e : Ex} (h : exTot e ≤ 140) : (exFmt e).size ≤ 1000 := by
  unfold exFmt
  split
  · have := (text_len (exSize e)).1 e (Nat.le_refl _)
    rw [str_size]; omega
  · decide

set_option maxHeartbeats 4000000 in
theorem draw_parse (A : Option Addr) (zs : List Int) (cap : Nat) (w : World) (hs : Bytes w w.heap.size A zs) (hn : zs.length ≤ 1048576) :
    Calls Try.prog 15 #[.slice A zs.length cap] w (DrawSPost w) := by
  have HS := Lib.hid hs
  have HNW := Lib.hid (new_any w.heap.size A zs cap w hs (Nat.le_refl _) hn)
  have HN := Lib.hid hn
  clear hs hn
  generalize hq : zs.length = q at *
  go_enter Try.func15, Try.ntmps15
  go_wp2_with fail
  go_at_call 33
  refine HNW.out.mono ?_
  rintro r w1 ⟨g, rfl, hc1, hg1, hb1⟩
  have HB1 := Lib.hid hb1
  have HBT := Lib.hid (bent_any w.heap.size g A zs cap w1 (HS.out.below hb1) hg1 (by rw [hq]; exact hc1) (by rw [hq]; exact HN.out))
  have hgl := hc1.lt
  rw [hq] at HBT
  clear hc1 hb1
  go_wp2_with fail
  go_at_call 32
  refine HBT.out.mono ?_
  rintro r w2 ⟨v, e, bs, rfl, his, hbs, htot, hc2, ho2⟩
  have HC2 := Lib.hid hc2
  have HS2 := Lib.hid ((HS.out.below HB1.out).only ho2 hg1 (Nat.le_trans hg1 (Nat.le_of_lt hgl)))
  have HB2 := Lib.hid (HB1.out.trans (ho2.below hg1 (by omega)))
  have HFM := Lib.hid (format_any e v bs w2 his (by omega))
  have HFS := Lib.hid (fmt_size htot)
  have hgl2 := hc2.lt
  clear his hbs htot hc2 ho2 HB1 HBT
  generalize exFmt e = t at *
  go_wp2_with fail
  go_at_call 12
  refine HFM.out.mono ?_
  rintro r w3 ⟨rfl, hb3⟩
  have hz3 := hb3.size
  have hcur3 : Cur w3 g A q cap := by
    obtain ⟨k, h, hk, hr⟩ := HC2.out
    exact ⟨k, h, hk, (hb3.block g hgl2).trans hr⟩
  have HB3 := Lib.hid (HB2.out.trans (hb3.mono HB2.out.size))
  have hrow : Row (w3.alloc (.cells (texts8.map Value.string).toArray 9)) w3.heap.size 9 (texts8.map Value.string) := Row.new w3 9 _
  have HT := Lib.hid (turned_any w.heap.size g w3.heap.size A zs cap 8 texts8 t (w3.alloc (.cells (texts8.map Value.string).toArray 9)) ((HS2.out.below (hb3.mono HB2.out.size)).alloc HB3.out.size _) hg1 (by rw [hq]; exact hcur3.alloc _) (by rw [hq]; exact HN.out) hrow (by omega) (by decide) (by decide) HFS.out texts8_size)
  have HB4 := Lib.hid (HB3.out.alloc HB3.out.size (.cells (texts8.map Value.string).toArray 9))
  have HL := Lib.hid (show w.heap.size ≤ (w3.alloc (.cells (texts8.map Value.string).toArray 9)).heap.size by have := HB3.out.size; simp; omega)
  clear hb3 hcur3 hrow HB2 HB3
  go_wp2_with fail
  go_at_call 41
  refine HT.out.mono ?_
  rintro r w5 ⟨t2, rfl, ht2, ho5⟩
  have HT2 := Lib.hid ht2
  have HB5 := Lib.hid (HB4.out.trans (ho5.below hg1 HL.out))
  clear ht2 ho5
  go_wp2_with fail
  go_ret
  exact ⟨_, rfl, HT2.out, HB5.out⟩
end Go.Proofs.Ytliifdiajcahdaa

namespace Go.Proofs.Ytliifdiajcahdaa
open Go Go.RowKit

/-- What the program's own EqualExpr gives. -/
theorem valid_small {e : Ex} (h : exValid e = true) : exSize e ≤ 80 := by
  unfold exValid at h
  simp at h
  omega
def OwnEqualT : Prop := ∀ (e e2 : Ex) (v v2 : Value) (bs bs2 : List Nat) (W : World), ExIs W v e bs → ExIs W v2 e2 bs2 → exTot e ≤ 1048576 → exTot e2 ≤ 1048576 → exSize e ≤ 80 → Calls Try.prog 14 #[v, v2] W (RetPost (.bool (exEq e e2)) W)
theorem eq_refl (n : Nat) : (∀ e : Ex, exSize e ≤ n → exEq e e = true) ∧ (∀ l : List Ex, exSizes l ≤ n → exEqs l l = true) := by
  induction n with
  | zero =>
    refine ⟨fun e h => by have := exSize_pos e; omega, fun l h => ?_⟩
    cases l with
    | nil => rfl
    | cons e r => rw [exSizes] at h; have := exSize_pos e; omega
  | succ n ih =>
    have hE : ∀ e : Ex, exSize e ≤ n + 1 → exEq e e = true := by
      intro e h
      cases e with
      | mk k s l =>
        rw [exSize] at h
        rw [exEq, ih.2 l (by omega)]
        simp
    refine ⟨hE, ?_⟩
    intro l
    induction l with
    | nil => intro _; rfl
    | cons e r ihl =>
      intro h
      rw [exSizes] at h
      rw [exEqs, hE e (by omega), ihl (by omega)]
      rfl
theorem parse_fmt {s : ByteArray} {e : Ex} (h : exParse s = some e) : exFmt e = s := by
  unfold exParse at h
  cases hp : pNode 24 (rest s 0) with
  | none => rw [hp] at h; cases h
  | some x =>
    obtain ⟨e2, r⟩ := x
    rw [hp] at h
    simp only at h
    split at h
    · rename_i hh
      obtain rfl : e2 = e := by simpa using h
      exact hh.2
    · cases h
/-- A reading, told of one result. -/
def ParsedPost (b : Bool) (e : Ex) (w : World) (r : Ending) (w2 : World) : Prop := ∃ v bs, r = .returned (.tuple #[v, .bool b]) ∧ ExIs w2 v e bs ∧ Below w.heap.size w w2
theorem parsed_of {s : ByteArray} {w w2 : World} {r : Ending} {b : Bool} {e : Ex} (hb : (exParse s).isSome = b) (he : (exParse s).getD zeroEx = e) (h : ParsePost s w r w2) : ParsedPost b e w r w2 := by
  obtain ⟨v, bs, h1, h2, -, h3⟩ := h
  rw [hb] at h1
  rw [he] at h2
  exact ⟨v, bs, h1, h2, h3⟩
def TrueT (w : World) (e : Ending) (w' : World) : Prop := e = .returned (.bool true) ∧ Below w.heap.size w w'
set_option maxHeartbeats 400000 in
theorem bigT_no (A : Option Addr) (n cap : Nat) (w : World) (h : (n : Int) ≤ 1048576) :
    Calls Try.prog 8 #[.slice A n cap] w fun e w' => e = .returned (.bool false) ∧ w = w' := by
  go_enter Try.func8, Try.ntmps8
  go_wp2
  go_ret
  exact ⟨by simp; omega, rfl⟩
set_option maxHeartbeats 400000 in
theorem bigT_yes (A : Option Addr) (n cap : Nat) (w : World) (h : 1048576 < (n : Int)) :
    Calls Try.prog 8 #[.slice A n cap] w fun e w' => e = .returned (.bool true) ∧ w = w' := by
  go_enter Try.func8, Try.ntmps8
  go_wp2
  go_ret
  exact ⟨by simp, rfl⟩

set_option maxHeartbeats 8000000 in
theorem law_text (hF : OwnFormatExpr) (hP : OwnParseExpr) (hE : OwnEqualT) (A : Option Addr) (zs : List Int) (cap : Nat) (w : World) (hs : Bytes w w.heap.size A zs) (hn : zs.length ≤ 1048576) :
    Calls Try.prog 3 #[.slice A zs.length cap] w (TrueT w) := by
  have HBG := Lib.hid (bigT_no A zs.length cap w (by omega))
  have HDF := Lib.hid (draw_format A zs cap w hs hn)
  have HDP := Lib.hid (fun (W : World) (h : Below w.heap.size w W) => draw_parse A zs cap W ((fun i z hz => by
    obtain ⟨a, h1, h2, h3, h4, h5⟩ := (hs.below h) i z hz
    exact ⟨a, h1, h2, h3, h4, Nat.lt_of_lt_of_le h5 h.size⟩)) hn)
  have HF := Lib.hid hF
  have HP := Lib.hid hP
  have HE := Lib.hid hE
  generalize hq : zs.length = q at *
  clear hs hn hF hP hE hq
  go_enter Try.func3, Try.ntmps3
  go_wp2_with fail
  go_at_call 8
  refine HBG.out.mono ?_
  rintro r _ ⟨rfl, rfl⟩
  go_wp2_with fail
  go_at_call 9
  refine HDF.out.mono ?_
  rintro r w1 ⟨v0, e, b0, rfl, hs0, ht0, hb1⟩
  obtain ⟨u0, rfl, -, hu0⟩ := id hs0
  obtain ⟨A0, c0, rfl, -⟩ := id hu0
  have hAl := (Below.refl w1.heap.size w1).alloc (Nat.le_refl _) (.cells #[.int .i64 e.kind, .string e.name, .slice A0 e.args.length c0] 26)
  have HB1 := Lib.hid (hb1.trans (hAl.mono hb1.size))
  have HX1 := Lib.hid (show Bx (w1.alloc (.cells #[.int .i64 e.kind, .string e.name, .slice A0 e.args.length c0] 26)) w1.heap.size e.kind e.name (.slice A0 e.args.length c0) from heap_alloc_new _ _)
  have HS1 := Lib.hid (hs0.below hAl)
  have HT := Lib.hid (show exTot e ≤ 1048576 by omega)
  have HFS := Lib.hid (fmt_size ht0)
  have HPT := Lib.hid (fun (h : exValid e = true) => parse_text h)
  have HPN := Lib.hid (fun (h : exValid e = false) => parse_none h)
  have HEE := Lib.hid ((eq_refl (exSize e)).1 e (Nat.le_refl _))
  clear hs0 hu0 hb1 hAl ht0 HDF HBG
  go_wp2_with fail
  go_at_call 10
  refine (HF.out e _ b0 _ HS1.out HT.out).mono ?_
  rintro r w2 ⟨rfl, hb2⟩
  have HB2 := Lib.hid (HB1.out.trans (hb2.mono HB1.out.size))
  have HX2 := Lib.hid (HX1.out.keep (Fr.of_below (S := []) hb2) (by simp))
  have HS2 := Lib.hid (HS1.out.below hb2)
  clear hb2 HB1 HX1 HS1
  obtain ⟨x, b, HPP, hbv, hbx⟩ : ∃ (x : Ex) (b : Bool), Hid (∀ (W : World), Calls Try.prog 11 #[.string (exFmt e)] W (ParsedPost b x W)) ∧ exValid e = b ∧ (b = true → x = e) := by
    cases hv : exValid e
    · exact ⟨zeroEx, false, Lib.hid (fun W => (HP.out (exFmt e) W (by have := HFS.out; omega)).mono fun _ _ h => parsed_of (by rw [HPN.out hv]; rfl) (by rw [HPN.out hv]; rfl) h), rfl, fun h => by cases h⟩
    · exact ⟨e, true, Lib.hid (fun W => (HP.out (exFmt e) W (by have := HFS.out; omega)).mono fun _ _ h => parsed_of (by rw [HPT.out hv]; rfl) (by rw [HPT.out hv]; rfl) h), rfl, fun _ => rfl⟩
  have HVA := Lib.hid hbv
  have HXE := Lib.hid hbx
  clear hbv hbx HPT HPN
  have HFE := Lib.hid (fun (W : World) (bs : List Nat) (v : Value) (h : ExIs W v e bs) => format_any e v bs W h HT.out)
  have HVE := Lib.hid (fun (W : World) (bs : List Nat) (v : Value) (h : ExIs W v e bs) => show Calls Try.prog 13 #[v] W (RetPost (.bool b) W) by
    have h1 := valid_any e v bs W h HT.out
    rw [HVA.out] at h1; exact h1)
  generalize exFmt e = t at *
  have hteq : (t.toList == t.toList) = true := beq_yes rfl
  go_wp2_with fail
  go_at_call 11
  refine (HPP.out _).mono ?_
  rintro r w3 ⟨vg, bg, rfl, hsg, hb3⟩
  obtain ⟨ug, rfl, -, hug⟩ := id hsg
  obtain ⟨Ag, cg, rfl, -⟩ := id hug
  have hAl := (Below.refl w3.heap.size w3).alloc (Nat.le_refl _) (.cells #[.int .i64 x.kind, .string x.name, .slice Ag x.args.length cg] 26)
  have HB3 := Lib.hid ((HB2.out.trans (hb3.mono HB2.out.size)).trans (hAl.mono (by have := hb3.size; have := HB2.out.size; omega)))
  have HX3 := Lib.hid ((HX2.out.keep (Fr.of_below (S := []) hb3) (by simp)).keep (Fr.of_below (S := []) hAl) (by simp))
  have HS3 := Lib.hid ((HS2.out.below hb3).below hAl)
  have HG3 := Lib.hid (show Bx (w3.alloc (.cells #[.int .i64 x.kind, .string x.name, .slice Ag x.args.length cg] 26)) w3.heap.size x.kind x.name (.slice Ag x.args.length cg) from heap_alloc_new _ _)
  have HQ3 := Lib.hid (hsg.below hAl)
  clear hsg hug hb3 hAl HB2 HX2 HS2 HPP
  obtain ⟨x0, x1, x2, -⟩ := HX3.out.cells
  go_wp2_with fail
  go_at_call 12
  refine (HFE.out _ b0 _ HS3.out).mono ?_
  rintro r w4 ⟨rfl, hb4⟩
  have HB4 := Lib.hid (HB3.out.trans (hb4.mono HB3.out.size))
  have HX4 := Lib.hid (HX3.out.keep (Fr.of_below (S := []) hb4) (by simp))
  have HS4 := Lib.hid (HS3.out.below hb4)
  have HG4 := Lib.hid (HG3.out.keep (Fr.of_below (S := []) hb4) (by simp))
  have HQ4 := Lib.hid (HQ3.out.below hb4)
  clear hb4 HB3 HX3 HS3 HG3 HQ3 x0 x1 x2 HFE
  obtain ⟨x0, x1, x2, -⟩ := HX4.out.cells
  go_wp2_with fail
  go_at_call 13
  refine (HVE.out _ b0 _ HS4.out).mono ?_
  rintro r w5 ⟨rfl, hb5⟩
  have HB5 := Lib.hid (HB4.out.trans (hb5.mono HB4.out.size))
  have HX5 := Lib.hid (HX4.out.keep (Fr.of_below (S := []) hb5) (by simp))
  have HS5 := Lib.hid (HS4.out.below hb5)
  have HG5 := Lib.hid (HG4.out.keep (Fr.of_below (S := []) hb5) (by simp))
  have HQ5 := Lib.hid (HQ4.out.below hb5)
  clear hb5 HB4 HX4 HS4 HG4 HQ4 x0 x1 x2 HVE
  cases b
  · clear HXE HE HX5 HS5 HG5 HQ5
    go_wp2_with fail
    go_at_call 15
    refine (HDP.out _ HB5.out).mono ?_
    rintro r w6 ⟨s2, rfl, hs2, hb6⟩
    have HB6 := Lib.hid (HB5.out.trans (hb6.mono HB5.out.size))
    clear hb6 HDP HB5
    have hs2eq : (s2.toList == s2.toList) = true := beq_yes rfl
    obtain ⟨y, b2, HP1, HP2, HFY⟩ : ∃ (y : Ex) (b2 : Bool), Hid (∀ (W : World), Calls Try.prog 11 #[.string s2] W (ParsedPost b2 y W)) ∧ Hid (∀ (W : World), Calls Try.prog 16 #[.string s2] W (ParsedPost b2 y W)) ∧ Hid (b2 = true → exFmt y = s2 ∧ exTot y ≤ 1048576) :=
      ⟨(exParse s2).getD zeroEx, (exParse s2).isSome, Lib.hid (fun W => (HP.out s2 W (by omega)).mono fun _ _ h => parsed_of rfl rfl h), Lib.hid (fun W => (parse_any s2 W (by omega)).mono fun _ _ h => parsed_of rfl rfl h), Lib.hid (fun hh => by
        cases hp : exParse s2 with
        | none => rw [hp] at hh; cases hh
        | some z => exact ⟨parse_fmt hp, by have := valid_tot (parse_valid hp); show exTot z ≤ _; omega⟩)⟩
    clear HP hs2
    go_wp2_with fail
    go_at_call 11
    refine (HP1.out _).mono ?_
    rintro r w7 ⟨vy, by7, rfl, hsy, hb7⟩
    obtain ⟨uy, rfl, -, huy⟩ := id hsy
    obtain ⟨Ay, cy, rfl, -⟩ := id huy
    have hAl := (Below.refl w7.heap.size w7).alloc (Nat.le_refl _) (.cells #[.int .i64 y.kind, .string y.name, .slice Ay y.args.length cy] 26)
    have HB7 := Lib.hid ((HB6.out.trans (hb7.mono HB6.out.size)).trans (hAl.mono (by have := hb7.size; have := HB6.out.size; omega)))
    have HY7 := Lib.hid (show Bx (w7.alloc (.cells #[.int .i64 y.kind, .string y.name, .slice Ay y.args.length cy] 26)) w7.heap.size y.kind y.name (.slice Ay y.args.length cy) from heap_alloc_new _ _)
    have HS7 := Lib.hid (hsy.below hAl)
    clear hsy huy hb7 hAl HB6 HP1
    go_wp2_with fail
    go_at_call 16
    refine (HP2.out _).mono ?_
    rintro r w8 ⟨vz, bz, rfl, hsz, hb8⟩
    obtain ⟨uz, rfl, -, huz⟩ := id hsz
    obtain ⟨Az, cz, rfl, -⟩ := id huz
    have hAl := (Below.refl w8.heap.size w8).alloc (Nat.le_refl _) (.cells #[.int .i64 y.kind, .string y.name, .slice Az y.args.length cz] 26)
    have HB8 := Lib.hid ((HB7.out.trans (hb8.mono HB7.out.size)).trans (hAl.mono (by have := hb8.size; have := HB7.out.size; omega)))
    have HY8 := Lib.hid ((HY7.out.keep (Fr.of_below (S := []) hb8) (by simp)).keep (Fr.of_below (S := []) hAl) (by simp))
    have HS8 := Lib.hid ((HS7.out.below hb8).below hAl)
    clear hsz huz hb8 hAl HB7 HY7 HS7 HP2
    cases b2
    · go_wp2_with fail
      go_ret
      exact ⟨rfl, HB8.out⟩
    · obtain ⟨hfy, hty⟩ := HFY.out (by first | rfl | trivial)
      have HCF := Lib.hid (HF.out y _ by7 _ HS8.out hty)
      rw [hfy] at HCF
      obtain ⟨z0, z1, z2, -⟩ := HY8.out.cells
      clear hfy hty HFY
      go_wp2_with fail
      go_at_call 10
      refine HCF.out.mono ?_
      rintro r w10 ⟨rfl, hb10⟩
      have HB10 := Lib.hid (HB8.out.trans (hb10.mono HB8.out.size))
      clear hb10
      go_wp2_with fail
      go_ret
      exact ⟨rfl, HB10.out⟩
  · obtain rfl : x = e := HXE.out (by first | rfl | trivial)
    obtain ⟨x0, x1, x2, -⟩ := HX5.out.cells
    obtain ⟨y0, y1, y2, -⟩ := HG5.out.cells
    go_wp2_with fail
    go_at_call 14
    refine (HE.out x x _ _ bg b0 _ HQ5.out HS5.out HT.out HT.out (valid_small HVA.out)).mono ?_
    rintro r w9 ⟨rfl, hb9⟩
    rw [HEE.out]
    have HB5 := Lib.hid (HB5.out.trans (hb9.mono HB5.out.size))
    clear hb9 HXE HE HX5 HS5 HG5 HQ5 x0 x1 x2 y0 y1 y2
    clear HEE
    go_wp2_with fail
    go_at_call 15
    refine (HDP.out _ HB5.out).mono ?_
    rintro r w6 ⟨s2, rfl, hs2, hb6⟩
    have HB6 := Lib.hid (HB5.out.trans (hb6.mono HB5.out.size))
    clear hb6 HDP HB5
    have hs2eq : (s2.toList == s2.toList) = true := beq_yes rfl
    obtain ⟨y, b2, HP1, HP2, HFY⟩ : ∃ (y : Ex) (b2 : Bool), Hid (∀ (W : World), Calls Try.prog 11 #[.string s2] W (ParsedPost b2 y W)) ∧ Hid (∀ (W : World), Calls Try.prog 16 #[.string s2] W (ParsedPost b2 y W)) ∧ Hid (b2 = true → exFmt y = s2 ∧ exTot y ≤ 1048576) :=
      ⟨(exParse s2).getD zeroEx, (exParse s2).isSome, Lib.hid (fun W => (HP.out s2 W (by omega)).mono fun _ _ h => parsed_of rfl rfl h), Lib.hid (fun W => (parse_any s2 W (by omega)).mono fun _ _ h => parsed_of rfl rfl h), Lib.hid (fun hh => by
        cases hp : exParse s2 with
        | none => rw [hp] at hh; cases hh
        | some z => exact ⟨parse_fmt hp, by have := valid_tot (parse_valid hp); show exTot z ≤ _; omega⟩)⟩
    clear HP hs2
    go_wp2_with fail
    go_at_call 11
    refine (HP1.out _).mono ?_
    rintro r w7 ⟨vy, by7, rfl, hsy, hb7⟩
    obtain ⟨uy, rfl, -, huy⟩ := id hsy
    obtain ⟨Ay, cy, rfl, -⟩ := id huy
    have hAl := (Below.refl w7.heap.size w7).alloc (Nat.le_refl _) (.cells #[.int .i64 y.kind, .string y.name, .slice Ay y.args.length cy] 26)
    have HB7 := Lib.hid ((HB6.out.trans (hb7.mono HB6.out.size)).trans (hAl.mono (by have := hb7.size; have := HB6.out.size; omega)))
    have HY7 := Lib.hid (show Bx (w7.alloc (.cells #[.int .i64 y.kind, .string y.name, .slice Ay y.args.length cy] 26)) w7.heap.size y.kind y.name (.slice Ay y.args.length cy) from heap_alloc_new _ _)
    have HS7 := Lib.hid (hsy.below hAl)
    clear hsy huy hb7 hAl HB6 HP1
    go_wp2_with fail
    go_at_call 16
    refine (HP2.out _).mono ?_
    rintro r w8 ⟨vz, bz, rfl, hsz, hb8⟩
    obtain ⟨uz, rfl, -, huz⟩ := id hsz
    obtain ⟨Az, cz, rfl, -⟩ := id huz
    have hAl := (Below.refl w8.heap.size w8).alloc (Nat.le_refl _) (.cells #[.int .i64 y.kind, .string y.name, .slice Az y.args.length cz] 26)
    have HB8 := Lib.hid ((HB7.out.trans (hb8.mono HB7.out.size)).trans (hAl.mono (by have := hb8.size; have := HB7.out.size; omega)))
    have HY8 := Lib.hid ((HY7.out.keep (Fr.of_below (S := []) hb8) (by simp)).keep (Fr.of_below (S := []) hAl) (by simp))
    have HS8 := Lib.hid ((HS7.out.below hb8).below hAl)
    clear hsz huz hb8 hAl HB7 HY7 HS7 HP2
    cases b2
    · go_wp2_with fail
      go_ret
      exact ⟨rfl, HB8.out⟩
    · obtain ⟨hfy, hty⟩ := HFY.out (by first | rfl | trivial)
      have HCF := Lib.hid (HF.out y _ by7 _ HS8.out hty)
      rw [hfy] at HCF
      obtain ⟨z0, z1, z2, -⟩ := HY8.out.cells
      clear hfy hty HFY
      go_wp2_with fail
      go_at_call 10
      refine HCF.out.mono ?_
      rintro r w10 ⟨rfl, hb10⟩
      have HB10 := Lib.hid (HB8.out.trans (hb10.mono HB8.out.size))
      clear hb10
      go_wp2_with fail
      go_ret
      exact ⟨rfl, HB10.out⟩
end Go.Proofs.Ytliifdiajcahdaa

namespace Go.Proofs.Ytliifdiajcahdaa
open Go Go.ChangeShapes Go.WideShapes Go.ChangeAt Go.WideMaps Go.WideElems Go.RowKit

theorem ownT : ownKnob Try.prog.godebug = none := by kernel_rfl
theorem laidOutT : laidOutB Try.prog = true := by kernel_rfl
theorem cellsU8 : Try.prog.cellsOf 5 = 1 := by kernel_rfl
theorem u8_bounds {z : Int} (h : (Lit.int .u8 z).wf = true) : 0 ≤ z ∧ z ≤ 255 := by
  have e1 : IntKind.u8.min = 0 := rfl
  have e2 : IntKind.u8.max = 255 := rfl
  simp [Lit.wf, e1, e2] at h
  omega
/-- A code that was read as data, as the draws ask it. -/
theorem bytes_read {W : World} {a : Addr} {zs : List Int} (len : Nat) (hcell : ∀ i, i < zs.length → W.cell? (a.add i) = some (.int .u8 (zs.getD i 0))) (hw : ∀ z ∈ zs, (Lit.int .u8 z).wf = true) : Bytes W W.heap.size (some a) (zs.take len) := by
  intro i z hz
  rw [List.getElem?_take] at hz
  split at hz
  · have hi : i < zs.length := (List.getElem?_eq_some_iff.1 hz).1
    have h := hcell i hi
    have e : zs.getD i 0 = z := by rw [List.getD, hz]; rfl
    rw [e] at h
    have hb := u8_bounds (hw z (List.mem_of_getElem? hz))
    exact ⟨a, rfl, h, hb.1, hb.2, by have := World.block_lt_of_cell? W _ h; rw [block_add] at this; exact this⟩
  · cases hz
set_option maxHeartbeats 400000 in
theorem text_long (A : Option Addr) (n cap : Nat) (w : World) (h : 1048576 < (n : Int)) : Calls Try.prog 3 #[.slice A n cap] w (TrueT w) := by
  have HB := Lib.hid (bigT_yes A n cap w h)
  clear h
  go_enter Try.func3, Try.ntmps3
  go_wp2_with fail
  go_at_call 8
  refine HB.out.mono ?_
  rintro e w' ⟨rfl, rfl⟩
  go_wp2_with fail
  go_ret
  exact ⟨rfl, Below.refl _ _⟩
theorem text_walk (hF : OwnFormatExpr) (hP : OwnParseExpr) (hE : OwnEqualT) (A : Option Addr) (zs : List Int) (cap : Nat) (W : World) (hs : Bytes W W.heap.size A zs) : Calls Try.prog 3 #[.slice A zs.length cap] W (TrueT W) := by
  by_cases h : zs.length ≤ 1048576
  · exact law_text hF hP hE A zs cap W hs h
  · exact text_long A zs.length cap W (by omega)

set_option maxRecDepth 100000 in
theorem liftedText (hF : OwnFormatExpr) (hP : OwnParseExpr) (hE : OwnEqualT) (os : Os) (started : os.Started) (H : Type) (enc : TypeId × Value → H) :
    ReturnsInHanded {} Try.checked os 3 .any (Rows.fnExprTextSpec.pre6 enc Try.prog Try.f3 Rows.fnExprTextRow.domain false) (Rows.fnExprTextSpec.post enc Try.prog Try.f3 false true false false) := by
  refine returnsInHanded_of_change_sized (C := Try.checked) ownT started (by kernel_rfl) Try.func3
    (ChangeSpec.witness6 (enc := enc) (C := Try.checked) false ⟨#[], #[.slice none 0 0], []⟩ 8 (by kernel_rfl) (by kernel_rfl) (by kernel_rfl) (by kernel_rfl)) ?_
  intro W base args ds gs before hval0 hW _ hsz0 _
  clear hsz0
  have hval : ∀ (j : Nat) t v, Try.f3.params[j]? = some t → args[j]? = some v → Value.okWide Try.prog W .any base t v := hval0
  have hW' := hW
  obtain ⟨p, q, hA0, hV, rfl, _, _⟩ := hW
  have hA : DataW.TrodAll enc Try.prog W 0 (fun _ => true) true Try.f3.params.toList args.toList ds p := hA0
  rw [Try.params3] at hA hval
  obtain ⟨v0, d0, rfl, rfl, h0⟩ := trodAll_one hA
  obtain ⟨rfl, rfl⟩ := trodVars_none hV
  obtain ⟨a0, len, cap, rfl⟩ := okWide_slice Try.underlying22 (hval 0 22 v0 rfl rfl)
  have h0k := h0
  obtain ⟨fuel, hf⟩ := h0
  clear hA0 hval0
  simp only [List.append_nil] at hW'
  have hlt : ∀ x ∈ p, x.block < W.heap.size := fun x hx => by simpa using hW'.lt x hx
  have hargs : ∀ (W' : World), Below W.heap.size W W' → DataW.Trod enc Try.prog W' 0 (fun b => decide (b < W.heap.size)) true 22 (.slice a0 len cap) d0 p :=
    fun W' hn => Below.trod laidOutT (by kernel_rfl) (of_decide_eq_true (by kernel_rfl)) h0k hn hlt
  have fin : ∀ e W', TrueT W e W' → ∃ v, e = Ending.returned v ∧ Rows.fnExprTextSpec.post enc Try.checked.prog Try.f3 false true false false W #[.slice a0 len cap] v W' := by
    intro e W' ⟨he, hnx⟩
    subst he
    refine ⟨_, rfl, _, _, _, [], p, [], hW', ?_, ?_, rfl, hnx.frame _, fun h => by cases h⟩
    · exact trodAll_mk1 (shut_bool Try.underlying4 _)
    · exact trodAll_mk1 (hargs _ hnx)
  rcases open_ints Try.underlying22 Try.underlying5 cellsU8 hf with ⟨hcs, hx⟩ | ⟨a, len', cap', zs, hcs, _, hl, hmx, hz, hx, hcell, hwz⟩
  · simp [Value.cells] at hcs
    obtain ⟨rfl, rfl, rfl⟩ := hcs
    exact (text_walk hF hP hE none [] 0 W (fun i z hz => by simp at hz)).mono fin
  · simp [Value.cells] at hcs
    obtain ⟨rfl, rfl, rfl⟩ := hcs
    simp only [if_true] at hz
    have hzl : (zs.take len).length = len := by rw [List.length_take]; omega
    have h := text_walk hF hP hE (some a) (zs.take len) cap W (bytes_read len hcell hwz)
    rw [hzl] at h
    exact h.mono fin

/-- The law FnExprText. -/
theorem exprText_holds (hF : OwnFormatExpr) (hP : OwnParseExpr) (hE : OwnEqualT) : Rows.FnExprTextSaid :=
  OpenClaim.holds_of_wide 3 Try.f3 rfl rfl rfl rfl rfl rfl rfl ⟨rfl, rfl, rfl, rfl, rfl⟩ rfl rfl rfl rfl rfl (by kernel_rfl) Try.func3 (by kernel_rfl)
    (of_decide_eq_true (by kernel_rfl)) (by unfold Func.isWrapper; first | (rw [if_pos (by decide +kernel)]; kernel_rfl) | (rw [if_neg (by decide +kernel)]; exact ⟨rfl, rfl⟩))
    (fun os started H enc _ => liftedText hF hP hE os started H enc)
end Go.Proofs.Ytliifdiajcahdaa
