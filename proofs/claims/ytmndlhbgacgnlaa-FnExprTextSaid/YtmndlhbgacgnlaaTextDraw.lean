/- The contracts of the model's draws DrawFormatExpr and DrawParseExpr. Condition: the code is at most 1048576 bytes long. -/
import Derived.Test.YtmndlhbgacgnlaaExBent
import Derived.Test.YtmndlhbgacgnlaaSpecNode
import Derived.Deep.RegionHeld3
import Derived.Laws.Concat
namespace Go.Proofs.Ytmndlhbgacgnlaa
open Go Go.RowKit

theorem below_any (B g : Nat) (A : Option Addr) (zs : List Int) (cap : Nat) (lim : Int) (w : World) (hs : Bytes w B A zs) (hg : B ≤ g) (hc : Cur w g A zs.length cap) (hn : zs.length ≤ 1048576) (h0 : 1 ≤ lim) (h1 : lim ≤ 1000000000) :
    Calls Try.prog 56 #[.pointer (some ⟨g, 0, none⟩), .int .i64 lim] w (NumPost lim g A zs.length cap w) := by
  by_cases h : lim ≤ 256
  · exact below_small B g A zs cap lim w hs hg hc hn h0 h
  · exact below_large B g A zs cap lim w hs hg hc hn (by omega) h1
/-- A cursor, its bytes and a row of texts. -/
structure Cr (w : World) (B g b : Nat) (A : Option Addr) (zs : List Int) (cap : Nat) (ss : List ByteArray) (W : World) : Prop where
  only : Only g w W
  cur : Cur W g A zs.length cap
  bytes : Bytes W B A zs
  row : Row W b 9 (ss.map Value.string)
theorem Cr.go {w : World} {B g b : Nat} {A : Option Addr} {zs : List Int} {cap : Nat} {ss : List ByteArray} {W W2 : World} (h : Cr w B g b A zs cap ss W) (hg : B ≤ g) (hne : b ≠ g) (hc : Cur W2 g A zs.length cap) (ho : Only g W W2) : Cr w B g b A zs cap ss W2 :=
  ⟨h.only.trans ho, hc, h.bytes.only ho hg (Nat.le_trans hg (Nat.le_of_lt h.cur.lt)), h.row.only ho hne⟩
theorem Cr.drew {w : World} {B g b : Nat} {A : Option Addr} {zs : List Int} {cap : Nat} {ss : List ByteArray} {W : World} (h : Cr w B g b A zs cap ss W) : Cr w B g b A zs cap ss W.drew :=
  ⟨⟨h.only.os, h.only.tape, h.only.output, h.only.size, h.only.block⟩, h.cur, h.bytes, h.row⟩

def TurnedPost (g : Nat) (w : World) (e : Ending) (w' : World) : Prop := ∃ t : ByteArray, e = .returned (.string t) ∧ t.size ≤ 1200 ∧ Only g w w'
set_option maxHeartbeats 4000000 in
theorem turned_any (B g b : Nat) (A : Option Addr) (zs : List Int) (cap c2 : Nat) (ss : List ByteArray) (s : ByteArray) (w : World) (hs : Bytes w B A zs) (hg : B ≤ g) (hc : Cur w g A zs.length cap) (hn : zs.length ≤ 1048576) (hr : Row w b 9 (ss.map Value.string)) (hne : b ≠ g) (h0 : 1 ≤ ss.length) (h1 : ss.length ≤ 256)
    (hsz : s.size ≤ 1000) (hss : ∀ x ∈ ss, x.size ≤ 100) :
    Calls Try.prog 73 #[.pointer (some ⟨g, 0, none⟩), .string s, .slice (some ⟨b, 0, none⟩) ss.length c2] w (TurnedPost g w) := by
  have H0 := Lib.hid (show Cr w B g b A zs cap ss w from ⟨Only.refl _ _, hc, hs, hr⟩)
  have HBL := Lib.hid (fun (lim : Int) (W : World) (h : Cr w B g b A zs cap ss W) (h0 : 1 ≤ lim) (h1 : lim ≤ 1000000000) => below_any B g A zs cap lim W h.bytes hg h.cur hn h0 h1)
  have HPK := Lib.hid (fun (W : World) (h : Cr w B g b A zs cap ss W) => pick_any B g b A zs cap c2 ss W h.bytes hg h.cur hn h.row hne h0 h1)
  have HSS := Lib.hid hss
  have HGO := Lib.hid (And.intro hg hne)
  have hz0 : (s.size : Int) ≤ 1000 := by omega
  have hz1 : 0 ≤ (s.size : Int) := by omega
  have hw1 : IntKind.i64.wrap ((s.size : Int) + 1) = (s.size : Int) + 1 := IntWalk.i64_in _ (by omega)
  generalize ss.length = q at *
  clear hs hg hc hn hr hne hss
  go_enter Try.func73, Try.ntmps73
  go_wp2_with fail
  go_at_call 56
  refine (HBL.out _ w H0.out (by omega) (by omega)).mono ?_
  rintro r w1 ⟨x, rfl, x0, x1, hc1, ho1⟩
  have HC1 := Lib.hid (H0.out.go HGO.out.1 HGO.out.2 hc1 ho1)
  clear hc1 ho1 H0
  obtain ⟨j, rfl⟩ : ∃ j : Nat, x = (j : Int) := ⟨x.toNat, by omega⟩
  have hj : j ≤ s.size := by omega
  have hj1 : (j : Int) ≤ (s.size : Int) := by omega
  go_wp2_with fail
  go_at_call 56
  refine (HBL.out 6 w1 HC1.out (by omega) (by omega)).mono ?_
  rintro r w2 ⟨y, rfl, y0, y1, hc2, ho2⟩
  have HC2 := Lib.hid (HC1.out.go HGO.out.1 HGO.out.2 hc2 ho2)
  clear hc2 ho2 HC1 x0 x1
  by_cases hy0 : y = 0
  · subst hy0
    have hp1 : ((s.extract 0 j).size : Int) ≤ 1000 := by rw [ByteArray.size_extract]; omega
    have hp2 : ((s.extract j s.size).size : Int) ≤ 1000 := by rw [ByteArray.size_extract]; omega
    have HP := Lib.hid (And.intro hp1 hp2)
    have HCAT := Lib.hid (fun (p q : ByteArray) (h : p.size ≤ 2000) (h2 : q.size ≤ 2000) (W : World) => show (Op.stringOp .add p q).run Try.prog W = .ok (.string (p ++ q)) W from run_string_add_sum W p q (by omega))
    go_wp2_with fail
    go_region_held3 (fun X => Hid (Cr w B g b A zs cap ss X))
      (first | exact Lib.hid HC2.out.drew | exact Lib.hid ((‹Hid (Cr w B g b A zs cap ss _)›).out.go HGO.out.1 HGO.out.2 hc3 ho3))
      (first | (go_at_call 100; have hh := (‹Hid (Cr w B g b A zs cap ss _)›).out; refine (HPK.out _ hh).mono ?_; rintro r w3 ⟨x, hx, rfl, hc3, ho3⟩; have hxs : (x.size : Int) ≤ 100 := (by have := HSS.out x hx; omega); have hcat1 := HCAT.out (s.extract 0 j) x (by omega) (by omega); have hcat2 := HCAT.out (s.extract 0 j ++ x) (s.extract j s.size) (by rw [ByteArray.size_append]; omega) (by omega); clear hh))
    all_goals
      have HF := Lib.hid (‹Hid (Cr w B g b A zs cap ss w3)›).out.only
      have HT := Lib.hid (show (s.extract 0 j ++ x ++ s.extract j s.size).size ≤ 1200 by rw [ByteArray.size_append, ByteArray.size_append, ByteArray.size_extract, ByteArray.size_extract]; omega)
      clear hcat1 hcat2 hc3 ho3
      go_wp2_with fail
      go_ret
      exact ⟨_, rfl, HT.out, HF.out⟩
  · have hy0' : (y == 0) = false := by simpa using hy0
    by_cases hy1 : y = 1
    · subst hy1
      have HX := Lib.hid (show (s.extract 0 j).size ≤ 1200 by rw [ByteArray.size_extract]; omega)
      clear hy0
      go_wp2_with fail
      go_ret
      exact ⟨_, rfl, HX.out, HC2.out.only⟩
    · have hy1' : (y == 1) = false := by simpa using hy1
      clear hy0 hy1
      go_wp2_with fail
      go_ret
      exact ⟨_, rfl, by omega, HC2.out.only⟩

/-- What a draw of one expression gives. -/
def DrawTPost (w : World) (r : Ending) (w' : World) : Prop := ∃ v e bs, r = .returned v ∧ ExF w' v e bs ∧ exTot e ≤ 140 ∧ Below w.heap.size w w'
theorem Only.fr {g : Nat} {a b : World} (h : Only g a b) : Fr [g] a b := ⟨h.os, h.tape, h.output, h.size, fun k hk hn => h.block k hk (fun e => hn (by simp [Option.some.inj e]))⟩

theorem draw_end {w w2 W : World} {K : Int} {S : ByteArray} {u : Value} {e : Ex} {bs : List Nat} (hl : Below w.heap.size w w2) (hx : Bx w2 w.heap.size 0 ⟨#[]⟩ (.slice none 0 0)) (hi : ExF w2 (.agg #[.int .i64 K, .string S, u]) e bs) (hb : ∀ x ∈ bs, w.heap.size < x) (ht : exTot e ≤ 140)
    (hW : W = ((w2.setCell ⟨w.heap.size, 0, none⟩ (.int .i64 K)).setCell ⟨w.heap.size, 1, none⟩ (.string S)).setCell ⟨w.heap.size, 2, none⟩ u) :
    ∃ W2, W2 = W ∧ DrawTPost w (.returned (.agg #[.int .i64 K, .string S, u])) W2 ∧ Bx W2 w.heap.size K S u := by
  have hn : ∀ x ∈ bs, x ≠ w.heap.size := fun x hx e => by have := hb x hx; omega
  refine ⟨W, rfl, ⟨_, e, bs, rfl, ?_, ht, ?_⟩, ?_⟩
  · rw [hW]
    exact hi.keeps (keeps_on (keeps_on (keeps_set (fun x hx => hn x hx)) (keeps_set (fun x hx => hn x hx))) (keeps_set (fun x hx => hn x hx)))
  · rw [hW]
    exact ((hl.setCell (Nat.le_refl _) _).setCell (Nat.le_refl _) _).setCell (Nat.le_refl _) _
  · rw [hW]
    exact ((hx.set0 K).set1 _).set2 _

set_option maxHeartbeats 4000000 in
theorem draw_format (A : Option Addr) (zs : List Int) (cap : Nat) (w : World) (hs : Bytes w w.heap.size A zs) (hn : zs.length ≤ 1048576) :
    Calls Try.prog 28 #[.slice A zs.length cap] w (DrawTPost w) := by
  have HW0 := Lib.hid ((Below.refl w.heap.size w).alloc (Nat.le_refl _) (.cells #[.int .i64 0, .string ⟨#[]⟩, .slice none 0 0] 26))
  have HS := Lib.hid (show Bytes (w.alloc (.cells #[.int .i64 0, .string ⟨#[]⟩, .slice none 0 0] 26)) (w.heap.size + 1) A zs from fun i z hz => by
    obtain ⟨a, h1, h2, h3, h4, h5⟩ := (hs.below HW0.out) i z hz
    exact ⟨a, h1, h2, h3, h4, by omega⟩)
  have HX0 := Lib.hid (show Bx (w.alloc (.cells #[.int .i64 0, .string ⟨#[]⟩, .slice none 0 0] 26)) w.heap.size 0 ⟨#[]⟩ (.slice none 0 0) from heap_alloc_new _ _)
  have HNW := Lib.hid (new_any (w.heap.size + 1) A zs cap _ HS.out (by simp) hn)
  have HN := Lib.hid hn
  clear hs hn
  generalize hq : zs.length = q at *
  go_enter Try.func28, Try.ntmps28
  go_wp2_with fail
  go_at_call 53
  refine HNW.out.mono ?_
  rintro r w1 ⟨g, rfl, hc1, hg1, hb1⟩
  have hz1 : w.heap.size + 1 ≤ w1.heap.size := by have := hb1.size; simpa using this
  have HX1 := Lib.hid ((hb1.block w.heap.size (Nat.lt_succ_self _)).trans HX0.out)
  have HB1 := Lib.hid (HW0.out.trans (hb1.mono (Nat.le_succ _)))
  have HBT := Lib.hid (bent_sz (w.heap.size + 1) g A zs cap w1 (HS.out.below hb1) hg1 (by rw [hq]; exact hc1) (by rw [hq]; exact HN.out))
  rw [hq] at HBT
  clear hc1 hb1 hq HX0
  go_wp2_with fail
  go_at_call 54
  refine HBT.out.mono ?_
  rintro r w2 ⟨v, e, bs, rfl, his, hbs, htot, hc2, ho2⟩
  obtain ⟨u, rfl, -, hu⟩ := id his.1
  obtain ⟨A2, c2, rfl, -⟩ := id hu
  have hx2 := Bx.keep HX1.out ho2.fr (by simp; omega)
  obtain ⟨e0, e1, e2, hBw⟩ := hx2.cells
  have g0 := hx2.thaw 0
  have g1 := hx2.thaw 1
  have g2 := hx2.thaw 2
  have HX2 := Lib.hid hx2
  have HB2 := Lib.hid (HB1.out.trans (ho2.below (B := w.heap.size) (by omega) (by omega)))
  have HI2 := Lib.hid his
  have HBS := Lib.hid hbs
  have HT := Lib.hid htot.1
  clear hx2 his hu hbs htot hc2 ho2 HX1 HB1 HBT
  generalize hK : e.kind = K at *
  generalize hSn : e.name = S at *
  generalize e.args.length = p at *
  go_wp2_with fail
  obtain ⟨W2, hW2, hpost, hbx⟩ := draw_end HB2.out HX2.out HI2.out (fun x hx => by have := HBS.out x hx; omega) HT.out rfl
  rw [← hW2]
  obtain ⟨y0, y1, y2, -⟩ := hbx.cells
  refine bodyPost_ret (v := .agg #[.int .i64 K, .string S, .slice A2 p c2]) (by simp [results, Try.results28, go_sem, y0, y1, y2]) rfl ?_
  exact hpost

def texts8 : List ByteArray := [⟨#[40]⟩, ⟨#[41]⟩, ⟨#[44]⟩, ⟨#[120]⟩, ⟨#[83]⟩, ⟨#[33]⟩, ⟨#[32]⟩, ⟨#[102, 40, 41]⟩]
theorem texts8_size : ∀ x ∈ texts8, x.size ≤ 100 := by decide
def DrawSPost (w : World) (r : Ending) (w' : World) : Prop := ∃ t : ByteArray, r = .returned (.string t) ∧ t.size ≤ 1200 ∧ Below w.heap.size w w'
theorem fmt_size {e : Ex} (h : exTot e ≤ 140) : (exFmt e).size ≤ 1000 := by
  unfold exFmt
  split
  · have := (text_len (exSize e)).1 e (Nat.le_refl _)
    rw [str_size]; omega
  · decide

set_option maxHeartbeats 4000000 in
theorem draw_parse (A : Option Addr) (zs : List Int) (cap : Nat) (w : World) (hs : Bytes w w.heap.size A zs) (hn : zs.length ≤ 1048576) :
    Calls Try.prog 32 #[.slice A zs.length cap] w (DrawSPost w) := by
  have HS := Lib.hid hs
  have HNW := Lib.hid (new_any w.heap.size A zs cap w hs (Nat.le_refl _) hn)
  have HN := Lib.hid hn
  clear hs hn
  generalize hq : zs.length = q at *
  go_enter Try.func32, Try.ntmps32
  go_wp2_with fail
  go_at_call 53
  refine HNW.out.mono ?_
  rintro r w1 ⟨g, rfl, hc1, hg1, hb1⟩
  have HB1 := Lib.hid hb1
  have HBT := Lib.hid (bent_any w.heap.size g A zs cap w1 (HS.out.below hb1) hg1 (by rw [hq]; exact hc1) (by rw [hq]; exact HN.out))
  have hgl := hc1.lt
  rw [hq] at HBT
  clear hc1 hb1
  go_wp2_with fail
  go_at_call 54
  refine HBT.out.mono ?_
  rintro r w2 ⟨v, e, bs, rfl, his, hbs, htot, hc2, ho2⟩
  have HC2 := Lib.hid hc2
  have HS2 := Lib.hid ((HS.out.below HB1.out).only ho2 hg1 (Nat.le_trans hg1 (Nat.le_of_lt hgl)))
  have HB2 := Lib.hid (HB1.out.trans (ho2.below hg1 (by omega)))
  have HFM := Lib.hid (format_any e v bs w2 his (by omega))
  have HFS := Lib.hid (fmt_size htot)
  have hgl2 := hc2.lt
  clear his hbs htot hc2 ho2 HB1 HBT
  generalize exFmt e = t at *
  go_wp2_with fail
  go_at_call 31
  refine HFM.out.mono ?_
  rintro r w3 ⟨rfl, hb3⟩
  have hz3 := hb3.size
  have hcur3 : Cur w3 g A q cap := by
    obtain ⟨k, h, hk, hr⟩ := HC2.out
    exact ⟨k, h, hk, (hb3.block g hgl2).trans hr⟩
  have HB3 := Lib.hid (HB2.out.trans (hb3.mono HB2.out.size))
  have hrow : Row (w3.alloc (.cells (texts8.map Value.string).toArray 9)) w3.heap.size 9 (texts8.map Value.string) := Row.new w3 9 _
  have HT := Lib.hid (turned_any w.heap.size g w3.heap.size A zs cap 8 texts8 t (w3.alloc (.cells (texts8.map Value.string).toArray 9)) ((HS2.out.below (hb3.mono HB2.out.size)).alloc HB3.out.size _) hg1 (by rw [hq]; exact hcur3.alloc _) (by rw [hq]; exact HN.out) hrow (by omega) (by decide) (by decide) HFS.out texts8_size)
  have HB4 := Lib.hid (HB3.out.alloc HB3.out.size (.cells (texts8.map Value.string).toArray 9))
  have HL := Lib.hid (show w.heap.size ≤ (w3.alloc (.cells (texts8.map Value.string).toArray 9)).heap.size by have := HB3.out.size; simp; omega)
  clear hb3 hcur3 hrow HB2 HB3
  go_wp2_with fail
  go_at_call 73
  refine HT.out.mono ?_
  rintro r w5 ⟨t2, rfl, ht2, ho5⟩
  have HT2 := Lib.hid ht2
  have HB5 := Lib.hid (HB4.out.trans (ho5.below hg1 HL.out))
  clear ht2 ho5
  go_wp2_with fail
  go_ret
  exact ⟨_, rfl, HT2.out, HB5.out⟩
end Go.Proofs.Ytmndlhbgacgnlaa
