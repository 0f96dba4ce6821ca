/- The contracts of the draws that pick out of a list, and of the draws of integers, of texts and of what is split. Condition: the code is at most 1048576 bytes long. -/
import Derived.Test.YtlkfifnkdmmhnaaDoorDraw
import Derived.Test.YtlkfifnkdmmhnaaDoorWalkA
namespace Go.Proofs.YtlkfifnkdmmhnaaDoor
open Go Go.RowKit

theorem Cur.alloc {w : World} {g n cap : Nat} {A : Option Addr} (h : Cur w g A n cap) (o : Obj) : Cur (w.alloc o) g A n cap := by
  have hl := h.lt
  obtain ⟨k, x, hk, hr⟩ := h
  exact ⟨k, x, hk, (Below.heap_alloc w o g hl).trans hr⟩
theorem Bytes.alloc {w : World} {B : Nat} {A : Option Addr} {zs : List Int} (h : Bytes w B A zs) (hB : B ≤ w.heap.size) (o : Obj) : Bytes (w.alloc o) B A zs := h.below ((Below.refl B w).alloc hB o)
/-- Block b is a row of just these cells. -/
def Row (w : World) (b : Nat) (t : TypeId) (cs : List Value) : Prop := w.heap[b]? = some (.cells cs.toArray t (0, 0))
theorem Row.new (w : World) (t : TypeId) (cs : List Value) : Row (w.alloc (.cells cs.toArray t)) w.heap.size t cs := heap_alloc_new w _
theorem Row.lt {w : World} {b : Nat} {t : TypeId} {cs : List Value} (h : Row w b t cs) : b < w.heap.size := by
  rcases Nat.lt_or_ge b w.heap.size with h' | h'
  · exact h'
  · unfold Row at h; rw [Array.getElem?_eq_none h'] at h; cases h
theorem Row.only {w w' : World} {b g : Nat} {t : TypeId} {cs : List Value} (h : Row w b t cs) (ho : Only g w w') (hne : b ≠ g) : Row w' b t cs :=
  (ho.block b h.lt (fun e => hne (Option.some.inj e))).trans h
theorem Row.cell {w : World} {b : Nat} {t : TypeId} {cs : List Value} (h : Row w b t cs) (i : Nat) (v : Value) (hv : cs[i]? = some v) : w.cell? ⟨b, i, none⟩ = some v := by
  rw [cell_of_row w b i cs.toArray t (0, 0) h]; simpa using hv

def OncePost (g : Nat) (A : Option Addr) (n cap : Nat) (w : World) (e : Ending) (w' : World) : Prop :=
  ∃ x : Bool, e = .returned (.bool x) ∧ Cur w' g A n cap ∧ Only g w w'
set_option maxHeartbeats 1000000 in
theorem once_any (B g : Nat) (A : Option Addr) (zs : List Int) (cap : Nat) (lim : Int) (w : World) (hs : Bytes w B A zs) (hg : B ≤ g) (hc : Cur w g A zs.length cap) (hn : zs.length ≤ 1048576) (h0 : 1 ≤ lim) (h1 : lim ≤ 256) :
    Calls Tryd.prog 30 #[.pointer (some ⟨g, 0, none⟩), .int .i64 lim] w (OncePost g A zs.length cap w) := by
  have HA := Lib.hid (below_small B g A zs cap lim w hs hg hc hn h0 h1)
  clear hs hg hc hn h0 h1
  go_enter Tryd.func30, Tryd.ntmps30
  go_wp2_with (go_at_call 38; refine HA.out.mono ?_; rintro e w1 ⟨x, rfl, x0, x1, hc1, ho1⟩)
  go_ret
  exact ⟨x == 0, by simp, hc1, ho1⟩

def PickPost (ss : List ByteArray) (g : Nat) (A : Option Addr) (n cap : Nat) (w : World) (e : Ending) (w' : World) : Prop :=
  ∃ x, x ∈ ss ∧ e = .returned (.string x) ∧ Cur w' g A n cap ∧ Only g w w'
set_option maxHeartbeats 1000000 in
theorem pick_any (B g b : Nat) (A : Option Addr) (zs : List Int) (cap c2 : Nat) (ss : List ByteArray) (w : World) (hs : Bytes w B A zs) (hg : B ≤ g) (hc : Cur w g A zs.length cap) (hn : zs.length ≤ 1048576) (hr : Row w b 9 (ss.map Value.string)) (hne : b ≠ g) (h0 : 1 ≤ ss.length) (h1 : ss.length ≤ 256) :
    Calls Tryd.prog 31 #[.pointer (some ⟨g, 0, none⟩), .slice (some ⟨b, 0, none⟩) ss.length c2] w (PickPost ss g A zs.length cap w) := by
  have HA := Lib.hid (below_small B g A zs cap (ss.length : Int) w hs hg hc hn (by omega) (by omega))
  have HC := Lib.hid (fun (W : World) (ho : Only g w W) (j : Nat) (hj : j < ss.length) => (hr.only ho hne).cell j (.string ss[j]) (by rw [List.getElem?_map, List.getElem?_eq_getElem hj]; rfl))
  have hl : ss.length ≤ 9223372036854775807 := by omega
  clear hs hg hc hn hr hne
  go_enter Tryd.func31, Tryd.ntmps31
  go_wp2_with fail
  go_at_call 38
  refine HA.out.mono ?_
  rintro e w1 ⟨x, rfl, x0, x1, hc1, ho1⟩
  obtain ⟨j, rfl⟩ : ∃ j : Nat, x = (j : Int) := ⟨x.toNat, by omega⟩
  have hj : j < ss.length := by omega
  have hcell := HC.out w1 ho1 j hj
  go_wp2
  go_ret
  exact ⟨ss[j], List.getElem_mem hj, rfl, hc1, ho1⟩

def PickIntPost (zz : List Int) (g : Nat) (A : Option Addr) (n cap : Nat) (w : World) (e : Ending) (w' : World) : Prop :=
  ∃ x, x ∈ zz ∧ e = .returned (.int .i64 x) ∧ Cur w' g A n cap ∧ Only g w w'
set_option maxHeartbeats 1000000 in
theorem pickint_any (B g b : Nat) (A : Option Addr) (zs : List Int) (cap c2 : Nat) (zz : List Int) (w : World) (hs : Bytes w B A zs) (hg : B ≤ g) (hc : Cur w g A zs.length cap) (hn : zs.length ≤ 1048576) (hr : Row w b 3 (zz.map (Value.int .i64))) (hne : b ≠ g) (h0 : 1 ≤ zz.length) (h1 : zz.length ≤ 256) :
    Calls Tryd.prog 34 #[.pointer (some ⟨g, 0, none⟩), .slice (some ⟨b, 0, none⟩) zz.length c2] w (PickIntPost zz g A zs.length cap w) := by
  have HA := Lib.hid (below_small B g A zs cap (zz.length : Int) w hs hg hc hn (by omega) (by omega))
  have HC := Lib.hid (fun (W : World) (ho : Only g w W) (j : Nat) (hj : j < zz.length) => (hr.only ho hne).cell j (.int .i64 zz[j]) (by rw [List.getElem?_map, List.getElem?_eq_getElem hj]; rfl))
  have hl : zz.length ≤ 9223372036854775807 := by omega
  clear hs hg hc hn hr hne
  go_enter Tryd.func34, Tryd.ntmps34
  go_wp2_with fail
  go_at_call 38
  refine HA.out.mono ?_
  rintro e w1 ⟨x, rfl, x0, x1, hc1, ho1⟩
  obtain ⟨j, rfl⟩ : ∃ j : Nat, x = (j : Int) := ⟨x.toNat, by omega⟩
  have hj : j < zz.length := by omega
  have hcell := HC.out w1 ho1 j hj
  go_wp2
  go_ret
  exact ⟨zz[j], List.getElem_mem hj, rfl, hc1, ho1⟩

theorem Only.alloc {g : Nat} {a w : World} (h : Only g a w) (o : Obj) : Only g a (w.alloc o) :=
  ⟨h.os, h.tape, h.output, Nat.le_trans h.size (by simp), fun i hi hne => (Below.heap_alloc w o i (Nat.lt_of_lt_of_le hi h.size)).trans (h.block i hi hne)⟩
def wholeList : List Int := [0, 1, -1, 9, 10, 999999, 1000000, 999999999999, 1000000000000, -999999999999, 9223372036854775807, -9223372036854775808]
def IsI64 (n : Int) : Prop := -9223372036854775808 ≤ n ∧ n ≤ 9223372036854775807
theorem whole_list : ∀ x ∈ wholeList, IsI64 x := by
  intro x hx
  simp only [wholeList, List.mem_cons, List.mem_nil_iff, or_false] at hx
  unfold IsI64
  omega
def WholePost (g : Nat) (A : Option Addr) (n cap : Nat) (w : World) (e : Ending) (w' : World) : Prop :=
  ∃ x : Int, IsI64 x ∧ e = .returned (.int .i64 x) ∧ Cur w' g A n cap ∧ Only g w w'

set_option maxHeartbeats 1000000 in
theorem whole_any (B g : Nat) (A : Option Addr) (zs : List Int) (cap : Nat) (w : World) (hs : Bytes w B A zs) (hg : B ≤ g) (hc : Cur w g A zs.length cap) (hn : zs.length ≤ 1048576) :
    Calls Tryd.prog 25 #[.pointer (some ⟨g, 0, none⟩)] w (WholePost g A zs.length cap w) := by
  have hB : B ≤ w.heap.size := Nat.le_trans hg (Nat.le_of_lt hc.lt)
  have HA := Lib.hid (below_small B g A zs cap 3 w hs hg hc hn (by decide) (by decide))
  have HS := Lib.hid hs
  clear hs hc
  go_enter Tryd.func25, Tryd.ntmps25
  go_wp2_with fail
  go_at_call 38
  refine HA.out.mono ?_
  rintro e w1 ⟨x, rfl, x0, x1, hc1, ho1⟩
  have hs1 := HS.out.only ho1 hg hB
  have hB1 : B ≤ w1.heap.size := Nat.le_trans hB ho1.size
  have HO1 := Lib.hid ho1
  obtain rfl | rfl | rfl : x = 0 ∨ x = 1 ∨ x = 2 := by omega
  · have HP := Lib.hid (pickint_any B g w1.heap.size A zs cap 12 wholeList (w1.alloc (.cells (wholeList.map (Value.int .i64)).toArray 3)) (hs1.alloc hB1 _) hg (hc1.alloc _) hn (Row.new w1 3 _) (Nat.ne_of_gt hc1.lt) (by decide) (by decide))
    clear hs1 hB1 hc1 ho1 hg hB hn x0 x1
    go_wp2_with fail
    go_at_call 34
    refine HP.out.mono ?_
    rintro e w2 ⟨y, hy, rfl, hc2, ho2⟩
    go_wp2
    go_ret
    exact ⟨y, whole_list y hy, rfl, hc2, (HO1.out.alloc _).trans ho2⟩
  · have HP := Lib.hid (below_large B g A zs cap 1000000 w1 hs1 hg hc1 hn (by decide) (by decide))
    clear hs1 hB1 hc1 ho1 hg hB hn x0 x1
    go_wp2_with fail
    go_at_call 38
    refine HP.out.mono ?_
    rintro e w2 ⟨y, rfl, y0, y1, hc2, ho2⟩
    go_wp2
    go_ret
    exact ⟨y - 500000, by unfold IsI64; omega, rfl, hc2, HO1.out.trans ho2⟩
  · have HP := Lib.hid (below_small B g A zs cap 20 w1 hs1 hg hc1 hn (by decide) (by decide))
    clear hs1 hB1 hc1 ho1 hg hB hn x0 x1
    go_wp2_with fail
    go_at_call 38
    refine HP.out.mono ?_
    rintro e w2 ⟨y, rfl, y0, y1, hc2, ho2⟩
    go_wp2
    go_ret
    exact ⟨y, by unfold IsI64; omega, rfl, hc2, HO1.out.trans ho2⟩

/-- DrawFormatInt: some int. -/
def DrawIntPost (w : World) (e : Ending) (w' : World) : Prop := ∃ x : Int, IsI64 x ∧ e = .returned (.int .i64 x) ∧ Below w.heap.size w w'
set_option maxHeartbeats 1000000 in
theorem draw_int (A : Option Addr) (zs : List Int) (cap : Nat) (w : World) (hs : Bytes w w.heap.size A zs) (hn : zs.length ≤ 1048576) :
    Calls Tryd.prog 10 #[.slice A zs.length cap] w (DrawIntPost w) := by
  have HA := Lib.hid (new_any w.heap.size A zs cap w hs (Nat.le_refl _) hn)
  go_enter Tryd.func10, Tryd.ntmps10
  go_wp2_with fail
  go_at_call 26
  refine HA.out.mono ?_
  rintro e w1 ⟨g, rfl, hc1, hg, hb1⟩
  have HP := Lib.hid (whole_any w.heap.size g A zs cap w1 (hs.below hb1) hg hc1 hn)
  have HB := Lib.hid hb1
  have HG := Lib.hid hg
  clear hs hc1 hb1 hg
  go_wp2_with fail
  go_at_call 25
  refine HP.out.mono ?_
  rintro e w2 ⟨x, hx, rfl, hc2, ho2⟩
  have HX := Lib.hid hx
  clear hx
  go_wp2
  go_ret
  exact ⟨x, HX.out, rfl, HB.out.trans (ho2.below HG.out HB.out.size)⟩

def numTexts : List ByteArray := [⟨#[]⟩, ⟨#[48, 48]⟩, ⟨#[48, 49]⟩, ⟨#[45, 49]⟩, ⟨#[43, 49]⟩, ⟨#[120]⟩, ⟨#[57, 57, 57, 57, 57, 57]⟩, ⟨#[49, 48, 48, 48, 48, 48, 48]⟩, ⟨#[45, 48]⟩, ⟨#[45]⟩, ⟨#[32, 49]⟩, ⟨#[49, 32]⟩]
theorem numTexts_size : ∀ x ∈ numTexts, x.size ≤ 100 := by
  intro x hx
  simp only [numTexts, List.mem_cons, List.mem_nil_iff, or_false] at hx
  rcases hx with rfl | rfl | rfl | rfl | rfl | rfl | rfl | rfl | rfl | rfl | rfl | rfl <;> decide
theorem itoa_size (n : Int) (h : IsI64 n) : (⟨(Lib.itoa n).toArray⟩ : ByteArray).size ≤ 100 := by
  have h1 := Lib.itoa_length_le n h.1 h.2
  have e : (⟨(Lib.itoa n).toArray⟩ : ByteArray).size = (Lib.itoa n).length := by simp [ByteArray.size]
  omega
/-- DrawParseNumber: some text of at most 100 bytes. -/
def DrawTextPost (w : World) (e : Ending) (w' : World) : Prop := ∃ t : ByteArray, t.size ≤ 100 ∧ e = .returned (.string t) ∧ Below w.heap.size w w'
set_option maxHeartbeats 1000000 in
theorem draw_text (A : Option Addr) (zs : List Int) (cap : Nat) (w : World) (hs : Bytes w w.heap.size A zs) (hn : zs.length ≤ 1048576) :
    Calls Tryd.prog 14 #[.slice A zs.length cap] w (DrawTextPost w) := by
  have HA := Lib.hid (new_any w.heap.size A zs cap w hs (Nat.le_refl _) hn)
  go_enter Tryd.func14, Tryd.ntmps14
  go_wp2_with fail
  go_at_call 26
  refine HA.out.mono ?_
  rintro e w1 ⟨g, rfl, hc1, hg, hb1⟩
  have hs1 := hs.below hb1
  have HP := Lib.hid (once_any w.heap.size g A zs cap 2 w1 hs1 hg hc1 hn (by decide) (by decide))
  have HB := Lib.hid hb1
  have HG := Lib.hid hg
  have HS1 := Lib.hid hs1
  clear hs hc1 hb1 hg hs1
  go_wp2_with fail
  go_at_call 30
  refine HP.out.mono ?_
  rintro e w2 ⟨b, rfl, hc2, ho2⟩
  have hs2 := HS1.out.only ho2 HG.out HB.out.size
  have HB2 := Lib.hid (HB.out.trans (ho2.below HG.out HB.out.size))
  cases b
  · have HK := Lib.hid (pick_any w.heap.size g w2.heap.size A zs cap 12 numTexts (w2.alloc (.cells (numTexts.map Value.string).toArray 9)) (hs2.alloc HB2.out.size _) HG.out (hc2.alloc _) hn (Row.new w2 9 _) (Nat.ne_of_gt hc2.lt) (by decide) (by decide))
    have HB3 := Lib.hid (HB2.out.alloc HB2.out.size (.cells (numTexts.map Value.string).toArray 9))
    clear hs2 hc2 ho2 hn
    go_wp2_with fail
    go_at_call 31
    refine HK.out.mono ?_
    rintro e w3 ⟨t, ht, rfl, hc3, ho3⟩
    have HT := Lib.hid (numTexts_size t ht)
    clear ht
    go_wp2
    go_ret
    exact ⟨t, HT.out, rfl, HB3.out.trans (ho3.below HG.out HB3.out.size)⟩
  · have HW := Lib.hid (whole_any w.heap.size g A zs cap w2 hs2 HG.out hc2 hn)
    clear hs2 hc2 ho2 hn
    go_wp2_with fail
    go_at_call 25
    refine HW.out.mono ?_
    rintro e w3 ⟨x, hx, rfl, hc3, ho3⟩
    have HB3 := Lib.hid (HB2.out.trans (ho3.below HG.out HB2.out.size))
    have HX := Lib.hid hx
    clear hx hc3 ho3
    go_wp2_with fail
    go_at_call 13
    refine (spec_format x HX.out.1 HX.out.2 w3).mono ?_
    rintro e w4 ⟨rfl, hb4⟩
    go_wp2
    go_ret
    exact ⟨_, itoa_size x HX.out, rfl, HB3.out.trans (hb4.mono HB3.out.size)⟩

def splitTexts : List ByteArray := [⟨#[]⟩, ⟨#[97]⟩, ⟨#[97, 44, 98]⟩, ⟨#[44]⟩, ⟨#[97, 44, 44, 98, 44]⟩, ⟨#[97, 10, 98, 10]⟩]
theorem splitTexts_size : ∀ x ∈ splitTexts, x.size ≤ 100 := by
  intro x hx
  simp only [splitTexts, List.mem_cons, List.mem_nil_iff, or_false] at hx
  rcases hx with rfl | rfl | rfl | rfl | rfl | rfl <;> decide
/-- DrawSplitByte: some text of at most 100 bytes, and some byte. -/
def DrawSplitPost (w : World) (e : Ending) (w' : World) : Prop := ∃ (t : ByteArray) (c : Int), t.size ≤ 100 ∧ 0 ≤ c ∧ c ≤ 255 ∧ e = .returned (.tuple #[.string t, .int .u8 c]) ∧ Below w.heap.size w w'
set_option maxHeartbeats 1000000 in
theorem draw_split (A : Option Addr) (zs : List Int) (cap : Nat) (w : World) (hs : Bytes w w.heap.size A zs) (hn : zs.length ≤ 1048576) :
    Calls Tryd.prog 17 #[.slice A zs.length cap] w (DrawSplitPost w) := by
  have HA := Lib.hid (new_any w.heap.size A zs cap w hs (Nat.le_refl _) hn)
  go_enter Tryd.func17, Tryd.ntmps17
  go_wp2_with fail
  go_at_call 26
  refine HA.out.mono ?_
  rintro e w1 ⟨g, rfl, hc1, hg, hb1⟩
  have hs1 := hs.below hb1
  have HK := Lib.hid (pick_any w.heap.size g w1.heap.size A zs cap 6 splitTexts (w1.alloc (.cells (splitTexts.map Value.string).toArray 9)) (hs1.alloc hb1.size _) hg (hc1.alloc _) hn (Row.new w1 9 _) (Nat.ne_of_gt hc1.lt) (by decide) (by decide))
  have HB := Lib.hid (hb1.alloc hb1.size (.cells (splitTexts.map Value.string).toArray 9))
  have HS1 := Lib.hid (hs1.alloc hb1.size (.cells (splitTexts.map Value.string).toArray 9))
  have HG := Lib.hid hg
  clear hs hc1 hb1 hg hs1
  go_wp2_with fail
  go_at_call 31
  refine HK.out.mono ?_
  rintro e w2 ⟨t, ht, rfl, hc2, ho2⟩
  have HT := Lib.hid (splitTexts_size t ht)
  have hs2 := HS1.out.only ho2 HG.out HB.out.size
  have HB2 := Lib.hid (HB.out.trans (ho2.below HG.out HB.out.size))
  have HK2 := Lib.hid (pickint_any w.heap.size g w2.heap.size A zs cap 2 [44, 10] (w2.alloc (.cells (([44, 10] : List Int).map (Value.int .i64)).toArray 3)) (hs2.alloc HB2.out.size _) HG.out (hc2.alloc _) hn (Row.new w2 3 _) (Nat.ne_of_gt hc2.lt) (by decide) (by decide))
  have HB3 := Lib.hid (HB2.out.alloc HB2.out.size (.cells (([44, 10] : List Int).map (Value.int .i64)).toArray 3))
  clear hs2 hc2 ho2 ht hn
  go_wp2_with fail
  go_at_call 34
  refine HK2.out.mono ?_
  rintro e w3 ⟨c, hc, rfl, hc3, ho3⟩
  have hcb : 0 ≤ c ∧ c ≤ 255 := by
    simp only [List.mem_cons, List.mem_nil_iff, or_false] at hc
    omega
  obtain ⟨hc0, hc1⟩ := hcb
  clear hc
  go_wp2
  go_ret2
  exact ⟨t, c, HT.out, hc0, hc1, rfl, HB3.out.trans (ho3.below HG.out HB3.out.size)⟩
end Go.Proofs.YtlkfifnkdmmhnaaDoor
