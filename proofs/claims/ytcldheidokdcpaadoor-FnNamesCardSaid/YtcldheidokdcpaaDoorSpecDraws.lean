/- The contracts of the model's draws of names and of lists of names. Condition: the code is at most 1048576 bytes long. -/
import Derived.Test.YtcldheidokdcpaaDoorSpecList
namespace Go.Proofs.YtcldheidokdcpaaDoor
open Go Go.RowKit

/-- A slice value that reads as the strings xs. -/
def Lst (w : World) (v : Value) (xs : List ByteArray) : Prop := ∃ A cap, v = .slice A xs.length cap ∧ Strs w A xs ∧ xs.length ≤ cap ∧ cap ≤ 9223372036854775807
theorem Lst.below {w w' : World} {v : Value} {xs : List ByteArray} (h : Lst w v xs) (hb : Below w.heap.size w w') : Lst w' v xs := by
  obtain ⟨A, cap, e, hs, h1, h2⟩ := h
  exact ⟨A, cap, e, hs.below hb, h1, h2⟩
theorem OwnsL.lst {B : Nat} {w : World} {v : Value} {xs : List ByteArray} (h : OwnsL B w v xs) : Lst w v xs := by
  rcases h.2 with ⟨rfl, h0⟩ | ⟨g, cap, cur, rfl, hb, -, h1, h2, -⟩
  · have : xs = [] := List.eq_nil_of_length_eq_zero h0
    subst this
    exact ⟨none, 0, rfl, fun i x hx => by simp at hx, Nat.le_refl _, by decide⟩
  · have hl := World.ownsRow.lt h g rfl
    exact ⟨_, cap, rfl, fun i x hx => ⟨_, rfl, World.ownsRow.cells h (g := g) rfl i _ (by rw [List.getElem?_map, hx]; rfl), hl.2⟩, h1, Nat.le_trans h2 (by decide)⟩
/-- What l2List may give. -/
def Few (out : List ByteArray) : Prop := out.length ≤ 5 ∧ ∀ x ∈ out, x.size ≤ 2
theorem few_of {out : List ByteArray} (h1 : out.length ≤ 5) (h2 : ∀ x ∈ out, x ∈ six) : Few out := ⟨h1, fun x hx => six_size x (h2 x hx)⟩
def DrawLSPost (w : World) (e : Ending) (w' : World) : Prop := ∃ v out x, e = .returned (.tuple #[v, .string x]) ∧ Lst w' v out ∧ Few out ∧ x.size ≤ 2 ∧ Below w.heap.size w w'
def DrawLLPost (w : World) (e : Ending) (w' : World) : Prop := ∃ v out v2 out2, e = .returned (.tuple #[v, v2]) ∧ Lst w' v out ∧ Few out ∧ Lst w' v2 out2 ∧ Few out2 ∧ Below w.heap.size w w'
def DrawLPost (w : World) (e : Ending) (w' : World) : Prop := ∃ v out, e = .returned v ∧ Lst w' v out ∧ Few out ∧ Below w.heap.size w w'
def DrawSPost (w : World) (e : Ending) (w' : World) : Prop := ∃ x, e = .returned (.string x) ∧ x.size ≤ 7 ∧ Below w.heap.size w w'

def draw_freshTexts : List ByteArray := [⟨#[118]⟩, ⟨#[102]⟩, ⟨#[]⟩]
theorem draw_freshTexts_size : ∀ x ∈ draw_freshTexts, x.size ≤ 2 := by decide
set_option maxHeartbeats 1000000 in
theorem draw_fresh (A : Option Addr) (zs : List Int) (cap : Nat) (w : World) (hs : Bytes w w.heap.size A zs) (hn : zs.length ≤ 1048576) :
    Calls Tryd.prog 6 #[.slice A zs.length cap] w (DrawLSPost w) := by
  have HA := Lib.hid (new_any w.heap.size A zs cap w hs (Nat.le_refl _) hn)
  go_enter Tryd.func6, Tryd.ntmps6
  go_wp2_with fail
  go_at_call 28
  refine HA.out.mono ?_
  rintro e w1 ⟨g, rfl, hc1, hg, hb1⟩
  have hs1 := hs.below hb1
  have hgl := hc1.lt
  have HG := Lib.hid hg
  have HB := Lib.hid hb1
  have HK := Lib.hid (list_any w.heap.size g A zs cap w1 hs1 hg hc1 hn)
  have HS1 := Lib.hid hs1
  clear hs hc1 hb1 hg hs1
  go_wp2_with fail
  go_at_call 29
  refine HK.out.mono ?_
  rintro e w2 ⟨v, out, rfl, hv, ho5, ho6, hc2, ho2⟩
  have hs2 := HS1.out.only ho2 HG.out HB.out.size
  have hgl2 := hc2.lt
  have HB2 := Lib.hid (HB.out.trans (ho2.below HG.out HB.out.size))
  have HV := Lib.hid hv
  have HF := Lib.hid (few_of ho5 ho6)
  have HK2 := Lib.hid (pick_any w.heap.size g w2.heap.size A zs cap 3 draw_freshTexts (w2.alloc (.cells (draw_freshTexts.map Value.string).toArray 9)) (hs2.alloc HB2.out.size _) HG.out (hc2.alloc _) hn (Row.new w2 9 _) (Nat.ne_of_gt hc2.lt) (by decide) (by decide))
  have HB3 := Lib.hid (HB2.out.alloc HB2.out.size (.cells (draw_freshTexts.map Value.string).toArray 9))
  have HV2 := Lib.hid (hv.lst.below ((Below.refl _ _).alloc (Nat.le_refl _) (.cells (draw_freshTexts.map Value.string).toArray 9)))
  have HV3 := Lib.hid (World.ownsRow.alloc hv (.cells (draw_freshTexts.map Value.string).toArray 9))
  clear hs2 hc2 ho2 ho5 ho6 hn hv HV2
  go_wp2_with fail
  go_at_call 30
  refine HK2.out.mono ?_
  rintro e w3 ⟨x, hx, rfl, hc3, ho3⟩
  have HX := Lib.hid (draw_freshTexts_size x hx)
  have HV4 := Lib.hid (OwnsL.lst (OwnsL.only HV3.out ho3 hgl))
  have HB4 := Lib.hid (HB3.out.trans (ho3.below HG.out HB3.out.size))
  clear hx hc3 ho3
  go_wp2
  go_ret2
  exact ⟨v, out, x, rfl, HV4.out, HF.out, HX.out, HB4.out⟩

def draw_indexTexts : List ByteArray := [⟨#[118, 49]⟩, ⟨#[120]⟩, ⟨#[113]⟩]
theorem draw_indexTexts_size : ∀ x ∈ draw_indexTexts, x.size ≤ 2 := by decide
set_option maxHeartbeats 1000000 in
theorem draw_index (A : Option Addr) (zs : List Int) (cap : Nat) (w : World) (hs : Bytes w w.heap.size A zs) (hn : zs.length ≤ 1048576) :
    Calls Tryd.prog 10 #[.slice A zs.length cap] w (DrawLSPost w) := by
  have HA := Lib.hid (new_any w.heap.size A zs cap w hs (Nat.le_refl _) hn)
  go_enter Tryd.func10, Tryd.ntmps10
  go_wp2_with fail
  go_at_call 28
  refine HA.out.mono ?_
  rintro e w1 ⟨g, rfl, hc1, hg, hb1⟩
  have hs1 := hs.below hb1
  have hgl := hc1.lt
  have HG := Lib.hid hg
  have HB := Lib.hid hb1
  have HK := Lib.hid (list_any w.heap.size g A zs cap w1 hs1 hg hc1 hn)
  have HS1 := Lib.hid hs1
  clear hs hc1 hb1 hg hs1
  go_wp2_with fail
  go_at_call 29
  refine HK.out.mono ?_
  rintro e w2 ⟨v, out, rfl, hv, ho5, ho6, hc2, ho2⟩
  have hs2 := HS1.out.only ho2 HG.out HB.out.size
  have hgl2 := hc2.lt
  have HB2 := Lib.hid (HB.out.trans (ho2.below HG.out HB.out.size))
  have HV := Lib.hid hv
  have HF := Lib.hid (few_of ho5 ho6)
  have HK2 := Lib.hid (pick_any w.heap.size g w2.heap.size A zs cap 3 draw_indexTexts (w2.alloc (.cells (draw_indexTexts.map Value.string).toArray 9)) (hs2.alloc HB2.out.size _) HG.out (hc2.alloc _) hn (Row.new w2 9 _) (Nat.ne_of_gt hc2.lt) (by decide) (by decide))
  have HB3 := Lib.hid (HB2.out.alloc HB2.out.size (.cells (draw_indexTexts.map Value.string).toArray 9))
  have HV2 := Lib.hid (hv.lst.below ((Below.refl _ _).alloc (Nat.le_refl _) (.cells (draw_indexTexts.map Value.string).toArray 9)))
  have HV3 := Lib.hid (World.ownsRow.alloc hv (.cells (draw_indexTexts.map Value.string).toArray 9))
  clear hs2 hc2 ho2 ho5 ho6 hn hv HV2
  go_wp2_with fail
  go_at_call 30
  refine HK2.out.mono ?_
  rintro e w3 ⟨x, hx, rfl, hc3, ho3⟩
  have HX := Lib.hid (draw_indexTexts_size x hx)
  have HV4 := Lib.hid (OwnsL.lst (OwnsL.only HV3.out ho3 hgl))
  have HB4 := Lib.hid (HB3.out.trans (ho3.below HG.out HB3.out.size))
  clear hx hc3 ho3
  go_wp2
  go_ret2
  exact ⟨v, out, x, rfl, HV4.out, HF.out, HX.out, HB4.out⟩

set_option maxHeartbeats 1000000 in
theorem draw_unite (A : Option Addr) (zs : List Int) (cap : Nat) (w : World) (hs : Bytes w w.heap.size A zs) (hn : zs.length ≤ 1048576) :
    Calls Tryd.prog 8 #[.slice A zs.length cap] w (DrawLLPost w) := by
  have HA := Lib.hid (new_any w.heap.size A zs cap w hs (Nat.le_refl _) hn)
  go_enter Tryd.func8, Tryd.ntmps8
  go_wp2_with fail
  go_at_call 28
  refine HA.out.mono ?_
  rintro e w1 ⟨g, rfl, hc1, hg, hb1⟩
  have hs1 := hs.below hb1
  have hgl := hc1.lt
  have HG := Lib.hid hg
  have HB := Lib.hid hb1
  have HK := Lib.hid (list_any w.heap.size g A zs cap w1 hs1 hg hc1 hn)
  have HS1 := Lib.hid hs1
  clear hs hc1 hb1 hg hs1
  go_wp2_with fail
  go_at_call 29
  refine HK.out.mono ?_
  rintro e w2 ⟨v, out, rfl, hv, ho5, ho6, hc2, ho2⟩
  have hs2 := HS1.out.only ho2 HG.out HB.out.size
  have hgl2 := hc2.lt
  have HB2 := Lib.hid (HB.out.trans (ho2.below HG.out HB.out.size))
  have HV := Lib.hid hv
  have HF := Lib.hid (few_of ho5 ho6)
  have HK2 := Lib.hid (list_any w.heap.size g A zs cap w2 hs2 HG.out hc2 hn)
  clear hs2 hc2 ho2 ho5 ho6 hn hv
  go_wp2_with fail
  go_at_call 29
  refine HK2.out.mono ?_
  rintro e w3 ⟨v2, out2, rfl, hv2, ho7, ho8, hc3, ho3⟩
  have HF2 := Lib.hid (few_of ho7 ho8)
  have HV4 := Lib.hid (OwnsL.lst (OwnsL.only HV.out ho3 hgl))
  have HV5 := Lib.hid hv2.lst
  have HB4 := Lib.hid (HB2.out.trans (ho3.below HG.out HB2.out.size))
  clear hc3 ho3 ho7 ho8 hv2
  go_wp2
  go_ret2
  exact ⟨v, out, v2, out2, rfl, HV4.out, HF.out, HV5.out, HF2.out, HB4.out⟩

set_option maxHeartbeats 1000000 in
theorem draw_distinct (A : Option Addr) (zs : List Int) (cap : Nat) (w : World) (hs : Bytes w w.heap.size A zs) (hn : zs.length ≤ 1048576) :
    Calls Tryd.prog 13 #[.slice A zs.length cap] w (DrawLPost w) := by
  have HA := Lib.hid (new_any w.heap.size A zs cap w hs (Nat.le_refl _) hn)
  go_enter Tryd.func13, Tryd.ntmps13
  go_wp2_with fail
  go_at_call 28
  refine HA.out.mono ?_
  rintro e w1 ⟨g, rfl, hc1, hg, hb1⟩
  have hs1 := hs.below hb1
  have hgl := hc1.lt
  have HG := Lib.hid hg
  have HB := Lib.hid hb1
  have HK := Lib.hid (list_any w.heap.size g A zs cap w1 hs1 hg hc1 hn)
  have HS1 := Lib.hid hs1
  clear hs hc1 hb1 hg hs1
  go_wp2_with fail
  go_at_call 29
  refine HK.out.mono ?_
  rintro e w2 ⟨v, out, rfl, hv, ho5, ho6, hc2, ho2⟩
  have hs2 := HS1.out.only ho2 HG.out HB.out.size
  have hgl2 := hc2.lt
  have HB2 := Lib.hid (HB.out.trans (ho2.below HG.out HB.out.size))
  have HV := Lib.hid hv
  have HF := Lib.hid (few_of ho5 ho6)
  clear hs2 hc2 ho2 ho5 ho6 hn hv
  go_wp2
  go_ret
  exact ⟨v, out, rfl, OwnsL.lst HV.out, HF.out, HB2.out⟩

def draw_isnameTexts : List ByteArray := [⟨#[97]⟩, ⟨#[120, 49]⟩, ⟨#[49, 120]⟩, ⟨#[65]⟩, ⟨#[97, 98, 99, 100, 101, 102]⟩, ⟨#[97, 98, 99, 100, 101, 102, 103]⟩, ⟨#[]⟩, ⟨#[97, 66]⟩, ⟨#[122, 57]⟩]
theorem draw_isnameTexts_size : ∀ x ∈ draw_isnameTexts, x.size ≤ 7 := by decide
set_option maxHeartbeats 1000000 in
theorem draw_isname (A : Option Addr) (zs : List Int) (cap : Nat) (w : World) (hs : Bytes w w.heap.size A zs) (hn : zs.length ≤ 1048576) :
    Calls Tryd.prog 11 #[.slice A zs.length cap] w (DrawSPost w) := by
  have HA := Lib.hid (new_any w.heap.size A zs cap w hs (Nat.le_refl _) hn)
  go_enter Tryd.func11, Tryd.ntmps11
  go_wp2_with fail
  go_at_call 28
  refine HA.out.mono ?_
  rintro e w1 ⟨g, rfl, hc1, hg, hb1⟩
  have hs1 := hs.below hb1
  have hgl := hc1.lt
  have HG := Lib.hid hg
  have HB := Lib.hid hb1
  have HK2 := Lib.hid (pick_any w.heap.size g w1.heap.size A zs cap 9 draw_isnameTexts (w1.alloc (.cells (draw_isnameTexts.map Value.string).toArray 9)) (hs1.alloc HB.out.size _) HG.out (hc1.alloc _) hn (Row.new w1 9 _) (Nat.ne_of_gt hc1.lt) (by decide) (by decide))
  have HB3 := Lib.hid (HB.out.alloc HB.out.size (.cells (draw_isnameTexts.map Value.string).toArray 9))
  clear hs hc1 hb1 hg hs1 hn
  go_wp2_with fail
  go_at_call 30
  refine HK2.out.mono ?_
  rintro e w3 ⟨x, hx, rfl, hc3, ho3⟩
  have HX := Lib.hid (draw_isnameTexts_size x hx)
  have HB4 := Lib.hid (HB3.out.trans (ho3.below HG.out HB3.out.size))
  clear hx hc3 ho3
  go_wp2
  go_ret
  exact ⟨x, rfl, HX.out, HB4.out⟩

def draw_isconTexts : List ByteArray := [⟨#[65]⟩, ⟨#[67, 111, 110, 115]⟩, ⟨#[99]⟩, ⟨#[65, 66, 99]⟩, ⟨#[65, 98, 99, 100, 101, 102]⟩, ⟨#[65, 98, 99, 100, 101, 102, 103]⟩, ⟨#[]⟩, ⟨#[90, 57]⟩, ⟨#[65, 45]⟩]
theorem draw_isconTexts_size : ∀ x ∈ draw_isconTexts, x.size ≤ 7 := by decide
set_option maxHeartbeats 1000000 in
theorem draw_iscon (A : Option Addr) (zs : List Int) (cap : Nat) (w : World) (hs : Bytes w w.heap.size A zs) (hn : zs.length ≤ 1048576) :
    Calls Tryd.prog 12 #[.slice A zs.length cap] w (DrawSPost w) := by
  have HA := Lib.hid (new_any w.heap.size A zs cap w hs (Nat.le_refl _) hn)
  go_enter Tryd.func12, Tryd.ntmps12
  go_wp2_with fail
  go_at_call 28
  refine HA.out.mono ?_
  rintro e w1 ⟨g, rfl, hc1, hg, hb1⟩
  have hs1 := hs.below hb1
  have hgl := hc1.lt
  have HG := Lib.hid hg
  have HB := Lib.hid hb1
  have HK2 := Lib.hid (pick_any w.heap.size g w1.heap.size A zs cap 9 draw_isconTexts (w1.alloc (.cells (draw_isconTexts.map Value.string).toArray 9)) (hs1.alloc HB.out.size _) HG.out (hc1.alloc _) hn (Row.new w1 9 _) (Nat.ne_of_gt hc1.lt) (by decide) (by decide))
  have HB3 := Lib.hid (HB.out.alloc HB.out.size (.cells (draw_isconTexts.map Value.string).toArray 9))
  clear hs hc1 hb1 hg hs1 hn
  go_wp2_with fail
  go_at_call 30
  refine HK2.out.mono ?_
  rintro e w3 ⟨x, hx, rfl, hc3, ho3⟩
  have HX := Lib.hid (draw_isconTexts_size x hx)
  have HB4 := Lib.hid (HB3.out.trans (ho3.below HG.out HB3.out.size))
  clear hx hc3 ho3
  go_wp2
  go_ret
  exact ⟨x, rfl, HX.out, HB4.out⟩

end Go.Proofs.YtcldheidokdcpaaDoor
