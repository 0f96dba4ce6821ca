/- A part of the proof of the seat's statement: SpecL6Rule. Condition: as each says. -/
import Derived.Test.YtiaknfnhmoinpaaGreatParts
import Derived.Test.YtiaknfnhmoinpaaGreatSpecRuText
import Derived.Test.YtiaknfnhmoinpaaGreatRKids
set_option maxHeartbeats 8000000
namespace Go.Proofs.YtiaknfnhmoinpaaGreat
open Go Go.RowKit
def LinePost (line : ByteArray) (w : World) (e : Ending) (w2 : World) : Prop :=
 ∃ v r bs, e = .returned (.tuple #[v, .bool (readRu line).isSome]) ∧ RuS w2 v r bs ∧ Mine w2 w.heap.size bs ∧ Below w.heap.size w w2 ∧ ∀ r2, readRu line = some r2 → r = r2
theorem ext_left (line : ByteArray) (k : Nat) : line.extract 0 k = leftOf line k := by
 apply ByteArray.ext
 apply Array.toList_inj.1
 simp [leftOf, ByteArray.data_extract]
theorem ext_right (line : ByteArray) (k : Nat) : line.extract (k + 3) line.size = rightOf line k := by
 apply ByteArray.ext
 apply Array.toList_inj.1
 simp [rightOf, ByteArray.data_extract]
 exact List.take_of_length_le (by rw [List.length_drop, Array.length_toList]; exact nR _)
theorem ext_mid (line : ByteArray) (k : Nat) : (line.extract k (k + 3)).data.toList = (line.data.toList.drop k).take 3 := by
 simp [ByteArray.data_extract]
theorem eqFrom_at : ∀ (l : List UInt8) (k j : Nat), (l.drop j).take 3 = [32, 61, 32] → (∀ m, m < j → (l.drop m).take 3 ≠ [32, 61, 32]) → eqFrom l k = some (k + j) := by
 intro l
 induction l with
 | nil => intro k j h; simp at h
 | cons c t ih =>
  intro k j h hm
  rw [eqFrom]
  cases j with
  | zero => rw [if_pos (by simpa using h)]; rfl
  | succ j =>
   rw [if_neg (by simpa using hm 0 (by omega)), ih (k + 1) j (by simpa using h) (fun m hm2 => by simpa using hm (m + 1) (by omega))]
   congr 1; omega
theorem eqFrom_no : ∀ (l : List UInt8) (k : Nat), (∀ m, (l.drop m).take 3 ≠ [32, 61, 32]) → eqFrom l k = none := by
 intro l
 induction l with
 | nil => intro k _; rfl
 | cons c t ih =>
  intro k hm
  rw [eqFrom, if_neg (by simpa using hm 0), ih (k + 1) (fun m => by simpa using hm (m + 1))]
theorem short_no {l : List UInt8} {m : Nat} (h : l.length < m + 3) : (l.drop m).take 3 ≠ [32, 61, 32] := by
 intro e
 have := congrArg List.length e
 rw [List.length_take, List.length_drop] at this
 simp at this
 omega
theorem names_tot : ∀ L : List Ex, ssTot (L.map Ex.name) ≤ exTots L := by
 intro L
 induction L with
 | nil => simp [ssTot, totN]
 | cons a t ih =>
  obtain ⟨K, S, M⟩ := a
  unfold ssTot totN at *
  simp only [List.map_cons, lC, List.sum_cons, exTots, exTot]
  show _ + 1 + (S.size + _) ≤ _
  omega
theorem part_tot (h e : Ex) : ruTot (rulePart h e) ≤ exTot h + exTot e := by
 obtain ⟨K, S, L⟩ := h
 have h4 : (⟨#[]⟩ : ByteArray).size = 0 := rfl
 have h5 : ssTot [] = 0 := rfl
 cases L with
 | nil =>
  show S.size + ((⟨#[]⟩ : ByteArray).size + (ssTot [] + (ssTot [] + exTot e))) ≤ _
  simp only [exTot, exTots]
  omega
 | cons a t =>
  have h1 := names_tot t
  have h2 := names_tot (a :: t)
  obtain ⟨K2, S2, M⟩ := a
  have h3 := names_tot M
  by_cases hk : (Ex.mk K2 S2 M).kind = 2
  · have e1 : rulePart (.mk K S (.mk K2 S2 M :: t)) e = ⟨S, S2, M.map Ex.name, t.map Ex.name, e⟩ := if_pos hk
    rw [e1]
    show S.size + (S2.size + (ssTot (M.map Ex.name) + (ssTot (t.map Ex.name) + exTot e))) ≤ _
    simp only [exTot, exTots]
    omega
  have e1 : rulePart (.mk K S (.mk K2 S2 M :: t)) e = ⟨S, ⟨#[]⟩, [], (Ex.mk K2 S2 M :: t).map Ex.name, e⟩ := if_neg hk
  rw [e1]
  show S.size + ((⟨#[]⟩ : ByteArray).size + (ssTot [] + (ssTot ((Ex.mk K2 S2 M :: t).map Ex.name) + exTot e))) ≤ _
  simp only [exTot, exTots] at *
  omega
theorem mid_test (line : ByteArray) (k : Nat) : ((line.extract k (k + 3)).toList == [32, 61, 32]) = decide ((line.data.toList.drop k).take 3 = [32, 61, 32]) := by
 rw [ByteArray.toList_eq, ext_mid, Bool.eq_iff_iff]
 simp
def zeroRu : Ru := ⟨⟨#[]⟩, ⟨#[]⟩, [], [], zeroEx⟩
theorem zero_is (W : World) : RuS W (.agg #[.string ⟨#[]⟩, .string ⟨#[]⟩, .slice none 0 0, .slice none 0 0, .int .i64 0, .string ⟨#[]⟩, .slice none 0 0]) zeroRu [] :=
 ⟨_, _, _, [], [], [], rfl, by decide, by decide, rfl, ⟨none, 0, rfl, by simp [zeroRu], by decide, fun x hx => by simp [zeroRu] at hx, Or.inl ⟨rfl, rfl⟩⟩, ps_nil W, leaf_isN W (by decide)⟩
theorem read_no {line : ByteArray} (h : eqFrom line.data.toList 0 = none) : readRu line = none := by
 unfold readRu readWith; rw [h]
theorem line_none {line : ByteArray} {w W : World} (h : readRu line = none) (hb : Below w.heap.size w W) : LinePost line w (.returned (.tuple #[.agg #[.string ⟨#[]⟩, .string ⟨#[]⟩, .slice none 0 0, .slice none 0 0, .int .i64 0, .string ⟨#[]⟩, .slice none 0 0], .bool false])) W :=
 ⟨_, zeroRu, [], by rw [h]; rfl, zero_is W, Mine.nil _ _, hb, fun r2 e => by rw [h] at e; cases e⟩
theorem zero_back {w w2 : World} (o : Obj) (hx : Box7 w2 w.heap.size 34 (.string ⟨#[]⟩) (.string ⟨#[]⟩) (.slice none 0 0) (.slice none 0 0) (.int .i64 0) (.string ⟨#[]⟩) (.slice none 0 0)) (hl : Below w.heap.size w w2) (y0 y1 y2 y3 y4 y5 y6 : Value) :
 Box7 ((sev w2 w.heap.size 0 y0 y1 y2 y3 y4 y5 y6).alloc o) w.heap.size 34 y0 y1 y2 y3 y4 y5 y6 ∧ Below w.heap.size w ((sev w2 w.heap.size 0 y0 y1 y2 y3 y4 y5 y6).alloc o) := by
 refine ⟨(sev_box hx y0 y1 y2 y3 y4 y5 y6).keep (Fr.alloc (S := []) _ _) (by simp), ?_⟩
 have h1 : Below w.heap.size w2 (sev w2 w.heap.size 0 y0 y1 y2 y3 y4 y5 y6) := (sev_fr w2 w.heap.size 0 y0 y1 y2 y3 y4 y5 y6).below (by simp) hl.size
 exact (hl.trans h1).alloc ((hl.trans h1).size) _
theorem owns_ss {B : Nat} {w : World} {v : Value} {xs : List ByteArray} (h : OwnsL B w v xs) (hx : ∀ x ∈ xs, x.size ≤ 9223372036854775807) : ∃ bs, SsIs w v xs bs ∧ Mine w B bs := by
 have hc := fun (g : Nat) (e : v.ownBlock = some g) (j : Nat) (u : Value) (hu : (xs.map Value.string)[j]? = some u) => World.ownsRow.cells h (g := g) e j u hu
 have hf := fun (g : Nat) (e : v.ownBlock = some g) => h.lt g e
 rcases h.2 with ⟨rfl, h0⟩ | ⟨g, cap, cur, rfl, hb, hg, h1, h2, -⟩
 · obtain rfl : xs = [] := List.eq_nil_of_length_eq_zero h0
   exact ⟨[], ⟨_, _, rfl, nR _, by omega, hx, Or.inl ⟨rfl, rfl⟩⟩, Mine.nil _ _⟩
 have hlt : g < w.heap.size := (Array.getElem?_eq_some_iff.1 hg).1
 refine ⟨[g], ⟨_, _, rfl, h1, by unfold maxLen at h2; omega, hx, Or.inr ⟨g, 0, rfl, hlt, rfl, fun i x hi => ?_⟩⟩, ⟨by simp, fun x hx => ?_, fun x hx o => ?_⟩⟩
 · have h3 := hc g rfl i (.string x) (by rw [List.getElem?_map, hi]; rfl)
   rw [add_litRu] at h3
   exact h3
 · rw [List.mem_singleton] at hx; subst hx; exact ⟨hb, hlt⟩
 rw [List.mem_singleton] at hx; subst hx; exact World.ownsRow.frozenAt h o
theorem small_names {e : Ex} (h : exTot e ≤ 1048576) : ∀ x ∈ e.args.map Ex.name, x.size ≤ 9223372036854775807 := by
 intro x hx
 have h1 := names_tot e.args
 have h2 := tot_mem hx
 obtain ⟨K, S, L⟩ := e
 rw [exTot] at h
 unfold ssTot at h1
 have : exTots (Ex.mk K S L).args = exTots L := rfl
 omega
theorem exs_shift {w : World} {g o : Nat} : ∀ (l : List Ex) (j : Nat) (bs : List Nat), ExsAt w g o (j + 1) l bs → ExsAt w g (o + 3) j l bs := by
 intro l
 induction l with
 | nil => intro j bs h; rw [ExsAt] at h ⊢; exact h
 | cons e r ih =>
  intro j bs h
  rw [ExsAt] at h ⊢
  obtain ⟨b1, b2, rfl, h1, h2⟩ := h
  exact ⟨b1, b2, rfl, by rw [show o + 3 + j * 3 = o + (j + 1) * 3 by omega]; exact h1, ih (j + 1) b2 h2⟩
def Gw (w W X : World) : Prop := Fr [w.heap.size] W X ∧ ∃ y0 y1 y2 y3 y4 y5 y6, Box7 X w.heap.size 34 y0 y1 y2 y3 y4 y5 y6
theorem Gw.go {w W X Y : World} (h : Gw w W X) (hb : Below X.heap.size X Y) : Gw w W Y := by
 obtain ⟨h1, y0, y1, y2, y3, y4, y5, y6, h2⟩ := h
 exact ⟨h1.trans (Fr.of_below (S := [w.heap.size]) hb) (fun x hx => Or.inl hx), y0, y1, y2, y3, y4, y5, y6, h2.keep (Fr.of_below (S := []) hb) (by simp)⟩
theorem toList_ne {a b : ByteArray} (h : ¬ a = b) : (a.toList == b.toList) = false := by
 rw [beq_eq_false_iff_ne]
 intro e
 rw [ByteArray.toList_eq, ByteArray.toList_eq] at e
 exact h (ByteArray.ext (Array.toList_inj.1 e))
theorem sl_head {w : World} {A : Option Addr} {n c : Nat} {a : Ex} {t : List Ex} {bs : List Nat} (h : SlIs w (.slice A n c) (a :: t) bs) :
 ∃ g o Aa ca ba, A = some ⟨g, o, none⟩ ∧ g < w.heap.size ∧ n = t.length + 1 ∧ n ≤ c ∧ c ≤ 9223372036854775807 ∧ w.cell? ⟨g, o, none⟩ = some (.int .i64 a.kind) ∧ w.cell? ⟨g, o + 1, none⟩ = some (.string a.name) ∧ w.cell? ⟨g, o + 2, none⟩ = some (.slice Aa a.args.length ca) ∧ SlIs w (.slice Aa a.args.length ca) a.args ba ∧ a.name.size ≤ 9223372036854775807 := by
 obtain ⟨A9, c9, e9, h1, h2, h3⟩ := h
 simp only [Value.slice.injEq] at e9
 obtain ⟨rfl, e10, rfl⟩ := e9
 rcases h3 with ⟨h3, -⟩ | ⟨g, o, bs', rfl, hgl, rfl, hea⟩
 · cases h3
 rw [ExsAt] at hea
 obtain ⟨ba, bt, rfl, ha, ht⟩ := hea
 obtain ⟨ua, a0, a1, a2, u9, e11, hsz, h9⟩ := ha.is
 simp only [Value.agg.injEq, Array.mk.injEq, List.cons.injEq, and_true, true_and] at e11
 subst e11
 simp only [Nat.zero_mul, Nat.add_zero] at a0 a1 a2
 obtain ⟨Aa, ca, rfl, -⟩ := id h9
 exact ⟨g, o, Aa, ca, ba, rfl, hgl, e10, by rw [e10]; exact h1, h2, a0, a1, a2, h9, hsz⟩
theorem sl_rest {w : World} {g o n c : Nat} {a : Ex} {t : List Ex} {bs : List Nat} (h : SlIs w (.slice (some ⟨g, o, none⟩) n c) (a :: t) bs) : ∃ b', SlIs w (.slice (some ⟨g, o + 3, none⟩) (n - 1) (c - 1)) t b' := by
 obtain ⟨A9, c9, e9, h1, h2, h3⟩ := h
 simp only [Value.slice.injEq] at e9
 obtain ⟨rfl, e10, rfl⟩ := e9
 rcases h3 with ⟨h3, -⟩ | ⟨g', o', bs', e11, hgl, rfl, hea⟩
 · cases h3
 cases e11
 rw [ExsAt] at hea
 obtain ⟨ba, bt, rfl, ha, ht⟩ := hea
 rw [lC] at e10 h1
 refine ⟨g :: bt, some ⟨g, o + 3, none⟩, c - 1, by rw [e10]; rfl, by omega, by omega, Or.inr ⟨g, o + 3, bt, rfl, hgl, rfl, exs_shift t 0 bt ht⟩⟩
theorem tots_args (e : Ex) : exTots e.args ≤ exTot e := by
 obtain ⟨K, S, L⟩ := e
 rw [exTot]
 show exTots L ≤ _
 omega
theorem ss_nil (W : World) : SsIs W (.slice none 0 0) [] [] := ⟨none, 0, rfl, nR _, by decide, (fun x hx => by cases hx), Or.inl ⟨rfl, rfl⟩⟩
theorem mine_app {w : World} {B : Nat} {a b : List Nat} (ha : Mine w B a) (hb : Mine w B b) (hd : ∀ x ∈ a, x ∉ b) : Mine w B (a ++ b) := by
 refine ⟨?_, fun x hx => ?_, fun x hx => ?_⟩
 · rw [List.nodup_append]
   exact ⟨ha.nodup, hb.nodup, fun x hx y hy e => hd x hx (e ▸ hy)⟩
 · exact (List.mem_append.1 hx).elim (ha.range x) (hb.range x)
 exact (List.mem_append.1 hx).elim (ha.free x) (hb.free x)
theorem names_sl {w w2 : World} {A : Option Addr} {n c : Nat} {L : List Ex} {bs : List Nat} (h : SlIs w (.slice A n c) L bs) (hn : n ≤ 1048576) (hb : Below w.heap.size w w2) : Calls Tryz.prog 101 #[.slice A n c] w2 (StrsPost (L.map Ex.name) w2) :=
 l6names_any L A n c bs w2 (h.keeps (keeps_below hb bs)) hn
set_option maxRecDepth 100000 in
theorem l6rule_any (line : ByteArray) (w : World) (hs : line.size ≤ 1048576) : Calls Tryz.prog 89 #[.string line] w (LinePost line w) := by
 have HS := zH hs
 have hni : (line.size : Int) ≤ 1048576 := by omega
 clear hs
 go_enter Tryz.func89, Tryz.ntmps89
 go_wp2_with fail
 go_loop [4] (fun i => ∃ (k : Nat), k ≤ line.size ∧ i = .int .i64 (k : Int) ∧ Hid (∀ m, m < k → (line.data.toList.drop m).take 3 ≠ [32, 61, 32])) (fun i => line.size - (intOf i).toNat)
 case atStart => exact ⟨0, Nat.zero_le _, rfl, zH (fun m hm => by omega)⟩
 case round =>
  obtain ⟨k, hk, rfl, HK⟩ := hrel
  have hmt := mid_test line k
  by_cases h3 : k + 3 ≤ line.size
  · have h3i : (k : Int) + 3 ≤ (line.size : Int) := by omega
    have h3j : ¬ (line.size : Int) < (k : Int) + 3 := by omega
    by_cases heq : (line.data.toList.drop k).take 3 = [32, 61, 32]
    · rw [decide_eq_true heq] at hmt
      have HEQ := zH heq
      have hrd : readRu line = (match exParse (leftOf line k), exParse (rightOf line k) with
       | some h, some e => if (decide (h.kind = 3) && headOk (rulePart h e)) = true ∧ ruStr (rulePart h e) = line then some (rulePart h e) else none
       | _, _ => none) := by
       unfold readRu readWith
       rw [eqFrom_at _ 0 k heq HK.out, Nat.zero_add]
       rfl
      have HRD := zH hrd
      obtain ⟨W0, hW0⟩ : ∃ W0, W0 = w.alloc (.cells #[.string ⟨#[]⟩, .string ⟨#[]⟩, .slice none 0 0, .slice none 0 0, .int .i64 0, .string ⟨#[]⟩, .slice none 0 0] 34) := ⟨_, rfl⟩
      have hl0 : Below w.heap.size w W0 := by rw [hW0]; exact (wB _ _).alloc (nR _) _
      have hx0 : Box7 W0 w.heap.size 34 (.string ⟨#[]⟩) (.string ⟨#[]⟩) (.slice none 0 0) (.slice none 0 0) (.int .i64 0) (.string ⟨#[]⟩) (.slice none 0 0) := by rw [hW0]; exact heap_alloc_new w _
      have HL0 := zH hl0
      have HX0 := zH hx0
      have HW0 := zH hW0
      have HP1 := zH (parse_any (line.extract 0 k) W0 (by have := HS.out; rw [ByteArray.size_extract]; omega))
      have HP2 := zH (fun (W : World) => parse_any (line.extract (k + 3) line.size) W (by have := HS.out; rw [ByteArray.size_extract]; omega))
      rw [ext_left] at HP1
      rw [ext_right] at HP2
      have hxl := ext_left line k
      have hxr := ext_right line k
      generalize leftOf line k = sl at *
      generalize rightOf line k = sr at *
      have HXL := zH hxl
      have HXR := zH hxr
      clear heq hrd hW0 hl0 hx0 hxl hxr
      go_wp2_with fail
      rw [← HW0.out]
      go_at_call 100
      rw [HXL.out]
      refine HP1.out.mono ?_
      rintro e w1 ⟨v1, b1, rfl, hi1, hm1, hb1⟩
      obtain ⟨u1, rfl, -, hu1⟩ := id hi1
      obtain ⟨A1, c1, rfl, hc11, hc12, -⟩ := id hu1
      have HI1 := zH hi1
      have HB1 := zH (hb1 : Below W0.heap.size W0 w1)
      obtain ⟨E1, hE1⟩ : ∃ E1, E1 = (exParse sl).getD zeroEx := ⟨_, rfl⟩
      rw [← hE1] at HI1 hc11 ⊢
      have HE1 := zH hE1
      clear hi1 hm1 hb1 hu1 hE1
      go_wp2_with fail
      go_at_call 100
      rw [HXR.out]
      refine (HP2.out _).mono ?_
      rintro e w2 ⟨v2, b2, rfl, hi2, hm2, hb2⟩
      obtain ⟨u2, rfl, -, hu2⟩ := id hi2
      obtain ⟨A2, c2, rfl, hc21, hc22, -⟩ := id hu2
      have HI2 := zH hi2
      have HM2 := zH hm2
      have HB2 := zH hb2
      obtain ⟨E2, hE2⟩ : ∃ E2, E2 = (exParse sr).getD zeroEx := ⟨_, rfl⟩
      rw [← hE2] at HI2 hc21 ⊢
      have HE2 := zH hE2
      have HBX := zH (fun (W : World) (hW : Below w2.heap.size w2 W) => show W.cell? ⟨w1.heap.size, 0, none⟩ = some (.int .i64 E1.kind) ∧ W.cell? ⟨w1.heap.size, 1, none⟩ = some (.string E1.name) ∧ W.cell? ⟨w1.heap.size, 2, none⟩ = some (.slice A1 E1.args.length c1) from by
       have h9 : W.heap[w1.heap.size]? = some (.cells #[.int .i64 E1.kind, .string E1.name, .slice A1 E1.args.length c1] 32 (0, 0)) := (hW.block _ (by have := hb2.size; simp at this; omega)).trans ((hb2.block _ (by simp)).trans (heap_alloc_new w1 _))
       exact ⟨by simp [World.cell?, h9], by simp [World.cell?, h9], by simp [World.cell?, h9]⟩)
      have hl2 : Below w.heap.size w w2 := HL0.out.trans ((HB1.out.trans (((wB _ w1).alloc (nR _) (.cells #[.int .i64 E1.kind, .string E1.name, .slice A1 E1.args.length c1] 32) |>.trans (hb2.mono (by simp))).mono HB1.out.size)).mono HL0.out.size)
      have HL2 := zH hl2
      have HX2 := zH (show Box7 w2 w.heap.size 34 (.string ⟨#[]⟩) (.string ⟨#[]⟩) (.slice none 0 0) (.slice none 0 0) (.int .i64 0) (.string ⟨#[]⟩) (.slice none 0 0) from by
       have h8 := HX0.out.lt
       exact (hb2.block _ (by have := HB1.out.size; simp; omega)).trans (((Below.heap_alloc w1 _ _ (by have := HB1.out.size; omega)).trans (HB1.out.block _ h8)).trans HX0.out))
      have hql : w1.heap.size < w2.heap.size := by have := hb2.size; simp at this; omega
      have HI1B := zH (show ExIs w2 (.agg #[.int .i64 E1.kind, .string E1.name, .slice A1 E1.args.length c1]) E1 b1 from (HI1.out.below ((wB _ w1).alloc (nR _) _)).below hb2)
      clear hi2 hm2 hb2 hu2 hE2 hl2
      obtain ⟨q0, q1, q2⟩ := HBX.out w2 (wB _ _)
      obtain ⟨j0, j1, j2, j3, j4, j5, j6⟩ := HX2.out.cells
      have f0 := HX2.out.thaw 0
      have f1 := HX2.out.thaw 1
      have f2 := HX2.out.thaw 2
      have f3 := HX2.out.thaw 3
      have f4 := HX2.out.thaw 4
      have f5 := HX2.out.thaw 5
      have f6 := HX2.out.thaw 6
      have hwl : w.heap.size < w2.heap.size := HX2.out.lt
      rcases hp1 : exParse sl with _ | e1
      · have HN := zH (show readRu line = none by rw [HRD.out, hp1])
        clear hp1
        go_wp2_with fail
        obtain ⟨hbx, hbl⟩ := zero_back (.cells #[.int .i64 E2.kind, .string E2.name, .slice A2 E2.args.length c2] 32) HX2.out HL2.out (.string ⟨#[]⟩) (.string ⟨#[]⟩) (.slice none 0 0) (.slice none 0 0) (.int .i64 0) (.string ⟨#[]⟩) (.slice none 0 0)
        obtain ⟨Wf, hWf⟩ : ∃ W, W = (sev w2 w.heap.size 0 (.string ⟨#[]⟩) (.string ⟨#[]⟩) (.slice none 0 0) (.slice none 0 0) (.int .i64 0) (.string ⟨#[]⟩) (.slice none 0 0)).alloc (.cells #[.int .i64 E2.kind, .string E2.name, .slice A2 E2.args.length c2] 32) := ⟨_, rfl⟩
        rw [← hWf] at hbx hbl
        unfold sev at hWf
        simp only [Nat.zero_add] at hWf
        rw [← hWf]
        obtain ⟨k0, k1, k2, k3, k4, k5, k6⟩ := hbx.cells
        refine bP (v := .tuple #[.agg #[.string ⟨#[]⟩, .string ⟨#[]⟩, .slice none 0 0, .slice none 0 0, .int .i64 0, .string ⟨#[]⟩, .slice none 0 0], .bool false]) (by simp [results, Tryz.results89, go_sem, k0, k1, k2, k3, k4, k5, k6]) rfl ?_
        exact line_none HN.out hbl
      rcases hp2 : exParse sr with _ | e2
      · have HN := zH (show readRu line = none by rw [HRD.out, hp1, hp2])
        clear hp1 hp2
        go_wp2_with fail
        obtain ⟨hbx, hbl⟩ := zero_back (.cells #[.int .i64 E2.kind, .string E2.name, .slice A2 E2.args.length c2] 32) HX2.out HL2.out (.string ⟨#[]⟩) (.string ⟨#[]⟩) (.slice none 0 0) (.slice none 0 0) (.int .i64 0) (.string ⟨#[]⟩) (.slice none 0 0)
        obtain ⟨Wf, hWf⟩ : ∃ W, W = (sev w2 w.heap.size 0 (.string ⟨#[]⟩) (.string ⟨#[]⟩) (.slice none 0 0) (.slice none 0 0) (.int .i64 0) (.string ⟨#[]⟩) (.slice none 0 0)).alloc (.cells #[.int .i64 E2.kind, .string E2.name, .slice A2 E2.args.length c2] 32) := ⟨_, rfl⟩
        rw [← hWf] at hbx hbl
        unfold sev at hWf
        simp only [Nat.zero_add] at hWf
        rw [← hWf]
        obtain ⟨k0, k1, k2, k3, k4, k5, k6⟩ := hbx.cells
        refine bP (v := .tuple #[.agg #[.string ⟨#[]⟩, .string ⟨#[]⟩, .slice none 0 0, .slice none 0 0, .int .i64 0, .string ⟨#[]⟩, .slice none 0 0], .bool false]) (by simp [results, Tryz.results89, go_sem, k0, k1, k2, k3, k4, k5, k6]) rfl ?_
        exact line_none HN.out hbl
      obtain rfl : E1 = e1 := by rw [HE1.out, hp1]; rfl
      obtain rfl : E2 = e2 := by rw [HE2.out, hp2]; rfl
      rw [hp1, hp2] at HRD
      by_cases hk3 : E1.kind = 3
      · rw [hk3] at q0
        have hv1 := (parse_some hp1).1
        have ht1 := valid_tot hv1
        have ht2 := valid_tot (parse_some hp2).1
        obtain ⟨r, hr⟩ : ∃ r, r = rulePart E1 E2 := ⟨_, rfl⟩
        have HRD2 := zH (show readRu line = if headOk r = true ∧ ruStr r = line then some r else none by rw [HRD.out]; show (if (decide (E1.kind = 3) && headOk (rulePart E1 E2)) = true ∧ ruStr (rulePart E1 E2) = line then some (rulePart E1 E2) else none) = _; rw [← hr]; simp [hk3])
        have HRT := zH (show ruTot r ≤ 1048576 by have := part_tot E1 E2; rw [← hr] at this; omega)
        have HSN := zH (small_names (e := E1) (by omega))
        obtain ⟨n1, hn1⟩ : ∃ n, n = E1.args.length := ⟨_, rfl⟩
        have hn1s : n1 ≤ 1048576 := by have h8 := tots_ge E1.args; have h9 := tots_args E1; omega
        have hsl1 : SlIs w2 (.slice A1 E1.args.length c1) E1.args b1 := by
         obtain ⟨u9, e9, -, h9⟩ := HI1B.out
         simp only [Value.agg.injEq, Array.mk.injEq, List.cons.injEq, and_true, true_and] at e9
         rw [e9]; exact h9
        rw [← hn1] at q2 ⊢
        clear hp1 hp2 hv1
        rcases hargs : E1.args with _ | ⟨a, t⟩
        · have HR := zH (show r = ⟨E1.name, ⟨#[]⟩, [], [], E2⟩ by rw [hr]; unfold rulePart; rw [hargs])
          obtain rfl : n1 = 0 := by rw [hn1, hargs]; rfl
          clear hr hn1 hargs hsl1
          obtain ⟨W3, hW3⟩ : ∃ W3, W3 = (w2.alloc (.cells #[.int .i64 E2.kind, .string E2.name, .slice A2 E2.args.length c2] 32)).alloc (.cells #[.string E1.name, .string ⟨#[]⟩, .slice none 0 0, .slice none 0 0, .int .i64 E2.kind, .string E2.name, .slice A2 E2.args.length c2] 34) := ⟨_, rfl⟩
          have hb3 : Below w2.heap.size w2 W3 := by rw [hW3]; exact ((wB _ w2).alloc (nR _) _).alloc (by simp) _
          have hx3 : Box7 W3 (w2.heap.size + 1) 34 (.string E1.name) (.string ⟨#[]⟩) (.slice none 0 0) (.slice none 0 0) (.int .i64 E2.kind) (.string E2.name) (.slice A2 E2.args.length c2) := by
           rw [hW3]
           have h := box7_new (w := w2.alloc (.cells #[.int .i64 E2.kind, .string E2.name, .slice A2 E2.args.length c2] 32)) (T := 34) (x0 := .string E1.name) (x1 := .string ⟨#[]⟩) (x2 := .slice none 0 0) (x3 := .slice none 0 0) (x4 := .int .i64 E2.kind) (x5 := .string E2.name) (x6 := .slice A2 E2.args.length c2) (wB _ _)
           simp only [World.size_alloc] at h
           exact h
          have HB3 := zH hb3
          have HX3 := zH hx3
          have HW3 := zH hW3
          have HCA := zH (l6names_any [] A1 0 c1 [] W3 ⟨A1, c1, rfl, Nat.zero_le _, hc12, Or.inl ⟨rfl, rfl⟩⟩ (by omega))
          clear hb3 hx3 hW3
          go_wp2_with (go_at_call 101; rw [← HW3.out]; refine HCA.out.mono ?_; rintro e w4 ⟨v4, rfl, ho4, hb4⟩; obtain ⟨A4, c4, rfl, -⟩ := ho4.shape; have HO4 := zH ho4; have HB4 := zH hb4; have HX4 := zH (HX3.out.keep (Fr.of_below (S := []) hb4) (by simp)); obtain ⟨y0, y1, y2, y3, y4, y5, y6⟩ := HX4.out.cells; have z3 := HX4.out.thaw 3; clear ho4 hb4)
          obtain ⟨W, hW⟩ : ∃ W, W = w4.setCell ⟨w2.heap.size + 1, 3, none⟩ (.slice A4 0 c4) := ⟨_, rfl⟩
          have hf4 : Fr [w2.heap.size + 1] w2 W := by rw [hW]; exact (Fr.of_below (HB3.out.trans (HB4.out.mono HB3.out.size))).trans (Fr.set (S := [w2.heap.size + 1]) w4 ⟨w2.heap.size + 1, 3, none⟩ (.slice A4 0 c4) (by simp)) (by simp)
          obtain ⟨d4, hd4, hm4⟩ := owns_ps HO4.out (fun x hx => by cases hx)
          have hg4 : ∀ x ∈ d4, w2.heap.size + 1 < x := fun x hx => by have := (hm4.range x hx).1; have := HX3.out.lt; omega
          have hk4 : Keeps w4 W d4 := by rw [hW]; exact keeps_set (fun x hx => by have := hg4 x hx; show x ≠ w2.heap.size + 1; omega)
          have hr2 : ∀ x ∈ b2, w1.heap.size ≤ x ∧ x < w2.heap.size := fun x hx => by have := HM2.out.range x hx; simp at this; omega
          have hk2 : Keeps w2 W b2 := fr_keeps hf4 (fun x hx => by have := hr2 x hx; simp; omega)
          have hw1 : w.heap.size < w1.heap.size := nL HX0.out.lt HB1.out.size
          have hmi : Mine W (w.heap.size + 1) (d4 ++ b2) := mine_app ((hm4.keeps hk4).mono (by have := HX3.out.lt; omega)) ((HM2.out.keeps hk2).mono (by simp; omega)) (fun x hx hx2 => by have := hg4 x hx; have := hr2 x hx2; omega)
          have hri : RuS W (.agg #[.string E1.name, .string ⟨#[]⟩, .slice none 0 0, .slice A4 0 c4, .int .i64 E2.kind, .string E2.name, .slice A2 E2.args.length c2]) r (d4 ++ b2) := by
           rw [HR.out]
           exact ⟨_, _, _, [], d4, b2, rfl, HI1B.out.choose_spec.2.1, Nat.zero_le _, rfl, ss_nil W, hd4.keeps hk4, HI2.out.keeps hk2⟩
          have hlo : Below w.heap.size w W := HL2.out.trans (hf4.below (by simp; omega) HL2.out.size)
          have hxb := HX2.out.keep hf4 (by simp; omega)
          have hxr : Box7 W (w2.heap.size + 1) 34 (.string E1.name) (.string ⟨#[]⟩) (.slice none 0 0) (.slice A4 0 c4) (.int .i64 E2.kind) (.string E2.name) (.slice A2 E2.args.length c2) := by rw [hW]; exact HX4.out.set3 _
          rw [← hW]
          have HW := zH hW
          generalize hbs : d4 ++ b2 = bs at *
          clear hW hf4 hd4 hm4 hg4 hk4 hr2 hk2 hbs y0 y1 y2 y3 y4 y5 y6 z3 j0 j1 j2 j3 j4 j5 j6 f0 f1 f2 f3 f4 f5 f6
          have HXR := zH hxr
          have HMI := zH hmi
          have HLO := zH hlo
          have HRI := zH hri
          have hap : ∀ x ∈ bs, x ∉ [w.heap.size] := fun x hx => by have := (hmi.range x hx).1; simp; omega
          have HAP := zH hap
          have HHD := zH (fun (Y : World) (hY : Gw w W Y) => head_any r _ bs Y (hri.keeps (fr_keeps hY.1 hap)).ru HRT.out)
          have HTX := zH (fun (Y : World) (hY : Gw w W Y) => spec_rutext r _ bs Y (hri.keeps (fr_keeps hY.1 hap)).ru HRT.out)
          have hwb : w2.heap.size + 1 ∉ [w.heap.size] := by simp; omega
          have HKP := zH (fun (X : World) (hX : Gw w W X) => show X.cell? ⟨w2.heap.size + 1, 0, none⟩ = some (.string E1.name) ∧ X.cell? ⟨w2.heap.size + 1, 1, none⟩ = some (.string ⟨#[]⟩) ∧ X.cell? ⟨w2.heap.size + 1, 2, none⟩ = some (.slice none 0 0) ∧ X.cell? ⟨w2.heap.size + 1, 3, none⟩ = some (.slice A4 0 c4) ∧ X.cell? ⟨w2.heap.size + 1, 4, none⟩ = some (.int .i64 E2.kind) ∧ X.cell? ⟨w2.heap.size + 1, 5, none⟩ = some (.string E2.name) ∧ X.cell? ⟨w2.heap.size + 1, 6, none⟩ = some (.slice A2 E2.args.length c2) ∧ Hid (Gw w W X) from by
           obtain ⟨y0, y1, y2, y3, y4, y5, y6⟩ := (hxr.keep hX.1 hwb).cells
           exact ⟨y0, y1, y2, y3, y4, y5, y6, zH hX⟩)
          have HDR := zH (show Gw w W W.drew from ⟨(Fr.refl [w.heap.size] W).drew, _, _, _, _, _, _, _, hxb.keep ((Fr.refl [] W).drew) (by simp)⟩)
          generalize headOk r = hb at *
          generalize ruStr r = rt at *
          clear hxr hxb hmi hlo hri hap hwb
          cases hb
          · have HN := zH (show readRu line = none by rw [HRD2.out]; simp)
            have HIS := zH (show (readRu line).isSome = false by rw [HN.out]; rfl)
            have HEQ2 := zH (show ∀ r2, readRu line = some r2 → r = r2 from fun r2 e => by rw [HN.out] at e; cases e)
            refine wp_region_held_drew (S := (fun X => X.cell? ⟨w2.heap.size + 1, 0, none⟩ = some (.string E1.name) ∧ X.cell? ⟨w2.heap.size + 1, 1, none⟩ = some (.string ⟨#[]⟩) ∧ X.cell? ⟨w2.heap.size + 1, 2, none⟩ = some (.slice none 0 0) ∧ X.cell? ⟨w2.heap.size + 1, 3, none⟩ = some (.slice A4 0 c4) ∧ X.cell? ⟨w2.heap.size + 1, 4, none⟩ = some (.int .i64 E2.kind) ∧ X.cell? ⟨w2.heap.size + 1, 5, none⟩ = some (.string E2.name) ∧ X.cell? ⟨w2.heap.size + 1, 6, none⟩ = some (.slice A2 E2.args.length c2) ∧ Hid (Gw w W X))) (by kernel_rfl) ?_ (fun hHeld => ?_)
            · exact HKP.out _ HDR.out
            refine zT (i := 0) (oi := (⟨some 91, Op.load 34 (.tmp 9), 34, "l06_programtext.go:55", #[], none⟩ : Oper)) (v := (.agg #[.string E1.name, .string ⟨#[]⟩, .slice none 0 0, .slice A4 0 c4, .int .i64 E2.kind, .string E2.name, .slice A2 E2.args.length c2])) rfl (fun w hSw => ?_) hHeld ?_
            · (try dsimp only at hSw)
              go_simp
            try simp only [Act.put, sJ, tJ, uJ]
            refine zT (i := 1) (oi := (⟨some 92, Op.load 34 (.tmp 9), 34, "l06_programtext.go:55", #[], none⟩ : Oper)) (v := (.agg #[.string E1.name, .string ⟨#[]⟩, .slice none 0 0, .slice A4 0 c4, .int .i64 E2.kind, .string E2.name, .slice A2 E2.args.length c2])) rfl (fun w hSw => ?_) hHeld ?_
            · (try dsimp only at hSw)
              go_simp
            try simp only [Act.put, sJ, tJ, uJ]
            refine zC (i := 2) (o := (⟨some 93, Op.call { callee := Callee.value (.func 53), args := #[.tmp 92], argTypes := #[34] }, 4, "l06_programtext.go:55", #[⟨1, .data⟩], none⟩ : Oper)) rfl fun K hK => ?_
            go_simp
            go_at_call 53
            refine (HHD.out _ HDR.out).mono ?_
            rintro e w5 ⟨rfl, hb0⟩
            have Hw5 := zH (HDR.out.go hb0)
            clear hb0 hHeld
            refine hK.out _ _ ?_ (fun hHeld => ?_)
            · exact HKP.out _ Hw5.out
            try simp only [Act.put, sJ, tJ, uJ]
            refine zT (i := 3) (oi := (⟨some 94, Op.move (.tmp 93), 4, "l06_programtext.go:55", #[⟨2, .data⟩, ⟨2, .chain⟩], none⟩ : Oper)) (v := (.bool false)) rfl (fun w hSw => ?_) hHeld ?_
            · (try dsimp only at hSw)
              go_simp
            try simp only [Act.put, sJ, tJ, uJ]
            refine wpAnyH_take (i := 4) (oi := (⟨some 95, Op.load 34 (.tmp 9), 34, "l06_programtext.go:55", #[⟨3, .guard⟩], some (3, true)⟩ : Oper)) (v := undef) rfl (by kernel_rfl) (by kernel_rfl) (by kernel_rfl) (fun _ _ _ h => h) (Or.inr ⟨by rfl, rfl⟩) hHeld ?_
            try simp only [Act.put, sJ, tJ, uJ]
            refine wpAnyH_take (i := 6) (oi := (⟨some 97, Op.move (.tmp 0), 9, "l06_programtext.go:55", #[⟨3, .guard⟩, { on := 9, ground := Ground.gcOnly Departure.lateStores }], some (3, true)⟩ : Oper)) (v := undef) rfl (by kernel_rfl) (by kernel_rfl) (by kernel_rfl) (fun _ _ _ h => h) (Or.inr ⟨by rfl, rfl⟩) hHeld ?_
            try simp only [Act.put, sJ, tJ, uJ]
            refine zC (i := 5) (o := (⟨some 96, Op.call { callee := Callee.value (.func 102), args := #[.tmp 95], argTypes := #[34] }, 9, "l06_programtext.go:55", #[⟨4, .data⟩, ⟨3, .chain⟩, ⟨3, .guard⟩], some (3, true)⟩ : Oper)) rfl fun K hK => ?_
            go_simp
            refine hK.out _ _ hHeld (fun hHeld => ?_)
            try simp only [Act.put, sJ, tJ, uJ]
            refine wpAnyH_take (i := 7) (oi := (⟨some 98, Op.binOp BinOp.eql 9 (.tmp 96) (.tmp 97) 9, 4, "l06_programtext.go:55", #[⟨5, .data⟩, ⟨6, .data⟩, ⟨3, .guard⟩, { on := 9, ground := Ground.gcOnly Departure.lateStores }], some (3, true)⟩ : Oper)) (v := undef) rfl (by kernel_rfl) (by kernel_rfl) (by kernel_rfl) (fun _ _ _ h => h) (Or.inr ⟨by rfl, rfl⟩) hHeld ?_
            try simp only [Act.put, sJ, tJ, uJ]
            refine zT (i := 8) (oi := (⟨some 99, Op.pick (.tmp 94) (.tmp 98) (.const (Value.bool false)), 4, "l06_programtext.go:55", #[⟨3, .data⟩, ⟨7, .data⟩, { on := 9, ground := Ground.gcOnly Departure.lateStores }], none⟩ : Oper)) (v := (.bool false)) rfl (fun w hSw => ?_) hHeld ?_
            · (try dsimp only at hSw)
              go_simp
            try simp only [Act.put, sJ, tJ, uJ]
            have hf9 := hHeld.2.2.2.2.2.2.2.out
            obtain ⟨t0, t1, t2, t3, t4, t5, t6, hT⟩ := hf9.2
            obtain ⟨j0, j1, j2, j3, j4, j5, j6⟩ := hT.cells
            have f0 := hT.thaw 0
            have f1 := hT.thaw 1
            have f2 := hT.thaw 2
            have f3 := hT.thaw 3
            have f4 := hT.thaw 4
            have f5 := hT.thaw 5
            have f6 := hT.thaw 6
            have HT := zH (sev_box hT (.string E1.name) (.string ⟨#[]⟩) (.slice none 0 0) (.slice A4 0 c4) (.int .i64 E2.kind) (.string E2.name) (.slice A2 E2.args.length c2))
            have HF9 := zH (hf9.1.trans (sev_fr w5 w.heap.size 0 (.string E1.name) (.string ⟨#[]⟩) (.slice none 0 0) (.slice A4 0 c4) (.int .i64 E2.kind) (.string E2.name) (.slice A2 E2.args.length c2)) (fun x hx => Or.inl hx))
            clear hT hf9 hHeld
            refine zC (i := 9) (o := (⟨none, Op.store 34 (.tmp 2) (.tmp 91), 0, "l06_programtext.go:55", #[⟨0, .data⟩, ⟨5, .chain⟩, ⟨0, .phase⟩, { on := 1, ground := Ground.textOnly Departure.lateStores }, { on := 2, ground := Ground.textOnly Departure.lateStoresUnsure }, { on := 3, ground := Ground.textOnly Departure.lateStores }, { on := 4, ground := Ground.textOnly Departure.lateStores }, { on := 5, ground := Ground.textOnly Departure.lateStoresUnsure }, { on := 6, ground := Ground.textOnly Departure.lateStores }, { on := 7, ground := Ground.textOnly Departure.lateStores }, { on := 8, ground := Ground.textOnly Departure.lateStores }], none⟩ : Oper)) rfl fun K hK => ?_
            go_simp
            obtain ⟨Wf, hWf⟩ : ∃ V, V = sev w5 w.heap.size 0 (.string E1.name) (.string ⟨#[]⟩) (.slice none 0 0) (.slice A4 0 c4) (.int .i64 E2.kind) (.string E2.name) (.slice A2 E2.args.length c2) := ⟨_, rfl⟩
            rw [← hWf] at HT HF9
            unfold sev at hWf
            simp only [Nat.zero_add] at hWf
            rw [← hWf]
            refine hK.out _ _ ?_ (fun hHeld => ?_)
            · exact HKP.out _ ⟨HF9.out, _, _, _, _, _, _, _, HT.out⟩
            clear hK K hWf j0 j1 j2 j3 j4 j5 j6 f0 f1 f2 f3 f4 f5 f6
            try simp only [Act.put, sJ, tJ, uJ]
            refine zT (i := 10) (oi := (⟨some 3, Op.assign (.tmp 99), 4, "l06_programtext.go:55", #[⟨8, .data⟩, ⟨9, .chain⟩, ⟨0, .phase⟩, ⟨1, .phase⟩, ⟨2, .phase⟩, ⟨3, .phase⟩, ⟨4, .phase⟩, ⟨5, .phase⟩, ⟨6, .phase⟩, ⟨7, .phase⟩, ⟨8, .phase⟩, ⟨9, .phase⟩], none⟩ : Oper)) (v := (.bool false)) rfl (fun w hSw => ?_) hHeld ?_
            · (try dsimp only at hSw)
              go_simp
            try simp only [Act.put, sJ, tJ, uJ]
            refine wpAnyH_done (by kernel_rfl) ?_ _
            clear hHeld
            go_wp2_with fail
            obtain ⟨k0, k1, k2, k3, k4, k5, k6⟩ := HT.out.cells
            refine bP (v := .tuple #[(.agg #[.string E1.name, .string ⟨#[]⟩, .slice none 0 0, .slice A4 0 c4, .int .i64 E2.kind, .string E2.name, .slice A2 E2.args.length c2]), .bool false]) (by simp [results, Tryz.results89, go_sem, k0, k1, k2, k3, k4, k5, k6]) rfl ?_
            exact ⟨_, r, bs, by rw [HIS.out], HRI.out.keeps (fr_keeps HF9.out (HAP.out)), (HMI.out.keeps (fr_keeps HF9.out HAP.out)).mono (by omega), HLO.out.trans (HF9.out.below (by simp) HLO.out.size), HEQ2.out⟩
          by_cases hrt : rt = line
          · have heq9 : (rt.toList == line.toList) = true := by rw [hrt]; simp
            have HIS := zH (show (readRu line).isSome = true by rw [HRD2.out]; simp [hrt])
            have HEQ2 := zH (show ∀ r2, readRu line = some r2 → r = r2 from fun r2 e => by rw [HRD2.out] at e; simp [hrt] at e; exact e)
            clear hrt
            refine wp_region_held_drew (S := (fun X => X.cell? ⟨w2.heap.size + 1, 0, none⟩ = some (.string E1.name) ∧ X.cell? ⟨w2.heap.size + 1, 1, none⟩ = some (.string ⟨#[]⟩) ∧ X.cell? ⟨w2.heap.size + 1, 2, none⟩ = some (.slice none 0 0) ∧ X.cell? ⟨w2.heap.size + 1, 3, none⟩ = some (.slice A4 0 c4) ∧ X.cell? ⟨w2.heap.size + 1, 4, none⟩ = some (.int .i64 E2.kind) ∧ X.cell? ⟨w2.heap.size + 1, 5, none⟩ = some (.string E2.name) ∧ X.cell? ⟨w2.heap.size + 1, 6, none⟩ = some (.slice A2 E2.args.length c2) ∧ Hid (Gw w W X))) (by kernel_rfl) ?_ (fun hHeld => ?_)
            · exact HKP.out _ HDR.out
            refine zT (i := 0) (oi := (⟨some 91, Op.load 34 (.tmp 9), 34, "l06_programtext.go:55", #[], none⟩ : Oper)) (v := (.agg #[.string E1.name, .string ⟨#[]⟩, .slice none 0 0, .slice A4 0 c4, .int .i64 E2.kind, .string E2.name, .slice A2 E2.args.length c2])) rfl (fun w hSw => ?_) hHeld ?_
            · (try dsimp only at hSw)
              go_simp
            try simp only [Act.put, sJ, tJ, uJ]
            refine zT (i := 1) (oi := (⟨some 92, Op.load 34 (.tmp 9), 34, "l06_programtext.go:55", #[], none⟩ : Oper)) (v := (.agg #[.string E1.name, .string ⟨#[]⟩, .slice none 0 0, .slice A4 0 c4, .int .i64 E2.kind, .string E2.name, .slice A2 E2.args.length c2])) rfl (fun w hSw => ?_) hHeld ?_
            · (try dsimp only at hSw)
              go_simp
            try simp only [Act.put, sJ, tJ, uJ]
            refine zC (i := 2) (o := (⟨some 93, Op.call { callee := Callee.value (.func 53), args := #[.tmp 92], argTypes := #[34] }, 4, "l06_programtext.go:55", #[⟨1, .data⟩], none⟩ : Oper)) rfl fun K hK => ?_
            go_simp
            go_at_call 53
            refine (HHD.out _ HDR.out).mono ?_
            rintro e w5 ⟨rfl, hb0⟩
            have Hw5 := zH (HDR.out.go hb0)
            clear hb0 hHeld
            refine hK.out _ _ ?_ (fun hHeld => ?_)
            · exact HKP.out _ Hw5.out
            try simp only [Act.put, sJ, tJ, uJ]
            refine zT (i := 3) (oi := (⟨some 94, Op.move (.tmp 93), 4, "l06_programtext.go:55", #[⟨2, .data⟩, ⟨2, .chain⟩], none⟩ : Oper)) (v := (.bool true)) rfl (fun w hSw => ?_) hHeld ?_
            · (try dsimp only at hSw)
              go_simp
            try simp only [Act.put, sJ, tJ, uJ]
            refine zT (i := 4) (oi := (⟨some 95, Op.load 34 (.tmp 9), 34, "l06_programtext.go:55", #[⟨3, .guard⟩], some (3, true)⟩ : Oper)) (v := (.agg #[.string E1.name, .string ⟨#[]⟩, .slice none 0 0, .slice A4 0 c4, .int .i64 E2.kind, .string E2.name, .slice A2 E2.args.length c2])) rfl (fun w hSw => ?_) hHeld ?_
            · (try dsimp only at hSw)
              go_simp
            try simp only [Act.put, sJ, tJ, uJ]
            refine zT (i := 6) (oi := (⟨some 97, Op.move (.tmp 0), 9, "l06_programtext.go:55", #[⟨3, .guard⟩, { on := 9, ground := Ground.gcOnly Departure.lateStores }], some (3, true)⟩ : Oper)) (v := (.string line)) rfl (fun w hSw => ?_) hHeld ?_
            · (try dsimp only at hSw)
              go_simp
            try simp only [Act.put, sJ, tJ, uJ]
            refine zC (i := 5) (o := (⟨some 96, Op.call { callee := Callee.value (.func 102), args := #[.tmp 95], argTypes := #[34] }, 9, "l06_programtext.go:55", #[⟨4, .data⟩, ⟨3, .chain⟩, ⟨3, .guard⟩], some (3, true)⟩ : Oper)) rfl fun K hK => ?_
            go_simp
            go_at_call 102
            refine (HTX.out _ Hw5.out).mono ?_
            rintro e w6 ⟨rfl, hb0⟩
            have Hw6 := zH (Hw5.out.go hb0)
            clear hb0 hHeld
            refine hK.out _ _ ?_ (fun hHeld => ?_)
            · exact HKP.out _ Hw6.out
            try simp only [Act.put, sJ, tJ, uJ]
            refine zT (i := 7) (oi := (⟨some 98, Op.binOp BinOp.eql 9 (.tmp 96) (.tmp 97) 9, 4, "l06_programtext.go:55", #[⟨5, .data⟩, ⟨6, .data⟩, ⟨3, .guard⟩, { on := 9, ground := Ground.gcOnly Departure.lateStores }], some (3, true)⟩ : Oper)) (v := (.bool true)) rfl (fun w hSw => ?_) hHeld ?_
            · (try dsimp only at hSw)
              go_simp
            try simp only [Act.put, sJ, tJ, uJ]
            refine zT (i := 8) (oi := (⟨some 99, Op.pick (.tmp 94) (.tmp 98) (.const (Value.bool false)), 4, "l06_programtext.go:55", #[⟨3, .data⟩, ⟨7, .data⟩, { on := 9, ground := Ground.gcOnly Departure.lateStores }], none⟩ : Oper)) (v := (.bool true)) rfl (fun w hSw => ?_) hHeld ?_
            · (try dsimp only at hSw)
              go_simp
            try simp only [Act.put, sJ, tJ, uJ]
            have hf9 := hHeld.2.2.2.2.2.2.2.out
            obtain ⟨t0, t1, t2, t3, t4, t5, t6, hT⟩ := hf9.2
            obtain ⟨j0, j1, j2, j3, j4, j5, j6⟩ := hT.cells
            have f0 := hT.thaw 0
            have f1 := hT.thaw 1
            have f2 := hT.thaw 2
            have f3 := hT.thaw 3
            have f4 := hT.thaw 4
            have f5 := hT.thaw 5
            have f6 := hT.thaw 6
            have HT := zH (sev_box hT (.string E1.name) (.string ⟨#[]⟩) (.slice none 0 0) (.slice A4 0 c4) (.int .i64 E2.kind) (.string E2.name) (.slice A2 E2.args.length c2))
            have HF9 := zH (hf9.1.trans (sev_fr w6 w.heap.size 0 (.string E1.name) (.string ⟨#[]⟩) (.slice none 0 0) (.slice A4 0 c4) (.int .i64 E2.kind) (.string E2.name) (.slice A2 E2.args.length c2)) (fun x hx => Or.inl hx))
            clear hT hf9 hHeld
            refine zC (i := 9) (o := (⟨none, Op.store 34 (.tmp 2) (.tmp 91), 0, "l06_programtext.go:55", #[⟨0, .data⟩, ⟨5, .chain⟩, ⟨0, .phase⟩, { on := 1, ground := Ground.textOnly Departure.lateStores }, { on := 2, ground := Ground.textOnly Departure.lateStoresUnsure }, { on := 3, ground := Ground.textOnly Departure.lateStores }, { on := 4, ground := Ground.textOnly Departure.lateStores }, { on := 5, ground := Ground.textOnly Departure.lateStoresUnsure }, { on := 6, ground := Ground.textOnly Departure.lateStores }, { on := 7, ground := Ground.textOnly Departure.lateStores }, { on := 8, ground := Ground.textOnly Departure.lateStores }], none⟩ : Oper)) rfl fun K hK => ?_
            go_simp
            obtain ⟨Wf, hWf⟩ : ∃ V, V = sev w6 w.heap.size 0 (.string E1.name) (.string ⟨#[]⟩) (.slice none 0 0) (.slice A4 0 c4) (.int .i64 E2.kind) (.string E2.name) (.slice A2 E2.args.length c2) := ⟨_, rfl⟩
            rw [← hWf] at HT HF9
            unfold sev at hWf
            simp only [Nat.zero_add] at hWf
            rw [← hWf]
            refine hK.out _ _ ?_ (fun hHeld => ?_)
            · exact HKP.out _ ⟨HF9.out, _, _, _, _, _, _, _, HT.out⟩
            clear hK K hWf j0 j1 j2 j3 j4 j5 j6 f0 f1 f2 f3 f4 f5 f6
            try simp only [Act.put, sJ, tJ, uJ]
            refine zT (i := 10) (oi := (⟨some 3, Op.assign (.tmp 99), 4, "l06_programtext.go:55", #[⟨8, .data⟩, ⟨9, .chain⟩, ⟨0, .phase⟩, ⟨1, .phase⟩, ⟨2, .phase⟩, ⟨3, .phase⟩, ⟨4, .phase⟩, ⟨5, .phase⟩, ⟨6, .phase⟩, ⟨7, .phase⟩, ⟨8, .phase⟩, ⟨9, .phase⟩], none⟩ : Oper)) (v := (.bool true)) rfl (fun w hSw => ?_) hHeld ?_
            · (try dsimp only at hSw)
              go_simp
            try simp only [Act.put, sJ, tJ, uJ]
            refine wpAnyH_done (by kernel_rfl) ?_ _
            clear hHeld
            go_wp2_with fail
            obtain ⟨k0, k1, k2, k3, k4, k5, k6⟩ := HT.out.cells
            refine bP (v := .tuple #[(.agg #[.string E1.name, .string ⟨#[]⟩, .slice none 0 0, .slice A4 0 c4, .int .i64 E2.kind, .string E2.name, .slice A2 E2.args.length c2]), .bool true]) (by simp [results, Tryz.results89, go_sem, k0, k1, k2, k3, k4, k5, k6]) rfl ?_
            exact ⟨_, r, bs, by rw [HIS.out], HRI.out.keeps (fr_keeps HF9.out (HAP.out)), (HMI.out.keeps (fr_keeps HF9.out HAP.out)).mono (by omega), HLO.out.trans (HF9.out.below (by simp) HLO.out.size), HEQ2.out⟩
          have heq9 : (rt.toList == line.toList) = false := by exact toList_ne hrt
          have HIS := zH (show (readRu line).isSome = false by rw [HRD2.out]; simp [hrt])
          have HEQ2 := zH (show ∀ r2, readRu line = some r2 → r = r2 from fun r2 e => by rw [HRD2.out] at e; simp [hrt] at e; done)
          clear hrt
          refine wp_region_held_drew (S := (fun X => X.cell? ⟨w2.heap.size + 1, 0, none⟩ = some (.string E1.name) ∧ X.cell? ⟨w2.heap.size + 1, 1, none⟩ = some (.string ⟨#[]⟩) ∧ X.cell? ⟨w2.heap.size + 1, 2, none⟩ = some (.slice none 0 0) ∧ X.cell? ⟨w2.heap.size + 1, 3, none⟩ = some (.slice A4 0 c4) ∧ X.cell? ⟨w2.heap.size + 1, 4, none⟩ = some (.int .i64 E2.kind) ∧ X.cell? ⟨w2.heap.size + 1, 5, none⟩ = some (.string E2.name) ∧ X.cell? ⟨w2.heap.size + 1, 6, none⟩ = some (.slice A2 E2.args.length c2) ∧ Hid (Gw w W X))) (by kernel_rfl) ?_ (fun hHeld => ?_)
          · exact HKP.out _ HDR.out
          refine zT (i := 0) (oi := (⟨some 91, Op.load 34 (.tmp 9), 34, "l06_programtext.go:55", #[], none⟩ : Oper)) (v := (.agg #[.string E1.name, .string ⟨#[]⟩, .slice none 0 0, .slice A4 0 c4, .int .i64 E2.kind, .string E2.name, .slice A2 E2.args.length c2])) rfl (fun w hSw => ?_) hHeld ?_
          · (try dsimp only at hSw)
            go_simp
          try simp only [Act.put, sJ, tJ, uJ]
          refine zT (i := 1) (oi := (⟨some 92, Op.load 34 (.tmp 9), 34, "l06_programtext.go:55", #[], none⟩ : Oper)) (v := (.agg #[.string E1.name, .string ⟨#[]⟩, .slice none 0 0, .slice A4 0 c4, .int .i64 E2.kind, .string E2.name, .slice A2 E2.args.length c2])) rfl (fun w hSw => ?_) hHeld ?_
          · (try dsimp only at hSw)
            go_simp
          try simp only [Act.put, sJ, tJ, uJ]
          refine zC (i := 2) (o := (⟨some 93, Op.call { callee := Callee.value (.func 53), args := #[.tmp 92], argTypes := #[34] }, 4, "l06_programtext.go:55", #[⟨1, .data⟩], none⟩ : Oper)) rfl fun K hK => ?_
          go_simp
          go_at_call 53
          refine (HHD.out _ HDR.out).mono ?_
          rintro e w5 ⟨rfl, hb0⟩
          have Hw5 := zH (HDR.out.go hb0)
          clear hb0 hHeld
          refine hK.out _ _ ?_ (fun hHeld => ?_)
          · exact HKP.out _ Hw5.out
          try simp only [Act.put, sJ, tJ, uJ]
          refine zT (i := 3) (oi := (⟨some 94, Op.move (.tmp 93), 4, "l06_programtext.go:55", #[⟨2, .data⟩, ⟨2, .chain⟩], none⟩ : Oper)) (v := (.bool true)) rfl (fun w hSw => ?_) hHeld ?_
          · (try dsimp only at hSw)
            go_simp
          try simp only [Act.put, sJ, tJ, uJ]
          refine zT (i := 4) (oi := (⟨some 95, Op.load 34 (.tmp 9), 34, "l06_programtext.go:55", #[⟨3, .guard⟩], some (3, true)⟩ : Oper)) (v := (.agg #[.string E1.name, .string ⟨#[]⟩, .slice none 0 0, .slice A4 0 c4, .int .i64 E2.kind, .string E2.name, .slice A2 E2.args.length c2])) rfl (fun w hSw => ?_) hHeld ?_
          · (try dsimp only at hSw)
            go_simp
          try simp only [Act.put, sJ, tJ, uJ]
          refine zT (i := 6) (oi := (⟨some 97, Op.move (.tmp 0), 9, "l06_programtext.go:55", #[⟨3, .guard⟩, { on := 9, ground := Ground.gcOnly Departure.lateStores }], some (3, true)⟩ : Oper)) (v := (.string line)) rfl (fun w hSw => ?_) hHeld ?_
          · (try dsimp only at hSw)
            go_simp
          try simp only [Act.put, sJ, tJ, uJ]
          refine zC (i := 5) (o := (⟨some 96, Op.call { callee := Callee.value (.func 102), args := #[.tmp 95], argTypes := #[34] }, 9, "l06_programtext.go:55", #[⟨4, .data⟩, ⟨3, .chain⟩, ⟨3, .guard⟩], some (3, true)⟩ : Oper)) rfl fun K hK => ?_
          go_simp
          go_at_call 102
          refine (HTX.out _ Hw5.out).mono ?_
          rintro e w6 ⟨rfl, hb0⟩
          have Hw6 := zH (Hw5.out.go hb0)
          clear hb0 hHeld
          refine hK.out _ _ ?_ (fun hHeld => ?_)
          · exact HKP.out _ Hw6.out
          try simp only [Act.put, sJ, tJ, uJ]
          refine zT (i := 7) (oi := (⟨some 98, Op.binOp BinOp.eql 9 (.tmp 96) (.tmp 97) 9, 4, "l06_programtext.go:55", #[⟨5, .data⟩, ⟨6, .data⟩, ⟨3, .guard⟩, { on := 9, ground := Ground.gcOnly Departure.lateStores }], some (3, true)⟩ : Oper)) (v := (.bool false)) rfl (fun w hSw => ?_) hHeld ?_
          · (try dsimp only at hSw)
            go_simp
          try simp only [Act.put, sJ, tJ, uJ]
          refine zT (i := 8) (oi := (⟨some 99, Op.pick (.tmp 94) (.tmp 98) (.const (Value.bool false)), 4, "l06_programtext.go:55", #[⟨3, .data⟩, ⟨7, .data⟩, { on := 9, ground := Ground.gcOnly Departure.lateStores }], none⟩ : Oper)) (v := (.bool false)) rfl (fun w hSw => ?_) hHeld ?_
          · (try dsimp only at hSw)
            go_simp
          try simp only [Act.put, sJ, tJ, uJ]
          have hf9 := hHeld.2.2.2.2.2.2.2.out
          obtain ⟨t0, t1, t2, t3, t4, t5, t6, hT⟩ := hf9.2
          obtain ⟨j0, j1, j2, j3, j4, j5, j6⟩ := hT.cells
          have f0 := hT.thaw 0
          have f1 := hT.thaw 1
          have f2 := hT.thaw 2
          have f3 := hT.thaw 3
          have f4 := hT.thaw 4
          have f5 := hT.thaw 5
          have f6 := hT.thaw 6
          have HT := zH (sev_box hT (.string E1.name) (.string ⟨#[]⟩) (.slice none 0 0) (.slice A4 0 c4) (.int .i64 E2.kind) (.string E2.name) (.slice A2 E2.args.length c2))
          have HF9 := zH (hf9.1.trans (sev_fr w6 w.heap.size 0 (.string E1.name) (.string ⟨#[]⟩) (.slice none 0 0) (.slice A4 0 c4) (.int .i64 E2.kind) (.string E2.name) (.slice A2 E2.args.length c2)) (fun x hx => Or.inl hx))
          clear hT hf9 hHeld
          refine zC (i := 9) (o := (⟨none, Op.store 34 (.tmp 2) (.tmp 91), 0, "l06_programtext.go:55", #[⟨0, .data⟩, ⟨5, .chain⟩, ⟨0, .phase⟩, { on := 1, ground := Ground.textOnly Departure.lateStores }, { on := 2, ground := Ground.textOnly Departure.lateStoresUnsure }, { on := 3, ground := Ground.textOnly Departure.lateStores }, { on := 4, ground := Ground.textOnly Departure.lateStores }, { on := 5, ground := Ground.textOnly Departure.lateStoresUnsure }, { on := 6, ground := Ground.textOnly Departure.lateStores }, { on := 7, ground := Ground.textOnly Departure.lateStores }, { on := 8, ground := Ground.textOnly Departure.lateStores }], none⟩ : Oper)) rfl fun K hK => ?_
          go_simp
          obtain ⟨Wf, hWf⟩ : ∃ V, V = sev w6 w.heap.size 0 (.string E1.name) (.string ⟨#[]⟩) (.slice none 0 0) (.slice A4 0 c4) (.int .i64 E2.kind) (.string E2.name) (.slice A2 E2.args.length c2) := ⟨_, rfl⟩
          rw [← hWf] at HT HF9
          unfold sev at hWf
          simp only [Nat.zero_add] at hWf
          rw [← hWf]
          refine hK.out _ _ ?_ (fun hHeld => ?_)
          · exact HKP.out _ ⟨HF9.out, _, _, _, _, _, _, _, HT.out⟩
          clear hK K hWf j0 j1 j2 j3 j4 j5 j6 f0 f1 f2 f3 f4 f5 f6
          try simp only [Act.put, sJ, tJ, uJ]
          refine zT (i := 10) (oi := (⟨some 3, Op.assign (.tmp 99), 4, "l06_programtext.go:55", #[⟨8, .data⟩, ⟨9, .chain⟩, ⟨0, .phase⟩, ⟨1, .phase⟩, ⟨2, .phase⟩, ⟨3, .phase⟩, ⟨4, .phase⟩, ⟨5, .phase⟩, ⟨6, .phase⟩, ⟨7, .phase⟩, ⟨8, .phase⟩, ⟨9, .phase⟩], none⟩ : Oper)) (v := (.bool false)) rfl (fun w hSw => ?_) hHeld ?_
          · (try dsimp only at hSw)
            go_simp
          try simp only [Act.put, sJ, tJ, uJ]
          refine wpAnyH_done (by kernel_rfl) ?_ _
          clear hHeld
          go_wp2_with fail
          obtain ⟨k0, k1, k2, k3, k4, k5, k6⟩ := HT.out.cells
          refine bP (v := .tuple #[(.agg #[.string E1.name, .string ⟨#[]⟩, .slice none 0 0, .slice A4 0 c4, .int .i64 E2.kind, .string E2.name, .slice A2 E2.args.length c2]), .bool false]) (by simp [results, Tryz.results89, go_sem, k0, k1, k2, k3, k4, k5, k6]) rfl ?_
          exact ⟨_, r, bs, by rw [HIS.out], HRI.out.keeps (fr_keeps HF9.out (HAP.out)), (HMI.out.keeps (fr_keeps HF9.out HAP.out)).mono (by omega), HLO.out.trans (HF9.out.below (by simp) HLO.out.size), HEQ2.out⟩
        have hsl2 : SlIs w2 (.slice A1 n1 c1) (a :: t) b1 := by rw [hn1, ← hargs]; exact hsl1
        obtain ⟨g, o, Aa, ca, ba, rfl, hgl, hnt, hnc, hcm, a0, a1, a2, hsa, hasz⟩ := sl_head hsl2
        obtain ⟨bt, hst⟩ := sl_rest hsl2
        have HSL := zH hsl2
        have HST := zH hst
        have HSA := zH hsa
        have HARGS := zH hargs
        have HTA := zH (show exTot a ≤ 560 from by have h8 := tots_args E1; rw [hargs, exTots] at h8; omega)
        have hn1i : (0 : Int) < (n1 : Int) := by omega
        have hn1j : (1 : Int) ≤ (n1 : Int) := by omega
        have hn1k : 1 ≤ n1 := by omega
        have hn1l : 0 < n1 := by omega
        have hc1k : 1 ≤ c1 := by omega
        have HASZ := zH hasz
        have HPARTS := zH (show r = if a.kind = 2 then ⟨E1.name, a.name, a.args.map Ex.name, t.map Ex.name, E2⟩ else ⟨E1.name, ⟨#[]⟩, [], (a :: t).map Ex.name, E2⟩ from by rw [hr]; unfold rulePart; rw [hargs])
        have HNT := zH hnt
        clear hr hn1 hargs hsl1 hsl2 hst hsa hasz hnt
        by_cases hka : a.kind = 2
        · rw [hka] at a0
          obtain ⟨na, hna⟩ : ∃ n, n = a.args.length := ⟨_, rfl⟩
          have hnas : na ≤ 1048576 := by have h8 := tots_ge a.args; have h9 := tots_args a; have := HTA.out; omega
          rw [← hna] at a2 HSA
          obtain ⟨L4, hL4⟩ : ∃ L, L = a.args.map Ex.name := ⟨_, rfl⟩
          obtain ⟨L5, hL5⟩ : ∃ L, L = t.map Ex.name := ⟨_, rfl⟩
          have HL4 := zH hL4
          have HL5 := zH hL5
          have HR := zH (show r = ⟨E1.name, a.name, L4, L5, E2⟩ by rw [HPARTS.out, if_pos hka, hL4, hL5])
          have HZ4 := zH (show ∀ x ∈ L4, x.size ≤ 9223372036854775807 from by rw [hL4]; exact small_names (by have := HTA.out; omega))
          have HZ5 := zH (show ∀ x ∈ L5, x.size ≤ 9223372036854775807 from fun x hx => HSN.out x (by rw [hL5] at hx; rw [HARGS.out]; exact List.mem_cons_of_mem _ hx))
          clear hka hL4 hL5 hna
          obtain ⟨W3, hW3⟩ : ∃ W3, W3 = (w2.alloc (.cells #[.int .i64 E2.kind, .string E2.name, .slice A2 E2.args.length c2] 32)).alloc (.cells #[.string E1.name, .string a.name, .slice none 0 0, .slice none 0 0, .int .i64 E2.kind, .string E2.name, .slice A2 E2.args.length c2] 34) := ⟨_, rfl⟩
          have hb3 : Below w2.heap.size w2 W3 := by rw [hW3]; exact ((wB _ w2).alloc (nR _) _).alloc (by simp) _
          have hx3 : Box7 W3 (w2.heap.size + 1) 34 (.string E1.name) (.string a.name) (.slice none 0 0) (.slice none 0 0) (.int .i64 E2.kind) (.string E2.name) (.slice A2 E2.args.length c2) := by
           rw [hW3]
           have h := box7_new (w := w2.alloc (.cells #[.int .i64 E2.kind, .string E2.name, .slice A2 E2.args.length c2] 32)) (T := 34) (x0 := .string E1.name) (x1 := .string a.name) (x2 := .slice none 0 0) (x3 := .slice none 0 0) (x4 := .int .i64 E2.kind) (x5 := .string E2.name) (x6 := .slice A2 E2.args.length c2) (wB _ _)
           simp only [World.size_alloc] at h
           exact h
          have HB3 := zH hb3
          have HX3 := zH hx3
          have HW3 := zH hW3
          have HCV := zH (show Calls Tryz.prog 101 #[.slice Aa na ca] W3 (StrsPost L4 W3) from by have h9 := names_sl HSA.out hnas HB3.out; rw [← HL4.out] at h9; exact h9)
          clear hb3 hx3 hW3
          by_cases hce : c1 = 1
          · subst hce
            obtain rfl : t = [] := List.eq_nil_of_length_eq_zero (by have := HNT.out; omega)
            have HCP := zH (fun (Y : World) => show Calls Tryz.prog 101 #[.slice (some ⟨g, o, none⟩) 0 0] Y (StrsPost L5 Y) from by have h9 := l6names_any [] (some ⟨g, o, none⟩) 0 0 [] Y ⟨_, 0, rfl, nR _, by omega, Or.inl ⟨rfl, rfl⟩⟩ (by omega); rw [HL5.out]; exact h9)
            go_wp2_with (first | (go_at_call 101; rw [← HW3.out]; refine HCV.out.mono ?_; rintro e w4 ⟨v4, rfl, ho4, hb4⟩; obtain ⟨A4, c4, rfl, -⟩ := ho4.shape; have HO4 := zH ho4; have HB4 := zH hb4; have HX4 := zH (HX3.out.keep (Fr.of_below (S := []) hb4) (by simp)); obtain ⟨y0, y1, y2, y3, y4, y5, y6⟩ := HX4.out.cells; have z2 := HX4.out.thaw 2; have HF4 := zH ((Fr.of_below (S := [w2.heap.size + 1]) (HB3.out.trans (hb4.mono HB3.out.size))).trans (Fr.set (S := [w2.heap.size + 1]) w4 ⟨w2.heap.size + 1, 2, none⟩ (.slice A4 L4.length c4) (by simp)) (by simp)); clear ho4 hb4) | (go_at_call 101; refine (HCP.out _).mono ?_; rintro e w5 ⟨v5, rfl, ho5, hb5⟩; obtain ⟨A5, c5, rfl, -⟩ := ho5.shape; have HO5 := zH ho5; have HB5 := zH hb5; have HX5 := zH ((HX4.out.set2 (.slice A4 L4.length c4)).keep (Fr.of_below (S := []) hb5) (by simp)); obtain ⟨p0, p1, p2, p3, p4, p5, p6⟩ := HX5.out.cells; have z3 := HX5.out.thaw 3; clear ho5 hb5))
            obtain ⟨W, hW⟩ : ∃ W, W = w5.setCell ⟨w2.heap.size + 1, 3, none⟩ (.slice A5 L5.length c5) := ⟨_, rfl⟩
            have hf5 : Fr [w2.heap.size + 1] w2 W := by rw [hW]; exact (HF4.out.trans (Fr.of_below (S := [w2.heap.size + 1]) HB5.out) (by simp)).trans (Fr.set (S := [w2.heap.size + 1]) w5 ⟨w2.heap.size + 1, 3, none⟩ (.slice A5 L5.length c5) (by simp)) (by simp)
            obtain ⟨d4, hd4, hm4⟩ := owns_ss HO4.out HZ4.out
            obtain ⟨d5, hd5, hm5⟩ := owns_ps HO5.out HZ5.out
            have hg4 : ∀ x ∈ d4, w2.heap.size + 1 < x ∧ x < w4.heap.size := fun x hx => by have := hm4.range x hx; have := HX3.out.lt; omega
            have hg5 : ∀ x ∈ d5, w4.heap.size ≤ x := fun x hx => by have := (hm5.range x hx).1; simp at this; omega
            have h45 : w2.heap.size + 1 < w4.heap.size := HX4.out.lt
            have hk5 : Keeps w5 W d5 := by rw [hW]; exact keeps_set (fun x hx => by have := hg5 x hx; show x ≠ w2.heap.size + 1; omega)
            have hk4 : Keeps w4 W d4 := by
             have hq : Fr [w2.heap.size + 1] w4 W := by rw [hW]; exact ((Fr.set (S := [w2.heap.size + 1]) w4 ⟨w2.heap.size + 1, 2, none⟩ (.slice A4 L4.length c4) (by simp)).trans (Fr.of_below (S := [w2.heap.size + 1]) HB5.out) (by simp)).trans (Fr.set (S := [w2.heap.size + 1]) w5 ⟨w2.heap.size + 1, 3, none⟩ (.slice A5 L5.length c5) (by simp)) (by simp)
             exact fr_keeps hq (fun x hx => by have := hg4 x hx; simp; omega)
            have hr2 : ∀ x ∈ b2, w1.heap.size ≤ x ∧ x < w2.heap.size := fun x hx => by have := HM2.out.range x hx; simp at this; omega
            have hk2 : Keeps w2 W b2 := fr_keeps hf5 (fun x hx => by have := hr2 x hx; simp; omega)
            have hw1 : w.heap.size < w1.heap.size := nL HX0.out.lt HB1.out.size
            have hmi : Mine W (w.heap.size + 1) (d4 ++ (d5 ++ b2)) := mine_app ((hm4.keeps hk4).mono (by have := HX3.out.lt; omega)) (mine_app ((hm5.keeps hk5).mono (by simp; omega)) ((HM2.out.keeps hk2).mono (by simp; omega)) (fun x hx hx2 => by have := hg5 x hx; have := hr2 x hx2; omega)) (fun x hx hx2 => by
             have := hg4 x hx
             rcases List.mem_append.1 hx2 with hx2 | hx2
             · have := hg5 x hx2; omega
             have := hr2 x hx2; omega)
            have hri : RuS W (.agg #[.string E1.name, .string a.name, .slice A4 L4.length c4, .slice A5 L5.length c5, .int .i64 E2.kind, .string E2.name, .slice A2 E2.args.length c2]) r (d4 ++ (d5 ++ b2)) := by
             rw [HR.out]
             exact ⟨_, _, _, d4, d5, b2, rfl, HI1B.out.choose_spec.2.1, HASZ.out, rfl, hd4.keeps hk4, hd5.keeps hk5, HI2.out.keeps hk2⟩
            have hlo : Below w.heap.size w W := HL2.out.trans (hf5.below (by simp; omega) HL2.out.size)
            have hxb := HX2.out.keep hf5 (by simp; omega)
            have hxr : Box7 W (w2.heap.size + 1) 34 (.string E1.name) (.string a.name) (.slice A4 L4.length c4) (.slice A5 L5.length c5) (.int .i64 E2.kind) (.string E2.name) (.slice A2 E2.args.length c2) := by rw [hW]; exact HX5.out.set3 _
            rw [← hW]
            have HW := zH hW
            generalize hbs : d4 ++ (d5 ++ b2) = bs at *
            clear hW hf5 hd4 hm4 hg4 hk4 hd5 hm5 hg5 hk5 hr2 hk2 hbs y0 y1 y2 y3 y4 y5 y6 p0 p1 p2 p3 p4 p5 p6 z2 z3 j0 j1 j2 j3 j4 j5 j6 f0 f1 f2 f3 f4 f5 f6
            have HXR := zH hxr
            have HMI := zH hmi
            have HLO := zH hlo
            have HRI := zH hri
            have hap : ∀ x ∈ bs, x ∉ [w.heap.size] := fun x hx => by have := (hmi.range x hx).1; simp; omega
            have HAP := zH hap
            have HHD := zH (fun (Y : World) (hY : Gw w W Y) => head_any r _ bs Y (hri.keeps (fr_keeps hY.1 hap)).ru HRT.out)
            have HTX := zH (fun (Y : World) (hY : Gw w W Y) => spec_rutext r _ bs Y (hri.keeps (fr_keeps hY.1 hap)).ru HRT.out)
            have hwb : w2.heap.size + 1 ∉ [w.heap.size] := by simp; omega
            have HKP := zH (fun (X : World) (hX : Gw w W X) => show X.cell? ⟨w2.heap.size + 1, 0, none⟩ = some (.string E1.name) ∧ X.cell? ⟨w2.heap.size + 1, 1, none⟩ = some (.string a.name) ∧ X.cell? ⟨w2.heap.size + 1, 2, none⟩ = some (.slice A4 L4.length c4) ∧ X.cell? ⟨w2.heap.size + 1, 3, none⟩ = some (.slice A5 L5.length c5) ∧ X.cell? ⟨w2.heap.size + 1, 4, none⟩ = some (.int .i64 E2.kind) ∧ X.cell? ⟨w2.heap.size + 1, 5, none⟩ = some (.string E2.name) ∧ X.cell? ⟨w2.heap.size + 1, 6, none⟩ = some (.slice A2 E2.args.length c2) ∧ Hid (Gw w W X) from by
             obtain ⟨y0, y1, y2, y3, y4, y5, y6⟩ := (hxr.keep hX.1 hwb).cells
             exact ⟨y0, y1, y2, y3, y4, y5, y6, zH hX⟩)
            have HDR := zH (show Gw w W W.drew from ⟨(Fr.refl [w.heap.size] W).drew, _, _, _, _, _, _, _, hxb.keep ((Fr.refl [] W).drew) (by simp)⟩)
            generalize headOk r = hb at *
            generalize ruStr r = rt at *
            clear hxr hxb hmi hlo hri hap hwb
            cases hb
            · have HN := zH (show readRu line = none by rw [HRD2.out]; simp)
              have HIS := zH (show (readRu line).isSome = false by rw [HN.out]; rfl)
              have HEQ2 := zH (show ∀ r2, readRu line = some r2 → r = r2 from fun r2 e => by rw [HN.out] at e; cases e)
              refine wp_region_held_drew (S := (fun X => X.cell? ⟨w2.heap.size + 1, 0, none⟩ = some (.string E1.name) ∧ X.cell? ⟨w2.heap.size + 1, 1, none⟩ = some (.string a.name) ∧ X.cell? ⟨w2.heap.size + 1, 2, none⟩ = some (.slice A4 L4.length c4) ∧ X.cell? ⟨w2.heap.size + 1, 3, none⟩ = some (.slice A5 L5.length c5) ∧ X.cell? ⟨w2.heap.size + 1, 4, none⟩ = some (.int .i64 E2.kind) ∧ X.cell? ⟨w2.heap.size + 1, 5, none⟩ = some (.string E2.name) ∧ X.cell? ⟨w2.heap.size + 1, 6, none⟩ = some (.slice A2 E2.args.length c2) ∧ Hid (Gw w W X))) (by kernel_rfl) ?_ (fun hHeld => ?_)
              · exact HKP.out _ HDR.out
              refine zT (i := 0) (oi := (⟨some 91, Op.load 34 (.tmp 9), 34, "l06_programtext.go:55", #[], none⟩ : Oper)) (v := (.agg #[.string E1.name, .string a.name, .slice A4 L4.length c4, .slice A5 L5.length c5, .int .i64 E2.kind, .string E2.name, .slice A2 E2.args.length c2])) rfl (fun w hSw => ?_) hHeld ?_
              · (try dsimp only at hSw)
                go_simp
              try simp only [Act.put, sJ, tJ, uJ]
              refine zT (i := 1) (oi := (⟨some 92, Op.load 34 (.tmp 9), 34, "l06_programtext.go:55", #[], none⟩ : Oper)) (v := (.agg #[.string E1.name, .string a.name, .slice A4 L4.length c4, .slice A5 L5.length c5, .int .i64 E2.kind, .string E2.name, .slice A2 E2.args.length c2])) rfl (fun w hSw => ?_) hHeld ?_
              · (try dsimp only at hSw)
                go_simp
              try simp only [Act.put, sJ, tJ, uJ]
              refine zC (i := 2) (o := (⟨some 93, Op.call { callee := Callee.value (.func 53), args := #[.tmp 92], argTypes := #[34] }, 4, "l06_programtext.go:55", #[⟨1, .data⟩], none⟩ : Oper)) rfl fun K hK => ?_
              go_simp
              go_at_call 53
              refine (HHD.out _ HDR.out).mono ?_
              rintro e w5 ⟨rfl, hb0⟩
              have Hw5 := zH (HDR.out.go hb0)
              clear hb0 hHeld
              refine hK.out _ _ ?_ (fun hHeld => ?_)
              · exact HKP.out _ Hw5.out
              try simp only [Act.put, sJ, tJ, uJ]
              refine zT (i := 3) (oi := (⟨some 94, Op.move (.tmp 93), 4, "l06_programtext.go:55", #[⟨2, .data⟩, ⟨2, .chain⟩], none⟩ : Oper)) (v := (.bool false)) rfl (fun w hSw => ?_) hHeld ?_
              · (try dsimp only at hSw)
                go_simp
              try simp only [Act.put, sJ, tJ, uJ]
              refine wpAnyH_take (i := 4) (oi := (⟨some 95, Op.load 34 (.tmp 9), 34, "l06_programtext.go:55", #[⟨3, .guard⟩], some (3, true)⟩ : Oper)) (v := undef) rfl (by kernel_rfl) (by kernel_rfl) (by kernel_rfl) (fun _ _ _ h => h) (Or.inr ⟨by rfl, rfl⟩) hHeld ?_
              try simp only [Act.put, sJ, tJ, uJ]
              refine wpAnyH_take (i := 6) (oi := (⟨some 97, Op.move (.tmp 0), 9, "l06_programtext.go:55", #[⟨3, .guard⟩, { on := 9, ground := Ground.gcOnly Departure.lateStores }], some (3, true)⟩ : Oper)) (v := undef) rfl (by kernel_rfl) (by kernel_rfl) (by kernel_rfl) (fun _ _ _ h => h) (Or.inr ⟨by rfl, rfl⟩) hHeld ?_
              try simp only [Act.put, sJ, tJ, uJ]
              refine zC (i := 5) (o := (⟨some 96, Op.call { callee := Callee.value (.func 102), args := #[.tmp 95], argTypes := #[34] }, 9, "l06_programtext.go:55", #[⟨4, .data⟩, ⟨3, .chain⟩, ⟨3, .guard⟩], some (3, true)⟩ : Oper)) rfl fun K hK => ?_
              go_simp
              refine hK.out _ _ hHeld (fun hHeld => ?_)
              try simp only [Act.put, sJ, tJ, uJ]
              refine wpAnyH_take (i := 7) (oi := (⟨some 98, Op.binOp BinOp.eql 9 (.tmp 96) (.tmp 97) 9, 4, "l06_programtext.go:55", #[⟨5, .data⟩, ⟨6, .data⟩, ⟨3, .guard⟩, { on := 9, ground := Ground.gcOnly Departure.lateStores }], some (3, true)⟩ : Oper)) (v := undef) rfl (by kernel_rfl) (by kernel_rfl) (by kernel_rfl) (fun _ _ _ h => h) (Or.inr ⟨by rfl, rfl⟩) hHeld ?_
              try simp only [Act.put, sJ, tJ, uJ]
              refine zT (i := 8) (oi := (⟨some 99, Op.pick (.tmp 94) (.tmp 98) (.const (Value.bool false)), 4, "l06_programtext.go:55", #[⟨3, .data⟩, ⟨7, .data⟩, { on := 9, ground := Ground.gcOnly Departure.lateStores }], none⟩ : Oper)) (v := (.bool false)) rfl (fun w hSw => ?_) hHeld ?_
              · (try dsimp only at hSw)
                go_simp
              try simp only [Act.put, sJ, tJ, uJ]
              have hf9 := hHeld.2.2.2.2.2.2.2.out
              obtain ⟨t0, t1, t2, t3, t4, t5, t6, hT⟩ := hf9.2
              obtain ⟨j0, j1, j2, j3, j4, j5, j6⟩ := hT.cells
              have f0 := hT.thaw 0
              have f1 := hT.thaw 1
              have f2 := hT.thaw 2
              have f3 := hT.thaw 3
              have f4 := hT.thaw 4
              have f5 := hT.thaw 5
              have f6 := hT.thaw 6
              have HT := zH (sev_box hT (.string E1.name) (.string a.name) (.slice A4 L4.length c4) (.slice A5 L5.length c5) (.int .i64 E2.kind) (.string E2.name) (.slice A2 E2.args.length c2))
              have HF9 := zH (hf9.1.trans (sev_fr w5 w.heap.size 0 (.string E1.name) (.string a.name) (.slice A4 L4.length c4) (.slice A5 L5.length c5) (.int .i64 E2.kind) (.string E2.name) (.slice A2 E2.args.length c2)) (fun x hx => Or.inl hx))
              clear hT hf9 hHeld
              refine zC (i := 9) (o := (⟨none, Op.store 34 (.tmp 2) (.tmp 91), 0, "l06_programtext.go:55", #[⟨0, .data⟩, ⟨5, .chain⟩, ⟨0, .phase⟩, { on := 1, ground := Ground.textOnly Departure.lateStores }, { on := 2, ground := Ground.textOnly Departure.lateStoresUnsure }, { on := 3, ground := Ground.textOnly Departure.lateStores }, { on := 4, ground := Ground.textOnly Departure.lateStores }, { on := 5, ground := Ground.textOnly Departure.lateStoresUnsure }, { on := 6, ground := Ground.textOnly Departure.lateStores }, { on := 7, ground := Ground.textOnly Departure.lateStores }, { on := 8, ground := Ground.textOnly Departure.lateStores }], none⟩ : Oper)) rfl fun K hK => ?_
              go_simp
              obtain ⟨Wf, hWf⟩ : ∃ V, V = sev w5 w.heap.size 0 (.string E1.name) (.string a.name) (.slice A4 L4.length c4) (.slice A5 L5.length c5) (.int .i64 E2.kind) (.string E2.name) (.slice A2 E2.args.length c2) := ⟨_, rfl⟩
              rw [← hWf] at HT HF9
              unfold sev at hWf
              simp only [Nat.zero_add] at hWf
              rw [← hWf]
              refine hK.out _ _ ?_ (fun hHeld => ?_)
              · exact HKP.out _ ⟨HF9.out, _, _, _, _, _, _, _, HT.out⟩
              clear hK K hWf j0 j1 j2 j3 j4 j5 j6 f0 f1 f2 f3 f4 f5 f6
              try simp only [Act.put, sJ, tJ, uJ]
              refine zT (i := 10) (oi := (⟨some 3, Op.assign (.tmp 99), 4, "l06_programtext.go:55", #[⟨8, .data⟩, ⟨9, .chain⟩, ⟨0, .phase⟩, ⟨1, .phase⟩, ⟨2, .phase⟩, ⟨3, .phase⟩, ⟨4, .phase⟩, ⟨5, .phase⟩, ⟨6, .phase⟩, ⟨7, .phase⟩, ⟨8, .phase⟩, ⟨9, .phase⟩], none⟩ : Oper)) (v := (.bool false)) rfl (fun w hSw => ?_) hHeld ?_
              · (try dsimp only at hSw)
                go_simp
              try simp only [Act.put, sJ, tJ, uJ]
              refine wpAnyH_done (by kernel_rfl) ?_ _
              clear hHeld
              go_wp2_with fail
              obtain ⟨k0, k1, k2, k3, k4, k5, k6⟩ := HT.out.cells
              refine bP (v := .tuple #[(.agg #[.string E1.name, .string a.name, .slice A4 L4.length c4, .slice A5 L5.length c5, .int .i64 E2.kind, .string E2.name, .slice A2 E2.args.length c2]), .bool false]) (by simp [results, Tryz.results89, go_sem, k0, k1, k2, k3, k4, k5, k6]) rfl ?_
              exact ⟨_, r, bs, by rw [HIS.out], HRI.out.keeps (fr_keeps HF9.out (HAP.out)), (HMI.out.keeps (fr_keeps HF9.out HAP.out)).mono (by omega), HLO.out.trans (HF9.out.below (by simp) HLO.out.size), HEQ2.out⟩
            by_cases hrt : rt = line
            · have heq9 : (rt.toList == line.toList) = true := by rw [hrt]; simp
              have HIS := zH (show (readRu line).isSome = true by rw [HRD2.out]; simp [hrt])
              have HEQ2 := zH (show ∀ r2, readRu line = some r2 → r = r2 from fun r2 e => by rw [HRD2.out] at e; simp [hrt] at e; exact e)
              clear hrt
              refine wp_region_held_drew (S := (fun X => X.cell? ⟨w2.heap.size + 1, 0, none⟩ = some (.string E1.name) ∧ X.cell? ⟨w2.heap.size + 1, 1, none⟩ = some (.string a.name) ∧ X.cell? ⟨w2.heap.size + 1, 2, none⟩ = some (.slice A4 L4.length c4) ∧ X.cell? ⟨w2.heap.size + 1, 3, none⟩ = some (.slice A5 L5.length c5) ∧ X.cell? ⟨w2.heap.size + 1, 4, none⟩ = some (.int .i64 E2.kind) ∧ X.cell? ⟨w2.heap.size + 1, 5, none⟩ = some (.string E2.name) ∧ X.cell? ⟨w2.heap.size + 1, 6, none⟩ = some (.slice A2 E2.args.length c2) ∧ Hid (Gw w W X))) (by kernel_rfl) ?_ (fun hHeld => ?_)
              · exact HKP.out _ HDR.out
              refine zT (i := 0) (oi := (⟨some 91, Op.load 34 (.tmp 9), 34, "l06_programtext.go:55", #[], none⟩ : Oper)) (v := (.agg #[.string E1.name, .string a.name, .slice A4 L4.length c4, .slice A5 L5.length c5, .int .i64 E2.kind, .string E2.name, .slice A2 E2.args.length c2])) rfl (fun w hSw => ?_) hHeld ?_
              · (try dsimp only at hSw)
                go_simp
              try simp only [Act.put, sJ, tJ, uJ]
              refine zT (i := 1) (oi := (⟨some 92, Op.load 34 (.tmp 9), 34, "l06_programtext.go:55", #[], none⟩ : Oper)) (v := (.agg #[.string E1.name, .string a.name, .slice A4 L4.length c4, .slice A5 L5.length c5, .int .i64 E2.kind, .string E2.name, .slice A2 E2.args.length c2])) rfl (fun w hSw => ?_) hHeld ?_
              · (try dsimp only at hSw)
                go_simp
              try simp only [Act.put, sJ, tJ, uJ]
              refine zC (i := 2) (o := (⟨some 93, Op.call { callee := Callee.value (.func 53), args := #[.tmp 92], argTypes := #[34] }, 4, "l06_programtext.go:55", #[⟨1, .data⟩], none⟩ : Oper)) rfl fun K hK => ?_
              go_simp
              go_at_call 53
              refine (HHD.out _ HDR.out).mono ?_
              rintro e w5 ⟨rfl, hb0⟩
              have Hw5 := zH (HDR.out.go hb0)
              clear hb0 hHeld
              refine hK.out _ _ ?_ (fun hHeld => ?_)
              · exact HKP.out _ Hw5.out
              try simp only [Act.put, sJ, tJ, uJ]
              refine zT (i := 3) (oi := (⟨some 94, Op.move (.tmp 93), 4, "l06_programtext.go:55", #[⟨2, .data⟩, ⟨2, .chain⟩], none⟩ : Oper)) (v := (.bool true)) rfl (fun w hSw => ?_) hHeld ?_
              · (try dsimp only at hSw)
                go_simp
              try simp only [Act.put, sJ, tJ, uJ]
              refine zT (i := 4) (oi := (⟨some 95, Op.load 34 (.tmp 9), 34, "l06_programtext.go:55", #[⟨3, .guard⟩], some (3, true)⟩ : Oper)) (v := (.agg #[.string E1.name, .string a.name, .slice A4 L4.length c4, .slice A5 L5.length c5, .int .i64 E2.kind, .string E2.name, .slice A2 E2.args.length c2])) rfl (fun w hSw => ?_) hHeld ?_
              · (try dsimp only at hSw)
                go_simp
              try simp only [Act.put, sJ, tJ, uJ]
              refine zT (i := 6) (oi := (⟨some 97, Op.move (.tmp 0), 9, "l06_programtext.go:55", #[⟨3, .guard⟩, { on := 9, ground := Ground.gcOnly Departure.lateStores }], some (3, true)⟩ : Oper)) (v := (.string line)) rfl (fun w hSw => ?_) hHeld ?_
              · (try dsimp only at hSw)
                go_simp
              try simp only [Act.put, sJ, tJ, uJ]
              refine zC (i := 5) (o := (⟨some 96, Op.call { callee := Callee.value (.func 102), args := #[.tmp 95], argTypes := #[34] }, 9, "l06_programtext.go:55", #[⟨4, .data⟩, ⟨3, .chain⟩, ⟨3, .guard⟩], some (3, true)⟩ : Oper)) rfl fun K hK => ?_
              go_simp
              go_at_call 102
              refine (HTX.out _ Hw5.out).mono ?_
              rintro e w6 ⟨rfl, hb0⟩
              have Hw6 := zH (Hw5.out.go hb0)
              clear hb0 hHeld
              refine hK.out _ _ ?_ (fun hHeld => ?_)
              · exact HKP.out _ Hw6.out
              try simp only [Act.put, sJ, tJ, uJ]
              refine zT (i := 7) (oi := (⟨some 98, Op.binOp BinOp.eql 9 (.tmp 96) (.tmp 97) 9, 4, "l06_programtext.go:55", #[⟨5, .data⟩, ⟨6, .data⟩, ⟨3, .guard⟩, { on := 9, ground := Ground.gcOnly Departure.lateStores }], some (3, true)⟩ : Oper)) (v := (.bool true)) rfl (fun w hSw => ?_) hHeld ?_
              · (try dsimp only at hSw)
                go_simp
              try simp only [Act.put, sJ, tJ, uJ]
              refine zT (i := 8) (oi := (⟨some 99, Op.pick (.tmp 94) (.tmp 98) (.const (Value.bool false)), 4, "l06_programtext.go:55", #[⟨3, .data⟩, ⟨7, .data⟩, { on := 9, ground := Ground.gcOnly Departure.lateStores }], none⟩ : Oper)) (v := (.bool true)) rfl (fun w hSw => ?_) hHeld ?_
              · (try dsimp only at hSw)
                go_simp
              try simp only [Act.put, sJ, tJ, uJ]
              have hf9 := hHeld.2.2.2.2.2.2.2.out
              obtain ⟨t0, t1, t2, t3, t4, t5, t6, hT⟩ := hf9.2
              obtain ⟨j0, j1, j2, j3, j4, j5, j6⟩ := hT.cells
              have f0 := hT.thaw 0
              have f1 := hT.thaw 1
              have f2 := hT.thaw 2
              have f3 := hT.thaw 3
              have f4 := hT.thaw 4
              have f5 := hT.thaw 5
              have f6 := hT.thaw 6
              have HT := zH (sev_box hT (.string E1.name) (.string a.name) (.slice A4 L4.length c4) (.slice A5 L5.length c5) (.int .i64 E2.kind) (.string E2.name) (.slice A2 E2.args.length c2))
              have HF9 := zH (hf9.1.trans (sev_fr w6 w.heap.size 0 (.string E1.name) (.string a.name) (.slice A4 L4.length c4) (.slice A5 L5.length c5) (.int .i64 E2.kind) (.string E2.name) (.slice A2 E2.args.length c2)) (fun x hx => Or.inl hx))
              clear hT hf9 hHeld
              refine zC (i := 9) (o := (⟨none, Op.store 34 (.tmp 2) (.tmp 91), 0, "l06_programtext.go:55", #[⟨0, .data⟩, ⟨5, .chain⟩, ⟨0, .phase⟩, { on := 1, ground := Ground.textOnly Departure.lateStores }, { on := 2, ground := Ground.textOnly Departure.lateStoresUnsure }, { on := 3, ground := Ground.textOnly Departure.lateStores }, { on := 4, ground := Ground.textOnly Departure.lateStores }, { on := 5, ground := Ground.textOnly Departure.lateStoresUnsure }, { on := 6, ground := Ground.textOnly Departure.lateStores }, { on := 7, ground := Ground.textOnly Departure.lateStores }, { on := 8, ground := Ground.textOnly Departure.lateStores }], none⟩ : Oper)) rfl fun K hK => ?_
              go_simp
              obtain ⟨Wf, hWf⟩ : ∃ V, V = sev w6 w.heap.size 0 (.string E1.name) (.string a.name) (.slice A4 L4.length c4) (.slice A5 L5.length c5) (.int .i64 E2.kind) (.string E2.name) (.slice A2 E2.args.length c2) := ⟨_, rfl⟩
              rw [← hWf] at HT HF9
              unfold sev at hWf
              simp only [Nat.zero_add] at hWf
              rw [← hWf]
              refine hK.out _ _ ?_ (fun hHeld => ?_)
              · exact HKP.out _ ⟨HF9.out, _, _, _, _, _, _, _, HT.out⟩
              clear hK K hWf j0 j1 j2 j3 j4 j5 j6 f0 f1 f2 f3 f4 f5 f6
              try simp only [Act.put, sJ, tJ, uJ]
              refine zT (i := 10) (oi := (⟨some 3, Op.assign (.tmp 99), 4, "l06_programtext.go:55", #[⟨8, .data⟩, ⟨9, .chain⟩, ⟨0, .phase⟩, ⟨1, .phase⟩, ⟨2, .phase⟩, ⟨3, .phase⟩, ⟨4, .phase⟩, ⟨5, .phase⟩, ⟨6, .phase⟩, ⟨7, .phase⟩, ⟨8, .phase⟩, ⟨9, .phase⟩], none⟩ : Oper)) (v := (.bool true)) rfl (fun w hSw => ?_) hHeld ?_
              · (try dsimp only at hSw)
                go_simp
              try simp only [Act.put, sJ, tJ, uJ]
              refine wpAnyH_done (by kernel_rfl) ?_ _
              clear hHeld
              go_wp2_with fail
              obtain ⟨k0, k1, k2, k3, k4, k5, k6⟩ := HT.out.cells
              refine bP (v := .tuple #[(.agg #[.string E1.name, .string a.name, .slice A4 L4.length c4, .slice A5 L5.length c5, .int .i64 E2.kind, .string E2.name, .slice A2 E2.args.length c2]), .bool true]) (by simp [results, Tryz.results89, go_sem, k0, k1, k2, k3, k4, k5, k6]) rfl ?_
              exact ⟨_, r, bs, by rw [HIS.out], HRI.out.keeps (fr_keeps HF9.out (HAP.out)), (HMI.out.keeps (fr_keeps HF9.out HAP.out)).mono (by omega), HLO.out.trans (HF9.out.below (by simp) HLO.out.size), HEQ2.out⟩
            have heq9 : (rt.toList == line.toList) = false := by exact toList_ne hrt
            have HIS := zH (show (readRu line).isSome = false by rw [HRD2.out]; simp [hrt])
            have HEQ2 := zH (show ∀ r2, readRu line = some r2 → r = r2 from fun r2 e => by rw [HRD2.out] at e; simp [hrt] at e; done)
            clear hrt
            refine wp_region_held_drew (S := (fun X => X.cell? ⟨w2.heap.size + 1, 0, none⟩ = some (.string E1.name) ∧ X.cell? ⟨w2.heap.size + 1, 1, none⟩ = some (.string a.name) ∧ X.cell? ⟨w2.heap.size + 1, 2, none⟩ = some (.slice A4 L4.length c4) ∧ X.cell? ⟨w2.heap.size + 1, 3, none⟩ = some (.slice A5 L5.length c5) ∧ X.cell? ⟨w2.heap.size + 1, 4, none⟩ = some (.int .i64 E2.kind) ∧ X.cell? ⟨w2.heap.size + 1, 5, none⟩ = some (.string E2.name) ∧ X.cell? ⟨w2.heap.size + 1, 6, none⟩ = some (.slice A2 E2.args.length c2) ∧ Hid (Gw w W X))) (by kernel_rfl) ?_ (fun hHeld => ?_)
            · exact HKP.out _ HDR.out
            refine zT (i := 0) (oi := (⟨some 91, Op.load 34 (.tmp 9), 34, "l06_programtext.go:55", #[], none⟩ : Oper)) (v := (.agg #[.string E1.name, .string a.name, .slice A4 L4.length c4, .slice A5 L5.length c5, .int .i64 E2.kind, .string E2.name, .slice A2 E2.args.length c2])) rfl (fun w hSw => ?_) hHeld ?_
            · (try dsimp only at hSw)
              go_simp
            try simp only [Act.put, sJ, tJ, uJ]
            refine zT (i := 1) (oi := (⟨some 92, Op.load 34 (.tmp 9), 34, "l06_programtext.go:55", #[], none⟩ : Oper)) (v := (.agg #[.string E1.name, .string a.name, .slice A4 L4.length c4, .slice A5 L5.length c5, .int .i64 E2.kind, .string E2.name, .slice A2 E2.args.length c2])) rfl (fun w hSw => ?_) hHeld ?_
            · (try dsimp only at hSw)
              go_simp
            try simp only [Act.put, sJ, tJ, uJ]
            refine zC (i := 2) (o := (⟨some 93, Op.call { callee := Callee.value (.func 53), args := #[.tmp 92], argTypes := #[34] }, 4, "l06_programtext.go:55", #[⟨1, .data⟩], none⟩ : Oper)) rfl fun K hK => ?_
            go_simp
            go_at_call 53
            refine (HHD.out _ HDR.out).mono ?_
            rintro e w5 ⟨rfl, hb0⟩
            have Hw5 := zH (HDR.out.go hb0)
            clear hb0 hHeld
            refine hK.out _ _ ?_ (fun hHeld => ?_)
            · exact HKP.out _ Hw5.out
            try simp only [Act.put, sJ, tJ, uJ]
            refine zT (i := 3) (oi := (⟨some 94, Op.move (.tmp 93), 4, "l06_programtext.go:55", #[⟨2, .data⟩, ⟨2, .chain⟩], none⟩ : Oper)) (v := (.bool true)) rfl (fun w hSw => ?_) hHeld ?_
            · (try dsimp only at hSw)
              go_simp
            try simp only [Act.put, sJ, tJ, uJ]
            refine zT (i := 4) (oi := (⟨some 95, Op.load 34 (.tmp 9), 34, "l06_programtext.go:55", #[⟨3, .guard⟩], some (3, true)⟩ : Oper)) (v := (.agg #[.string E1.name, .string a.name, .slice A4 L4.length c4, .slice A5 L5.length c5, .int .i64 E2.kind, .string E2.name, .slice A2 E2.args.length c2])) rfl (fun w hSw => ?_) hHeld ?_
            · (try dsimp only at hSw)
              go_simp
            try simp only [Act.put, sJ, tJ, uJ]
            refine zT (i := 6) (oi := (⟨some 97, Op.move (.tmp 0), 9, "l06_programtext.go:55", #[⟨3, .guard⟩, { on := 9, ground := Ground.gcOnly Departure.lateStores }], some (3, true)⟩ : Oper)) (v := (.string line)) rfl (fun w hSw => ?_) hHeld ?_
            · (try dsimp only at hSw)
              go_simp
            try simp only [Act.put, sJ, tJ, uJ]
            refine zC (i := 5) (o := (⟨some 96, Op.call { callee := Callee.value (.func 102), args := #[.tmp 95], argTypes := #[34] }, 9, "l06_programtext.go:55", #[⟨4, .data⟩, ⟨3, .chain⟩, ⟨3, .guard⟩], some (3, true)⟩ : Oper)) rfl fun K hK => ?_
            go_simp
            go_at_call 102
            refine (HTX.out _ Hw5.out).mono ?_
            rintro e w6 ⟨rfl, hb0⟩
            have Hw6 := zH (Hw5.out.go hb0)
            clear hb0 hHeld
            refine hK.out _ _ ?_ (fun hHeld => ?_)
            · exact HKP.out _ Hw6.out
            try simp only [Act.put, sJ, tJ, uJ]
            refine zT (i := 7) (oi := (⟨some 98, Op.binOp BinOp.eql 9 (.tmp 96) (.tmp 97) 9, 4, "l06_programtext.go:55", #[⟨5, .data⟩, ⟨6, .data⟩, ⟨3, .guard⟩, { on := 9, ground := Ground.gcOnly Departure.lateStores }], some (3, true)⟩ : Oper)) (v := (.bool false)) rfl (fun w hSw => ?_) hHeld ?_
            · (try dsimp only at hSw)
              go_simp
            try simp only [Act.put, sJ, tJ, uJ]
            refine zT (i := 8) (oi := (⟨some 99, Op.pick (.tmp 94) (.tmp 98) (.const (Value.bool false)), 4, "l06_programtext.go:55", #[⟨3, .data⟩, ⟨7, .data⟩, { on := 9, ground := Ground.gcOnly Departure.lateStores }], none⟩ : Oper)) (v := (.bool false)) rfl (fun w hSw => ?_) hHeld ?_
            · (try dsimp only at hSw)
              go_simp
            try simp only [Act.put, sJ, tJ, uJ]
            have hf9 := hHeld.2.2.2.2.2.2.2.out
            obtain ⟨t0, t1, t2, t3, t4, t5, t6, hT⟩ := hf9.2
            obtain ⟨j0, j1, j2, j3, j4, j5, j6⟩ := hT.cells
            have f0 := hT.thaw 0
            have f1 := hT.thaw 1
            have f2 := hT.thaw 2
            have f3 := hT.thaw 3
            have f4 := hT.thaw 4
            have f5 := hT.thaw 5
            have f6 := hT.thaw 6
            have HT := zH (sev_box hT (.string E1.name) (.string a.name) (.slice A4 L4.length c4) (.slice A5 L5.length c5) (.int .i64 E2.kind) (.string E2.name) (.slice A2 E2.args.length c2))
            have HF9 := zH (hf9.1.trans (sev_fr w6 w.heap.size 0 (.string E1.name) (.string a.name) (.slice A4 L4.length c4) (.slice A5 L5.length c5) (.int .i64 E2.kind) (.string E2.name) (.slice A2 E2.args.length c2)) (fun x hx => Or.inl hx))
            clear hT hf9 hHeld
            refine zC (i := 9) (o := (⟨none, Op.store 34 (.tmp 2) (.tmp 91), 0, "l06_programtext.go:55", #[⟨0, .data⟩, ⟨5, .chain⟩, ⟨0, .phase⟩, { on := 1, ground := Ground.textOnly Departure.lateStores }, { on := 2, ground := Ground.textOnly Departure.lateStoresUnsure }, { on := 3, ground := Ground.textOnly Departure.lateStores }, { on := 4, ground := Ground.textOnly Departure.lateStores }, { on := 5, ground := Ground.textOnly Departure.lateStoresUnsure }, { on := 6, ground := Ground.textOnly Departure.lateStores }, { on := 7, ground := Ground.textOnly Departure.lateStores }, { on := 8, ground := Ground.textOnly Departure.lateStores }], none⟩ : Oper)) rfl fun K hK => ?_
            go_simp
            obtain ⟨Wf, hWf⟩ : ∃ V, V = sev w6 w.heap.size 0 (.string E1.name) (.string a.name) (.slice A4 L4.length c4) (.slice A5 L5.length c5) (.int .i64 E2.kind) (.string E2.name) (.slice A2 E2.args.length c2) := ⟨_, rfl⟩
            rw [← hWf] at HT HF9
            unfold sev at hWf
            simp only [Nat.zero_add] at hWf
            rw [← hWf]
            refine hK.out _ _ ?_ (fun hHeld => ?_)
            · exact HKP.out _ ⟨HF9.out, _, _, _, _, _, _, _, HT.out⟩
            clear hK K hWf j0 j1 j2 j3 j4 j5 j6 f0 f1 f2 f3 f4 f5 f6
            try simp only [Act.put, sJ, tJ, uJ]
            refine zT (i := 10) (oi := (⟨some 3, Op.assign (.tmp 99), 4, "l06_programtext.go:55", #[⟨8, .data⟩, ⟨9, .chain⟩, ⟨0, .phase⟩, ⟨1, .phase⟩, ⟨2, .phase⟩, ⟨3, .phase⟩, ⟨4, .phase⟩, ⟨5, .phase⟩, ⟨6, .phase⟩, ⟨7, .phase⟩, ⟨8, .phase⟩, ⟨9, .phase⟩], none⟩ : Oper)) (v := (.bool false)) rfl (fun w hSw => ?_) hHeld ?_
            · (try dsimp only at hSw)
              go_simp
            try simp only [Act.put, sJ, tJ, uJ]
            refine wpAnyH_done (by kernel_rfl) ?_ _
            clear hHeld
            go_wp2_with fail
            obtain ⟨k0, k1, k2, k3, k4, k5, k6⟩ := HT.out.cells
            refine bP (v := .tuple #[(.agg #[.string E1.name, .string a.name, .slice A4 L4.length c4, .slice A5 L5.length c5, .int .i64 E2.kind, .string E2.name, .slice A2 E2.args.length c2]), .bool false]) (by simp [results, Tryz.results89, go_sem, k0, k1, k2, k3, k4, k5, k6]) rfl ?_
            exact ⟨_, r, bs, by rw [HIS.out], HRI.out.keeps (fr_keeps HF9.out (HAP.out)), (HMI.out.keeps (fr_keeps HF9.out HAP.out)).mono (by omega), HLO.out.trans (HF9.out.below (by simp) HLO.out.size), HEQ2.out⟩
          have HCP0 := zH (fun (Y : World) (hY : Below w2.heap.size w2 Y) => show Calls Tryz.prog 101 #[.slice (some ⟨g, o + 3, none⟩) (n1 - 1) (c1 - 1)] Y (StrsPost L5 Y) from by have h9 := names_sl HST.out (by omega) hY; rw [← HL5.out] at h9; exact h9)
          have HCP := zH (fun (Y : World) (hY : Below w2.heap.size w2 Y) => HCP0.out Y hY)
          go_wp2_with (first | (go_at_call 101; rw [← HW3.out]; refine HCV.out.mono ?_; rintro e w4 ⟨v4, rfl, ho4, hb4⟩; obtain ⟨A4, c4, rfl, -⟩ := ho4.shape; have HO4 := zH ho4; have HB4 := zH hb4; have HX4 := zH (HX3.out.keep (Fr.of_below (S := []) hb4) (by simp)); obtain ⟨y0, y1, y2, y3, y4, y5, y6⟩ := HX4.out.cells; have z2 := HX4.out.thaw 2; have HF4 := zH ((Fr.of_below (S := [w2.heap.size + 1]) (HB3.out.trans (hb4.mono HB3.out.size))).trans (Fr.set (S := [w2.heap.size + 1]) w4 ⟨w2.heap.size + 1, 2, none⟩ (.slice A4 L4.length c4) (by simp)) (by simp)); clear ho4 hb4) | (go_at_call 101; refine (HCP.out _ (HF4.out.below (by simp) (nR _))).mono ?_; rintro e w5 ⟨v5, rfl, ho5, hb5⟩; obtain ⟨A5, c5, rfl, -⟩ := ho5.shape; have HO5 := zH ho5; have HB5 := zH hb5; have HX5 := zH ((HX4.out.set2 (.slice A4 L4.length c4)).keep (Fr.of_below (S := []) hb5) (by simp)); obtain ⟨p0, p1, p2, p3, p4, p5, p6⟩ := HX5.out.cells; have z3 := HX5.out.thaw 3; clear ho5 hb5))
          obtain ⟨W, hW⟩ : ∃ W, W = w5.setCell ⟨w2.heap.size + 1, 3, none⟩ (.slice A5 L5.length c5) := ⟨_, rfl⟩
          have hf5 : Fr [w2.heap.size + 1] w2 W := by rw [hW]; exact (HF4.out.trans (Fr.of_below (S := [w2.heap.size + 1]) HB5.out) (by simp)).trans (Fr.set (S := [w2.heap.size + 1]) w5 ⟨w2.heap.size + 1, 3, none⟩ (.slice A5 L5.length c5) (by simp)) (by simp)
          obtain ⟨d4, hd4, hm4⟩ := owns_ss HO4.out HZ4.out
          obtain ⟨d5, hd5, hm5⟩ := owns_ps HO5.out HZ5.out
          have hg4 : ∀ x ∈ d4, w2.heap.size + 1 < x ∧ x < w4.heap.size := fun x hx => by have := hm4.range x hx; have := HX3.out.lt; omega
          have hg5 : ∀ x ∈ d5, w4.heap.size ≤ x := fun x hx => by have := (hm5.range x hx).1; simp at this; omega
          have h45 : w2.heap.size + 1 < w4.heap.size := HX4.out.lt
          have hk5 : Keeps w5 W d5 := by rw [hW]; exact keeps_set (fun x hx => by have := hg5 x hx; show x ≠ w2.heap.size + 1; omega)
          have hk4 : Keeps w4 W d4 := by
           have hq : Fr [w2.heap.size + 1] w4 W := by rw [hW]; exact ((Fr.set (S := [w2.heap.size + 1]) w4 ⟨w2.heap.size + 1, 2, none⟩ (.slice A4 L4.length c4) (by simp)).trans (Fr.of_below (S := [w2.heap.size + 1]) HB5.out) (by simp)).trans (Fr.set (S := [w2.heap.size + 1]) w5 ⟨w2.heap.size + 1, 3, none⟩ (.slice A5 L5.length c5) (by simp)) (by simp)
           exact fr_keeps hq (fun x hx => by have := hg4 x hx; simp; omega)
          have hr2 : ∀ x ∈ b2, w1.heap.size ≤ x ∧ x < w2.heap.size := fun x hx => by have := HM2.out.range x hx; simp at this; omega
          have hk2 : Keeps w2 W b2 := fr_keeps hf5 (fun x hx => by have := hr2 x hx; simp; omega)
          have hw1 : w.heap.size < w1.heap.size := nL HX0.out.lt HB1.out.size
          have hmi : Mine W (w.heap.size + 1) (d4 ++ (d5 ++ b2)) := mine_app ((hm4.keeps hk4).mono (by have := HX3.out.lt; omega)) (mine_app ((hm5.keeps hk5).mono (by simp; omega)) ((HM2.out.keeps hk2).mono (by simp; omega)) (fun x hx hx2 => by have := hg5 x hx; have := hr2 x hx2; omega)) (fun x hx hx2 => by
           have := hg4 x hx
           rcases List.mem_append.1 hx2 with hx2 | hx2
           · have := hg5 x hx2; omega
           have := hr2 x hx2; omega)
          have hri : RuS W (.agg #[.string E1.name, .string a.name, .slice A4 L4.length c4, .slice A5 L5.length c5, .int .i64 E2.kind, .string E2.name, .slice A2 E2.args.length c2]) r (d4 ++ (d5 ++ b2)) := by
           rw [HR.out]
           exact ⟨_, _, _, d4, d5, b2, rfl, HI1B.out.choose_spec.2.1, HASZ.out, rfl, hd4.keeps hk4, hd5.keeps hk5, HI2.out.keeps hk2⟩
          have hlo : Below w.heap.size w W := HL2.out.trans (hf5.below (by simp; omega) HL2.out.size)
          have hxb := HX2.out.keep hf5 (by simp; omega)
          have hxr : Box7 W (w2.heap.size + 1) 34 (.string E1.name) (.string a.name) (.slice A4 L4.length c4) (.slice A5 L5.length c5) (.int .i64 E2.kind) (.string E2.name) (.slice A2 E2.args.length c2) := by rw [hW]; exact HX5.out.set3 _
          rw [← hW]
          have HW := zH hW
          generalize hbs : d4 ++ (d5 ++ b2) = bs at *
          clear hW hf5 hd4 hm4 hg4 hk4 hd5 hm5 hg5 hk5 hr2 hk2 hbs y0 y1 y2 y3 y4 y5 y6 p0 p1 p2 p3 p4 p5 p6 z2 z3 j0 j1 j2 j3 j4 j5 j6 f0 f1 f2 f3 f4 f5 f6
          have HXR := zH hxr
          have HMI := zH hmi
          have HLO := zH hlo
          have HRI := zH hri
          have hap : ∀ x ∈ bs, x ∉ [w.heap.size] := fun x hx => by have := (hmi.range x hx).1; simp; omega
          have HAP := zH hap
          have HHD := zH (fun (Y : World) (hY : Gw w W Y) => head_any r _ bs Y (hri.keeps (fr_keeps hY.1 hap)).ru HRT.out)
          have HTX := zH (fun (Y : World) (hY : Gw w W Y) => spec_rutext r _ bs Y (hri.keeps (fr_keeps hY.1 hap)).ru HRT.out)
          have hwb : w2.heap.size + 1 ∉ [w.heap.size] := by simp; omega
          have HKP := zH (fun (X : World) (hX : Gw w W X) => show X.cell? ⟨w2.heap.size + 1, 0, none⟩ = some (.string E1.name) ∧ X.cell? ⟨w2.heap.size + 1, 1, none⟩ = some (.string a.name) ∧ X.cell? ⟨w2.heap.size + 1, 2, none⟩ = some (.slice A4 L4.length c4) ∧ X.cell? ⟨w2.heap.size + 1, 3, none⟩ = some (.slice A5 L5.length c5) ∧ X.cell? ⟨w2.heap.size + 1, 4, none⟩ = some (.int .i64 E2.kind) ∧ X.cell? ⟨w2.heap.size + 1, 5, none⟩ = some (.string E2.name) ∧ X.cell? ⟨w2.heap.size + 1, 6, none⟩ = some (.slice A2 E2.args.length c2) ∧ Hid (Gw w W X) from by
           obtain ⟨y0, y1, y2, y3, y4, y5, y6⟩ := (hxr.keep hX.1 hwb).cells
           exact ⟨y0, y1, y2, y3, y4, y5, y6, zH hX⟩)
          have HDR := zH (show Gw w W W.drew from ⟨(Fr.refl [w.heap.size] W).drew, _, _, _, _, _, _, _, hxb.keep ((Fr.refl [] W).drew) (by simp)⟩)
          generalize headOk r = hb at *
          generalize ruStr r = rt at *
          clear hxr hxb hmi hlo hri hap hwb
          cases hb
          · have HN := zH (show readRu line = none by rw [HRD2.out]; simp)
            have HIS := zH (show (readRu line).isSome = false by rw [HN.out]; rfl)
            have HEQ2 := zH (show ∀ r2, readRu line = some r2 → r = r2 from fun r2 e => by rw [HN.out] at e; cases e)
            refine wp_region_held_drew (S := (fun X => X.cell? ⟨w2.heap.size + 1, 0, none⟩ = some (.string E1.name) ∧ X.cell? ⟨w2.heap.size + 1, 1, none⟩ = some (.string a.name) ∧ X.cell? ⟨w2.heap.size + 1, 2, none⟩ = some (.slice A4 L4.length c4) ∧ X.cell? ⟨w2.heap.size + 1, 3, none⟩ = some (.slice A5 L5.length c5) ∧ X.cell? ⟨w2.heap.size + 1, 4, none⟩ = some (.int .i64 E2.kind) ∧ X.cell? ⟨w2.heap.size + 1, 5, none⟩ = some (.string E2.name) ∧ X.cell? ⟨w2.heap.size + 1, 6, none⟩ = some (.slice A2 E2.args.length c2) ∧ Hid (Gw w W X))) (by kernel_rfl) ?_ (fun hHeld => ?_)
            · exact HKP.out _ HDR.out
            refine zT (i := 0) (oi := (⟨some 91, Op.load 34 (.tmp 9), 34, "l06_programtext.go:55", #[], none⟩ : Oper)) (v := (.agg #[.string E1.name, .string a.name, .slice A4 L4.length c4, .slice A5 L5.length c5, .int .i64 E2.kind, .string E2.name, .slice A2 E2.args.length c2])) rfl (fun w hSw => ?_) hHeld ?_
            · (try dsimp only at hSw)
              go_simp
            try simp only [Act.put, sJ, tJ, uJ]
            refine zT (i := 1) (oi := (⟨some 92, Op.load 34 (.tmp 9), 34, "l06_programtext.go:55", #[], none⟩ : Oper)) (v := (.agg #[.string E1.name, .string a.name, .slice A4 L4.length c4, .slice A5 L5.length c5, .int .i64 E2.kind, .string E2.name, .slice A2 E2.args.length c2])) rfl (fun w hSw => ?_) hHeld ?_
            · (try dsimp only at hSw)
              go_simp
            try simp only [Act.put, sJ, tJ, uJ]
            refine zC (i := 2) (o := (⟨some 93, Op.call { callee := Callee.value (.func 53), args := #[.tmp 92], argTypes := #[34] }, 4, "l06_programtext.go:55", #[⟨1, .data⟩], none⟩ : Oper)) rfl fun K hK => ?_
            go_simp
            go_at_call 53
            refine (HHD.out _ HDR.out).mono ?_
            rintro e w5 ⟨rfl, hb0⟩
            have Hw5 := zH (HDR.out.go hb0)
            clear hb0 hHeld
            refine hK.out _ _ ?_ (fun hHeld => ?_)
            · exact HKP.out _ Hw5.out
            try simp only [Act.put, sJ, tJ, uJ]
            refine zT (i := 3) (oi := (⟨some 94, Op.move (.tmp 93), 4, "l06_programtext.go:55", #[⟨2, .data⟩, ⟨2, .chain⟩], none⟩ : Oper)) (v := (.bool false)) rfl (fun w hSw => ?_) hHeld ?_
            · (try dsimp only at hSw)
              go_simp
            try simp only [Act.put, sJ, tJ, uJ]
            refine wpAnyH_take (i := 4) (oi := (⟨some 95, Op.load 34 (.tmp 9), 34, "l06_programtext.go:55", #[⟨3, .guard⟩], some (3, true)⟩ : Oper)) (v := undef) rfl (by kernel_rfl) (by kernel_rfl) (by kernel_rfl) (fun _ _ _ h => h) (Or.inr ⟨by rfl, rfl⟩) hHeld ?_
            try simp only [Act.put, sJ, tJ, uJ]
            refine wpAnyH_take (i := 6) (oi := (⟨some 97, Op.move (.tmp 0), 9, "l06_programtext.go:55", #[⟨3, .guard⟩, { on := 9, ground := Ground.gcOnly Departure.lateStores }], some (3, true)⟩ : Oper)) (v := undef) rfl (by kernel_rfl) (by kernel_rfl) (by kernel_rfl) (fun _ _ _ h => h) (Or.inr ⟨by rfl, rfl⟩) hHeld ?_
            try simp only [Act.put, sJ, tJ, uJ]
            refine zC (i := 5) (o := (⟨some 96, Op.call { callee := Callee.value (.func 102), args := #[.tmp 95], argTypes := #[34] }, 9, "l06_programtext.go:55", #[⟨4, .data⟩, ⟨3, .chain⟩, ⟨3, .guard⟩], some (3, true)⟩ : Oper)) rfl fun K hK => ?_
            go_simp
            refine hK.out _ _ hHeld (fun hHeld => ?_)
            try simp only [Act.put, sJ, tJ, uJ]
            refine wpAnyH_take (i := 7) (oi := (⟨some 98, Op.binOp BinOp.eql 9 (.tmp 96) (.tmp 97) 9, 4, "l06_programtext.go:55", #[⟨5, .data⟩, ⟨6, .data⟩, ⟨3, .guard⟩, { on := 9, ground := Ground.gcOnly Departure.lateStores }], some (3, true)⟩ : Oper)) (v := undef) rfl (by kernel_rfl) (by kernel_rfl) (by kernel_rfl) (fun _ _ _ h => h) (Or.inr ⟨by rfl, rfl⟩) hHeld ?_
            try simp only [Act.put, sJ, tJ, uJ]
            refine zT (i := 8) (oi := (⟨some 99, Op.pick (.tmp 94) (.tmp 98) (.const (Value.bool false)), 4, "l06_programtext.go:55", #[⟨3, .data⟩, ⟨7, .data⟩, { on := 9, ground := Ground.gcOnly Departure.lateStores }], none⟩ : Oper)) (v := (.bool false)) rfl (fun w hSw => ?_) hHeld ?_
            · (try dsimp only at hSw)
              go_simp
            try simp only [Act.put, sJ, tJ, uJ]
            have hf9 := hHeld.2.2.2.2.2.2.2.out
            obtain ⟨t0, t1, t2, t3, t4, t5, t6, hT⟩ := hf9.2
            obtain ⟨j0, j1, j2, j3, j4, j5, j6⟩ := hT.cells
            have f0 := hT.thaw 0
            have f1 := hT.thaw 1
            have f2 := hT.thaw 2
            have f3 := hT.thaw 3
            have f4 := hT.thaw 4
            have f5 := hT.thaw 5
            have f6 := hT.thaw 6
            have HT := zH (sev_box hT (.string E1.name) (.string a.name) (.slice A4 L4.length c4) (.slice A5 L5.length c5) (.int .i64 E2.kind) (.string E2.name) (.slice A2 E2.args.length c2))
            have HF9 := zH (hf9.1.trans (sev_fr w5 w.heap.size 0 (.string E1.name) (.string a.name) (.slice A4 L4.length c4) (.slice A5 L5.length c5) (.int .i64 E2.kind) (.string E2.name) (.slice A2 E2.args.length c2)) (fun x hx => Or.inl hx))
            clear hT hf9 hHeld
            refine zC (i := 9) (o := (⟨none, Op.store 34 (.tmp 2) (.tmp 91), 0, "l06_programtext.go:55", #[⟨0, .data⟩, ⟨5, .chain⟩, ⟨0, .phase⟩, { on := 1, ground := Ground.textOnly Departure.lateStores }, { on := 2, ground := Ground.textOnly Departure.lateStoresUnsure }, { on := 3, ground := Ground.textOnly Departure.lateStores }, { on := 4, ground := Ground.textOnly Departure.lateStores }, { on := 5, ground := Ground.textOnly Departure.lateStoresUnsure }, { on := 6, ground := Ground.textOnly Departure.lateStores }, { on := 7, ground := Ground.textOnly Departure.lateStores }, { on := 8, ground := Ground.textOnly Departure.lateStores }], none⟩ : Oper)) rfl fun K hK => ?_
            go_simp
            obtain ⟨Wf, hWf⟩ : ∃ V, V = sev w5 w.heap.size 0 (.string E1.name) (.string a.name) (.slice A4 L4.length c4) (.slice A5 L5.length c5) (.int .i64 E2.kind) (.string E2.name) (.slice A2 E2.args.length c2) := ⟨_, rfl⟩
            rw [← hWf] at HT HF9
            unfold sev at hWf
            simp only [Nat.zero_add] at hWf
            rw [← hWf]
            refine hK.out _ _ ?_ (fun hHeld => ?_)
            · exact HKP.out _ ⟨HF9.out, _, _, _, _, _, _, _, HT.out⟩
            clear hK K hWf j0 j1 j2 j3 j4 j5 j6 f0 f1 f2 f3 f4 f5 f6
            try simp only [Act.put, sJ, tJ, uJ]
            refine zT (i := 10) (oi := (⟨some 3, Op.assign (.tmp 99), 4, "l06_programtext.go:55", #[⟨8, .data⟩, ⟨9, .chain⟩, ⟨0, .phase⟩, ⟨1, .phase⟩, ⟨2, .phase⟩, ⟨3, .phase⟩, ⟨4, .phase⟩, ⟨5, .phase⟩, ⟨6, .phase⟩, ⟨7, .phase⟩, ⟨8, .phase⟩, ⟨9, .phase⟩], none⟩ : Oper)) (v := (.bool false)) rfl (fun w hSw => ?_) hHeld ?_
            · (try dsimp only at hSw)
              go_simp
            try simp only [Act.put, sJ, tJ, uJ]
            refine wpAnyH_done (by kernel_rfl) ?_ _
            clear hHeld
            go_wp2_with fail
            obtain ⟨k0, k1, k2, k3, k4, k5, k6⟩ := HT.out.cells
            refine bP (v := .tuple #[(.agg #[.string E1.name, .string a.name, .slice A4 L4.length c4, .slice A5 L5.length c5, .int .i64 E2.kind, .string E2.name, .slice A2 E2.args.length c2]), .bool false]) (by simp [results, Tryz.results89, go_sem, k0, k1, k2, k3, k4, k5, k6]) rfl ?_
            exact ⟨_, r, bs, by rw [HIS.out], HRI.out.keeps (fr_keeps HF9.out (HAP.out)), (HMI.out.keeps (fr_keeps HF9.out HAP.out)).mono (by omega), HLO.out.trans (HF9.out.below (by simp) HLO.out.size), HEQ2.out⟩
          by_cases hrt : rt = line
          · have heq9 : (rt.toList == line.toList) = true := by rw [hrt]; simp
            have HIS := zH (show (readRu line).isSome = true by rw [HRD2.out]; simp [hrt])
            have HEQ2 := zH (show ∀ r2, readRu line = some r2 → r = r2 from fun r2 e => by rw [HRD2.out] at e; simp [hrt] at e; exact e)
            clear hrt
            refine wp_region_held_drew (S := (fun X => X.cell? ⟨w2.heap.size + 1, 0, none⟩ = some (.string E1.name) ∧ X.cell? ⟨w2.heap.size + 1, 1, none⟩ = some (.string a.name) ∧ X.cell? ⟨w2.heap.size + 1, 2, none⟩ = some (.slice A4 L4.length c4) ∧ X.cell? ⟨w2.heap.size + 1, 3, none⟩ = some (.slice A5 L5.length c5) ∧ X.cell? ⟨w2.heap.size + 1, 4, none⟩ = some (.int .i64 E2.kind) ∧ X.cell? ⟨w2.heap.size + 1, 5, none⟩ = some (.string E2.name) ∧ X.cell? ⟨w2.heap.size + 1, 6, none⟩ = some (.slice A2 E2.args.length c2) ∧ Hid (Gw w W X))) (by kernel_rfl) ?_ (fun hHeld => ?_)
            · exact HKP.out _ HDR.out
            refine zT (i := 0) (oi := (⟨some 91, Op.load 34 (.tmp 9), 34, "l06_programtext.go:55", #[], none⟩ : Oper)) (v := (.agg #[.string E1.name, .string a.name, .slice A4 L4.length c4, .slice A5 L5.length c5, .int .i64 E2.kind, .string E2.name, .slice A2 E2.args.length c2])) rfl (fun w hSw => ?_) hHeld ?_
            · (try dsimp only at hSw)
              go_simp
            try simp only [Act.put, sJ, tJ, uJ]
            refine zT (i := 1) (oi := (⟨some 92, Op.load 34 (.tmp 9), 34, "l06_programtext.go:55", #[], none⟩ : Oper)) (v := (.agg #[.string E1.name, .string a.name, .slice A4 L4.length c4, .slice A5 L5.length c5, .int .i64 E2.kind, .string E2.name, .slice A2 E2.args.length c2])) rfl (fun w hSw => ?_) hHeld ?_
            · (try dsimp only at hSw)
              go_simp
            try simp only [Act.put, sJ, tJ, uJ]
            refine zC (i := 2) (o := (⟨some 93, Op.call { callee := Callee.value (.func 53), args := #[.tmp 92], argTypes := #[34] }, 4, "l06_programtext.go:55", #[⟨1, .data⟩], none⟩ : Oper)) rfl fun K hK => ?_
            go_simp
            go_at_call 53
            refine (HHD.out _ HDR.out).mono ?_
            rintro e w5 ⟨rfl, hb0⟩
            have Hw5 := zH (HDR.out.go hb0)
            clear hb0 hHeld
            refine hK.out _ _ ?_ (fun hHeld => ?_)
            · exact HKP.out _ Hw5.out
            try simp only [Act.put, sJ, tJ, uJ]
            refine zT (i := 3) (oi := (⟨some 94, Op.move (.tmp 93), 4, "l06_programtext.go:55", #[⟨2, .data⟩, ⟨2, .chain⟩], none⟩ : Oper)) (v := (.bool true)) rfl (fun w hSw => ?_) hHeld ?_
            · (try dsimp only at hSw)
              go_simp
            try simp only [Act.put, sJ, tJ, uJ]
            refine zT (i := 4) (oi := (⟨some 95, Op.load 34 (.tmp 9), 34, "l06_programtext.go:55", #[⟨3, .guard⟩], some (3, true)⟩ : Oper)) (v := (.agg #[.string E1.name, .string a.name, .slice A4 L4.length c4, .slice A5 L5.length c5, .int .i64 E2.kind, .string E2.name, .slice A2 E2.args.length c2])) rfl (fun w hSw => ?_) hHeld ?_
            · (try dsimp only at hSw)
              go_simp
            try simp only [Act.put, sJ, tJ, uJ]
            refine zT (i := 6) (oi := (⟨some 97, Op.move (.tmp 0), 9, "l06_programtext.go:55", #[⟨3, .guard⟩, { on := 9, ground := Ground.gcOnly Departure.lateStores }], some (3, true)⟩ : Oper)) (v := (.string line)) rfl (fun w hSw => ?_) hHeld ?_
            · (try dsimp only at hSw)
              go_simp
            try simp only [Act.put, sJ, tJ, uJ]
            refine zC (i := 5) (o := (⟨some 96, Op.call { callee := Callee.value (.func 102), args := #[.tmp 95], argTypes := #[34] }, 9, "l06_programtext.go:55", #[⟨4, .data⟩, ⟨3, .chain⟩, ⟨3, .guard⟩], some (3, true)⟩ : Oper)) rfl fun K hK => ?_
            go_simp
            go_at_call 102
            refine (HTX.out _ Hw5.out).mono ?_
            rintro e w6 ⟨rfl, hb0⟩
            have Hw6 := zH (Hw5.out.go hb0)
            clear hb0 hHeld
            refine hK.out _ _ ?_ (fun hHeld => ?_)
            · exact HKP.out _ Hw6.out
            try simp only [Act.put, sJ, tJ, uJ]
            refine zT (i := 7) (oi := (⟨some 98, Op.binOp BinOp.eql 9 (.tmp 96) (.tmp 97) 9, 4, "l06_programtext.go:55", #[⟨5, .data⟩, ⟨6, .data⟩, ⟨3, .guard⟩, { on := 9, ground := Ground.gcOnly Departure.lateStores }], some (3, true)⟩ : Oper)) (v := (.bool true)) rfl (fun w hSw => ?_) hHeld ?_
            · (try dsimp only at hSw)
              go_simp
            try simp only [Act.put, sJ, tJ, uJ]
            refine zT (i := 8) (oi := (⟨some 99, Op.pick (.tmp 94) (.tmp 98) (.const (Value.bool false)), 4, "l06_programtext.go:55", #[⟨3, .data⟩, ⟨7, .data⟩, { on := 9, ground := Ground.gcOnly Departure.lateStores }], none⟩ : Oper)) (v := (.bool true)) rfl (fun w hSw => ?_) hHeld ?_
            · (try dsimp only at hSw)
              go_simp
            try simp only [Act.put, sJ, tJ, uJ]
            have hf9 := hHeld.2.2.2.2.2.2.2.out
            obtain ⟨t0, t1, t2, t3, t4, t5, t6, hT⟩ := hf9.2
            obtain ⟨j0, j1, j2, j3, j4, j5, j6⟩ := hT.cells
            have f0 := hT.thaw 0
            have f1 := hT.thaw 1
            have f2 := hT.thaw 2
            have f3 := hT.thaw 3
            have f4 := hT.thaw 4
            have f5 := hT.thaw 5
            have f6 := hT.thaw 6
            have HT := zH (sev_box hT (.string E1.name) (.string a.name) (.slice A4 L4.length c4) (.slice A5 L5.length c5) (.int .i64 E2.kind) (.string E2.name) (.slice A2 E2.args.length c2))
            have HF9 := zH (hf9.1.trans (sev_fr w6 w.heap.size 0 (.string E1.name) (.string a.name) (.slice A4 L4.length c4) (.slice A5 L5.length c5) (.int .i64 E2.kind) (.string E2.name) (.slice A2 E2.args.length c2)) (fun x hx => Or.inl hx))
            clear hT hf9 hHeld
            refine zC (i := 9) (o := (⟨none, Op.store 34 (.tmp 2) (.tmp 91), 0, "l06_programtext.go:55", #[⟨0, .data⟩, ⟨5, .chain⟩, ⟨0, .phase⟩, { on := 1, ground := Ground.textOnly Departure.lateStores }, { on := 2, ground := Ground.textOnly Departure.lateStoresUnsure }, { on := 3, ground := Ground.textOnly Departure.lateStores }, { on := 4, ground := Ground.textOnly Departure.lateStores }, { on := 5, ground := Ground.textOnly Departure.lateStoresUnsure }, { on := 6, ground := Ground.textOnly Departure.lateStores }, { on := 7, ground := Ground.textOnly Departure.lateStores }, { on := 8, ground := Ground.textOnly Departure.lateStores }], none⟩ : Oper)) rfl fun K hK => ?_
            go_simp
            obtain ⟨Wf, hWf⟩ : ∃ V, V = sev w6 w.heap.size 0 (.string E1.name) (.string a.name) (.slice A4 L4.length c4) (.slice A5 L5.length c5) (.int .i64 E2.kind) (.string E2.name) (.slice A2 E2.args.length c2) := ⟨_, rfl⟩
            rw [← hWf] at HT HF9
            unfold sev at hWf
            simp only [Nat.zero_add] at hWf
            rw [← hWf]
            refine hK.out _ _ ?_ (fun hHeld => ?_)
            · exact HKP.out _ ⟨HF9.out, _, _, _, _, _, _, _, HT.out⟩
            clear hK K hWf j0 j1 j2 j3 j4 j5 j6 f0 f1 f2 f3 f4 f5 f6
            try simp only [Act.put, sJ, tJ, uJ]
            refine zT (i := 10) (oi := (⟨some 3, Op.assign (.tmp 99), 4, "l06_programtext.go:55", #[⟨8, .data⟩, ⟨9, .chain⟩, ⟨0, .phase⟩, ⟨1, .phase⟩, ⟨2, .phase⟩, ⟨3, .phase⟩, ⟨4, .phase⟩, ⟨5, .phase⟩, ⟨6, .phase⟩, ⟨7, .phase⟩, ⟨8, .phase⟩, ⟨9, .phase⟩], none⟩ : Oper)) (v := (.bool true)) rfl (fun w hSw => ?_) hHeld ?_
            · (try dsimp only at hSw)
              go_simp
            try simp only [Act.put, sJ, tJ, uJ]
            refine wpAnyH_done (by kernel_rfl) ?_ _
            clear hHeld
            go_wp2_with fail
            obtain ⟨k0, k1, k2, k3, k4, k5, k6⟩ := HT.out.cells
            refine bP (v := .tuple #[(.agg #[.string E1.name, .string a.name, .slice A4 L4.length c4, .slice A5 L5.length c5, .int .i64 E2.kind, .string E2.name, .slice A2 E2.args.length c2]), .bool true]) (by simp [results, Tryz.results89, go_sem, k0, k1, k2, k3, k4, k5, k6]) rfl ?_
            exact ⟨_, r, bs, by rw [HIS.out], HRI.out.keeps (fr_keeps HF9.out (HAP.out)), (HMI.out.keeps (fr_keeps HF9.out HAP.out)).mono (by omega), HLO.out.trans (HF9.out.below (by simp) HLO.out.size), HEQ2.out⟩
          have heq9 : (rt.toList == line.toList) = false := by exact toList_ne hrt
          have HIS := zH (show (readRu line).isSome = false by rw [HRD2.out]; simp [hrt])
          have HEQ2 := zH (show ∀ r2, readRu line = some r2 → r = r2 from fun r2 e => by rw [HRD2.out] at e; simp [hrt] at e; done)
          clear hrt
          refine wp_region_held_drew (S := (fun X => X.cell? ⟨w2.heap.size + 1, 0, none⟩ = some (.string E1.name) ∧ X.cell? ⟨w2.heap.size + 1, 1, none⟩ = some (.string a.name) ∧ X.cell? ⟨w2.heap.size + 1, 2, none⟩ = some (.slice A4 L4.length c4) ∧ X.cell? ⟨w2.heap.size + 1, 3, none⟩ = some (.slice A5 L5.length c5) ∧ X.cell? ⟨w2.heap.size + 1, 4, none⟩ = some (.int .i64 E2.kind) ∧ X.cell? ⟨w2.heap.size + 1, 5, none⟩ = some (.string E2.name) ∧ X.cell? ⟨w2.heap.size + 1, 6, none⟩ = some (.slice A2 E2.args.length c2) ∧ Hid (Gw w W X))) (by kernel_rfl) ?_ (fun hHeld => ?_)
          · exact HKP.out _ HDR.out
          refine zT (i := 0) (oi := (⟨some 91, Op.load 34 (.tmp 9), 34, "l06_programtext.go:55", #[], none⟩ : Oper)) (v := (.agg #[.string E1.name, .string a.name, .slice A4 L4.length c4, .slice A5 L5.length c5, .int .i64 E2.kind, .string E2.name, .slice A2 E2.args.length c2])) rfl (fun w hSw => ?_) hHeld ?_
          · (try dsimp only at hSw)
            go_simp
          try simp only [Act.put, sJ, tJ, uJ]
          refine zT (i := 1) (oi := (⟨some 92, Op.load 34 (.tmp 9), 34, "l06_programtext.go:55", #[], none⟩ : Oper)) (v := (.agg #[.string E1.name, .string a.name, .slice A4 L4.length c4, .slice A5 L5.length c5, .int .i64 E2.kind, .string E2.name, .slice A2 E2.args.length c2])) rfl (fun w hSw => ?_) hHeld ?_
          · (try dsimp only at hSw)
            go_simp
          try simp only [Act.put, sJ, tJ, uJ]
          refine zC (i := 2) (o := (⟨some 93, Op.call { callee := Callee.value (.func 53), args := #[.tmp 92], argTypes := #[34] }, 4, "l06_programtext.go:55", #[⟨1, .data⟩], none⟩ : Oper)) rfl fun K hK => ?_
          go_simp
          go_at_call 53
          refine (HHD.out _ HDR.out).mono ?_
          rintro e w5 ⟨rfl, hb0⟩
          have Hw5 := zH (HDR.out.go hb0)
          clear hb0 hHeld
          refine hK.out _ _ ?_ (fun hHeld => ?_)
          · exact HKP.out _ Hw5.out
          try simp only [Act.put, sJ, tJ, uJ]
          refine zT (i := 3) (oi := (⟨some 94, Op.move (.tmp 93), 4, "l06_programtext.go:55", #[⟨2, .data⟩, ⟨2, .chain⟩], none⟩ : Oper)) (v := (.bool true)) rfl (fun w hSw => ?_) hHeld ?_
          · (try dsimp only at hSw)
            go_simp
          try simp only [Act.put, sJ, tJ, uJ]
          refine zT (i := 4) (oi := (⟨some 95, Op.load 34 (.tmp 9), 34, "l06_programtext.go:55", #[⟨3, .guard⟩], some (3, true)⟩ : Oper)) (v := (.agg #[.string E1.name, .string a.name, .slice A4 L4.length c4, .slice A5 L5.length c5, .int .i64 E2.kind, .string E2.name, .slice A2 E2.args.length c2])) rfl (fun w hSw => ?_) hHeld ?_
          · (try dsimp only at hSw)
            go_simp
          try simp only [Act.put, sJ, tJ, uJ]
          refine zT (i := 6) (oi := (⟨some 97, Op.move (.tmp 0), 9, "l06_programtext.go:55", #[⟨3, .guard⟩, { on := 9, ground := Ground.gcOnly Departure.lateStores }], some (3, true)⟩ : Oper)) (v := (.string line)) rfl (fun w hSw => ?_) hHeld ?_
          · (try dsimp only at hSw)
            go_simp
          try simp only [Act.put, sJ, tJ, uJ]
          refine zC (i := 5) (o := (⟨some 96, Op.call { callee := Callee.value (.func 102), args := #[.tmp 95], argTypes := #[34] }, 9, "l06_programtext.go:55", #[⟨4, .data⟩, ⟨3, .chain⟩, ⟨3, .guard⟩], some (3, true)⟩ : Oper)) rfl fun K hK => ?_
          go_simp
          go_at_call 102
          refine (HTX.out _ Hw5.out).mono ?_
          rintro e w6 ⟨rfl, hb0⟩
          have Hw6 := zH (Hw5.out.go hb0)
          clear hb0 hHeld
          refine hK.out _ _ ?_ (fun hHeld => ?_)
          · exact HKP.out _ Hw6.out
          try simp only [Act.put, sJ, tJ, uJ]
          refine zT (i := 7) (oi := (⟨some 98, Op.binOp BinOp.eql 9 (.tmp 96) (.tmp 97) 9, 4, "l06_programtext.go:55", #[⟨5, .data⟩, ⟨6, .data⟩, ⟨3, .guard⟩, { on := 9, ground := Ground.gcOnly Departure.lateStores }], some (3, true)⟩ : Oper)) (v := (.bool false)) rfl (fun w hSw => ?_) hHeld ?_
          · (try dsimp only at hSw)
            go_simp
          try simp only [Act.put, sJ, tJ, uJ]
          refine zT (i := 8) (oi := (⟨some 99, Op.pick (.tmp 94) (.tmp 98) (.const (Value.bool false)), 4, "l06_programtext.go:55", #[⟨3, .data⟩, ⟨7, .data⟩, { on := 9, ground := Ground.gcOnly Departure.lateStores }], none⟩ : Oper)) (v := (.bool false)) rfl (fun w hSw => ?_) hHeld ?_
          · (try dsimp only at hSw)
            go_simp
          try simp only [Act.put, sJ, tJ, uJ]
          have hf9 := hHeld.2.2.2.2.2.2.2.out
          obtain ⟨t0, t1, t2, t3, t4, t5, t6, hT⟩ := hf9.2
          obtain ⟨j0, j1, j2, j3, j4, j5, j6⟩ := hT.cells
          have f0 := hT.thaw 0
          have f1 := hT.thaw 1
          have f2 := hT.thaw 2
          have f3 := hT.thaw 3
          have f4 := hT.thaw 4
          have f5 := hT.thaw 5
          have f6 := hT.thaw 6
          have HT := zH (sev_box hT (.string E1.name) (.string a.name) (.slice A4 L4.length c4) (.slice A5 L5.length c5) (.int .i64 E2.kind) (.string E2.name) (.slice A2 E2.args.length c2))
          have HF9 := zH (hf9.1.trans (sev_fr w6 w.heap.size 0 (.string E1.name) (.string a.name) (.slice A4 L4.length c4) (.slice A5 L5.length c5) (.int .i64 E2.kind) (.string E2.name) (.slice A2 E2.args.length c2)) (fun x hx => Or.inl hx))
          clear hT hf9 hHeld
          refine zC (i := 9) (o := (⟨none, Op.store 34 (.tmp 2) (.tmp 91), 0, "l06_programtext.go:55", #[⟨0, .data⟩, ⟨5, .chain⟩, ⟨0, .phase⟩, { on := 1, ground := Ground.textOnly Departure.lateStores }, { on := 2, ground := Ground.textOnly Departure.lateStoresUnsure }, { on := 3, ground := Ground.textOnly Departure.lateStores }, { on := 4, ground := Ground.textOnly Departure.lateStores }, { on := 5, ground := Ground.textOnly Departure.lateStoresUnsure }, { on := 6, ground := Ground.textOnly Departure.lateStores }, { on := 7, ground := Ground.textOnly Departure.lateStores }, { on := 8, ground := Ground.textOnly Departure.lateStores }], none⟩ : Oper)) rfl fun K hK => ?_
          go_simp
          obtain ⟨Wf, hWf⟩ : ∃ V, V = sev w6 w.heap.size 0 (.string E1.name) (.string a.name) (.slice A4 L4.length c4) (.slice A5 L5.length c5) (.int .i64 E2.kind) (.string E2.name) (.slice A2 E2.args.length c2) := ⟨_, rfl⟩
          rw [← hWf] at HT HF9
          unfold sev at hWf
          simp only [Nat.zero_add] at hWf
          rw [← hWf]
          refine hK.out _ _ ?_ (fun hHeld => ?_)
          · exact HKP.out _ ⟨HF9.out, _, _, _, _, _, _, _, HT.out⟩
          clear hK K hWf j0 j1 j2 j3 j4 j5 j6 f0 f1 f2 f3 f4 f5 f6
          try simp only [Act.put, sJ, tJ, uJ]
          refine zT (i := 10) (oi := (⟨some 3, Op.assign (.tmp 99), 4, "l06_programtext.go:55", #[⟨8, .data⟩, ⟨9, .chain⟩, ⟨0, .phase⟩, ⟨1, .phase⟩, ⟨2, .phase⟩, ⟨3, .phase⟩, ⟨4, .phase⟩, ⟨5, .phase⟩, ⟨6, .phase⟩, ⟨7, .phase⟩, ⟨8, .phase⟩, ⟨9, .phase⟩], none⟩ : Oper)) (v := (.bool false)) rfl (fun w hSw => ?_) hHeld ?_
          · (try dsimp only at hSw)
            go_simp
          try simp only [Act.put, sJ, tJ, uJ]
          refine wpAnyH_done (by kernel_rfl) ?_ _
          clear hHeld
          go_wp2_with fail
          obtain ⟨k0, k1, k2, k3, k4, k5, k6⟩ := HT.out.cells
          refine bP (v := .tuple #[(.agg #[.string E1.name, .string a.name, .slice A4 L4.length c4, .slice A5 L5.length c5, .int .i64 E2.kind, .string E2.name, .slice A2 E2.args.length c2]), .bool false]) (by simp [results, Tryz.results89, go_sem, k0, k1, k2, k3, k4, k5, k6]) rfl ?_
          exact ⟨_, r, bs, by rw [HIS.out], HRI.out.keeps (fr_keeps HF9.out (HAP.out)), (HMI.out.keeps (fr_keeps HF9.out HAP.out)).mono (by omega), HLO.out.trans (HF9.out.below (by simp) HLO.out.size), HEQ2.out⟩
        have hka2 : (a.kind == 2) = false := by simpa using hka
        obtain ⟨L4, hL4⟩ : ∃ L, L = (a :: t).map Ex.name := ⟨_, rfl⟩
        have HL4 := zH hL4
        have HR := zH (show r = ⟨E1.name, ⟨#[]⟩, [], L4, E2⟩ by rw [HPARTS.out, if_neg hka, hL4])
        clear hka hL4
        obtain ⟨W3, hW3⟩ : ∃ W3, W3 = (w2.alloc (.cells #[.int .i64 E2.kind, .string E2.name, .slice A2 E2.args.length c2] 32)).alloc (.cells #[.string E1.name, .string ⟨#[]⟩, .slice none 0 0, .slice none 0 0, .int .i64 E2.kind, .string E2.name, .slice A2 E2.args.length c2] 34) := ⟨_, rfl⟩
        have hb3 : Below w2.heap.size w2 W3 := by rw [hW3]; exact ((wB _ w2).alloc (nR _) _).alloc (by simp) _
        have hx3 : Box7 W3 (w2.heap.size + 1) 34 (.string E1.name) (.string ⟨#[]⟩) (.slice none 0 0) (.slice none 0 0) (.int .i64 E2.kind) (.string E2.name) (.slice A2 E2.args.length c2) := by
         rw [hW3]
         have h := box7_new (w := w2.alloc (.cells #[.int .i64 E2.kind, .string E2.name, .slice A2 E2.args.length c2] 32)) (T := 34) (x0 := .string E1.name) (x1 := .string ⟨#[]⟩) (x2 := .slice none 0 0) (x3 := .slice none 0 0) (x4 := .int .i64 E2.kind) (x5 := .string E2.name) (x6 := .slice A2 E2.args.length c2) (wB _ _)
         simp only [World.size_alloc] at h
         exact h
        have HB3 := zH hb3
        have HX3 := zH hx3
        have HW3 := zH hW3
        have HCA := zH (show Calls Tryz.prog 101 #[.slice (some ⟨g, o, none⟩) n1 c1] W3 (StrsPost L4 W3) from by have h9 := names_sl HSL.out hn1s HB3.out; rw [← HL4.out] at h9; exact h9)
        clear hb3 hx3 hW3
        go_wp2_with (go_at_call 101; rw [← HW3.out]; refine HCA.out.mono ?_; rintro e w4 ⟨v4, rfl, ho4, hb4⟩; obtain ⟨A4, c4, rfl, -⟩ := ho4.shape; have HO4 := zH ho4; have HB4 := zH hb4; have HX4 := zH (HX3.out.keep (Fr.of_below (S := []) hb4) (by simp)); obtain ⟨y0, y1, y2, y3, y4, y5, y6⟩ := HX4.out.cells; have z3 := HX4.out.thaw 3; clear ho4 hb4)
        obtain ⟨W, hW⟩ : ∃ W, W = w4.setCell ⟨w2.heap.size + 1, 3, none⟩ (.slice A4 L4.length c4) := ⟨_, rfl⟩
        have hf4 : Fr [w2.heap.size + 1] w2 W := by rw [hW]; exact (Fr.of_below (HB3.out.trans (HB4.out.mono HB3.out.size))).trans (Fr.set (S := [w2.heap.size + 1]) w4 ⟨w2.heap.size + 1, 3, none⟩ (.slice A4 L4.length c4) (by simp)) (by simp)
        obtain ⟨d4, hd4, hm4⟩ := owns_ps HO4.out (by rw [HL4.out, ← HARGS.out]; exact HSN.out)
        have hg4 : ∀ x ∈ d4, w2.heap.size + 1 < x := fun x hx => by have := (hm4.range x hx).1; have := HX3.out.lt; omega
        have hk4 : Keeps w4 W d4 := by rw [hW]; exact keeps_set (fun x hx => by have := hg4 x hx; show x ≠ w2.heap.size + 1; omega)
        have hr2 : ∀ x ∈ b2, w1.heap.size ≤ x ∧ x < w2.heap.size := fun x hx => by have := HM2.out.range x hx; simp at this; omega
        have hk2 : Keeps w2 W b2 := fr_keeps hf4 (fun x hx => by have := hr2 x hx; simp; omega)
        have hw1 : w.heap.size < w1.heap.size := nL HX0.out.lt HB1.out.size
        have hmi : Mine W (w.heap.size + 1) (d4 ++ b2) := mine_app ((hm4.keeps hk4).mono (by have := HX3.out.lt; omega)) ((HM2.out.keeps hk2).mono (by simp; omega)) (fun x hx hx2 => by have := hg4 x hx; have := hr2 x hx2; omega)
        have hri : RuS W (.agg #[.string E1.name, .string ⟨#[]⟩, .slice none 0 0, .slice A4 L4.length c4, .int .i64 E2.kind, .string E2.name, .slice A2 E2.args.length c2]) r (d4 ++ b2) := by
         rw [HR.out]
         exact ⟨_, _, _, [], d4, b2, rfl, HI1B.out.choose_spec.2.1, Nat.zero_le _, rfl, ss_nil W, hd4.keeps hk4, HI2.out.keeps hk2⟩
        have hlo : Below w.heap.size w W := HL2.out.trans (hf4.below (by simp; omega) HL2.out.size)
        have hxb := HX2.out.keep hf4 (by simp; omega)
        have hxr : Box7 W (w2.heap.size + 1) 34 (.string E1.name) (.string ⟨#[]⟩) (.slice none 0 0) (.slice A4 L4.length c4) (.int .i64 E2.kind) (.string E2.name) (.slice A2 E2.args.length c2) := by rw [hW]; exact HX4.out.set3 _
        rw [← hW]
        have HW := zH hW
        generalize hbs : d4 ++ b2 = bs at *
        clear hW hf4 hd4 hm4 hg4 hk4 hr2 hk2 hbs y0 y1 y2 y3 y4 y5 y6 z3 j0 j1 j2 j3 j4 j5 j6 f0 f1 f2 f3 f4 f5 f6
        have HXR := zH hxr
        have HMI := zH hmi
        have HLO := zH hlo
        have HRI := zH hri
        have hap : ∀ x ∈ bs, x ∉ [w.heap.size] := fun x hx => by have := (hmi.range x hx).1; simp; omega
        have HAP := zH hap
        have HHD := zH (fun (Y : World) (hY : Gw w W Y) => head_any r _ bs Y (hri.keeps (fr_keeps hY.1 hap)).ru HRT.out)
        have HTX := zH (fun (Y : World) (hY : Gw w W Y) => spec_rutext r _ bs Y (hri.keeps (fr_keeps hY.1 hap)).ru HRT.out)
        have hwb : w2.heap.size + 1 ∉ [w.heap.size] := by simp; omega
        have HKP := zH (fun (X : World) (hX : Gw w W X) => show X.cell? ⟨w2.heap.size + 1, 0, none⟩ = some (.string E1.name) ∧ X.cell? ⟨w2.heap.size + 1, 1, none⟩ = some (.string ⟨#[]⟩) ∧ X.cell? ⟨w2.heap.size + 1, 2, none⟩ = some (.slice none 0 0) ∧ X.cell? ⟨w2.heap.size + 1, 3, none⟩ = some (.slice A4 L4.length c4) ∧ X.cell? ⟨w2.heap.size + 1, 4, none⟩ = some (.int .i64 E2.kind) ∧ X.cell? ⟨w2.heap.size + 1, 5, none⟩ = some (.string E2.name) ∧ X.cell? ⟨w2.heap.size + 1, 6, none⟩ = some (.slice A2 E2.args.length c2) ∧ Hid (Gw w W X) from by
         obtain ⟨y0, y1, y2, y3, y4, y5, y6⟩ := (hxr.keep hX.1 hwb).cells
         exact ⟨y0, y1, y2, y3, y4, y5, y6, zH hX⟩)
        have HDR := zH (show Gw w W W.drew from ⟨(Fr.refl [w.heap.size] W).drew, _, _, _, _, _, _, _, hxb.keep ((Fr.refl [] W).drew) (by simp)⟩)
        generalize headOk r = hb at *
        generalize ruStr r = rt at *
        clear hxr hxb hmi hlo hri hap hwb
        cases hb
        · have HN := zH (show readRu line = none by rw [HRD2.out]; simp)
          have HIS := zH (show (readRu line).isSome = false by rw [HN.out]; rfl)
          have HEQ2 := zH (show ∀ r2, readRu line = some r2 → r = r2 from fun r2 e => by rw [HN.out] at e; cases e)
          refine wp_region_held_drew (S := (fun X => X.cell? ⟨w2.heap.size + 1, 0, none⟩ = some (.string E1.name) ∧ X.cell? ⟨w2.heap.size + 1, 1, none⟩ = some (.string ⟨#[]⟩) ∧ X.cell? ⟨w2.heap.size + 1, 2, none⟩ = some (.slice none 0 0) ∧ X.cell? ⟨w2.heap.size + 1, 3, none⟩ = some (.slice A4 L4.length c4) ∧ X.cell? ⟨w2.heap.size + 1, 4, none⟩ = some (.int .i64 E2.kind) ∧ X.cell? ⟨w2.heap.size + 1, 5, none⟩ = some (.string E2.name) ∧ X.cell? ⟨w2.heap.size + 1, 6, none⟩ = some (.slice A2 E2.args.length c2) ∧ Hid (Gw w W X))) (by kernel_rfl) ?_ (fun hHeld => ?_)
          · exact HKP.out _ HDR.out
          refine zT (i := 0) (oi := (⟨some 91, Op.load 34 (.tmp 9), 34, "l06_programtext.go:55", #[], none⟩ : Oper)) (v := (.agg #[.string E1.name, .string ⟨#[]⟩, .slice none 0 0, .slice A4 L4.length c4, .int .i64 E2.kind, .string E2.name, .slice A2 E2.args.length c2])) rfl (fun w hSw => ?_) hHeld ?_
          · (try dsimp only at hSw)
            go_simp
          try simp only [Act.put, sJ, tJ, uJ]
          refine zT (i := 1) (oi := (⟨some 92, Op.load 34 (.tmp 9), 34, "l06_programtext.go:55", #[], none⟩ : Oper)) (v := (.agg #[.string E1.name, .string ⟨#[]⟩, .slice none 0 0, .slice A4 L4.length c4, .int .i64 E2.kind, .string E2.name, .slice A2 E2.args.length c2])) rfl (fun w hSw => ?_) hHeld ?_
          · (try dsimp only at hSw)
            go_simp
          try simp only [Act.put, sJ, tJ, uJ]
          refine zC (i := 2) (o := (⟨some 93, Op.call { callee := Callee.value (.func 53), args := #[.tmp 92], argTypes := #[34] }, 4, "l06_programtext.go:55", #[⟨1, .data⟩], none⟩ : Oper)) rfl fun K hK => ?_
          go_simp
          go_at_call 53
          refine (HHD.out _ HDR.out).mono ?_
          rintro e w5 ⟨rfl, hb0⟩
          have Hw5 := zH (HDR.out.go hb0)
          clear hb0 hHeld
          refine hK.out _ _ ?_ (fun hHeld => ?_)
          · exact HKP.out _ Hw5.out
          try simp only [Act.put, sJ, tJ, uJ]
          refine zT (i := 3) (oi := (⟨some 94, Op.move (.tmp 93), 4, "l06_programtext.go:55", #[⟨2, .data⟩, ⟨2, .chain⟩], none⟩ : Oper)) (v := (.bool false)) rfl (fun w hSw => ?_) hHeld ?_
          · (try dsimp only at hSw)
            go_simp
          try simp only [Act.put, sJ, tJ, uJ]
          refine wpAnyH_take (i := 4) (oi := (⟨some 95, Op.load 34 (.tmp 9), 34, "l06_programtext.go:55", #[⟨3, .guard⟩], some (3, true)⟩ : Oper)) (v := undef) rfl (by kernel_rfl) (by kernel_rfl) (by kernel_rfl) (fun _ _ _ h => h) (Or.inr ⟨by rfl, rfl⟩) hHeld ?_
          try simp only [Act.put, sJ, tJ, uJ]
          refine wpAnyH_take (i := 6) (oi := (⟨some 97, Op.move (.tmp 0), 9, "l06_programtext.go:55", #[⟨3, .guard⟩, { on := 9, ground := Ground.gcOnly Departure.lateStores }], some (3, true)⟩ : Oper)) (v := undef) rfl (by kernel_rfl) (by kernel_rfl) (by kernel_rfl) (fun _ _ _ h => h) (Or.inr ⟨by rfl, rfl⟩) hHeld ?_
          try simp only [Act.put, sJ, tJ, uJ]
          refine zC (i := 5) (o := (⟨some 96, Op.call { callee := Callee.value (.func 102), args := #[.tmp 95], argTypes := #[34] }, 9, "l06_programtext.go:55", #[⟨4, .data⟩, ⟨3, .chain⟩, ⟨3, .guard⟩], some (3, true)⟩ : Oper)) rfl fun K hK => ?_
          go_simp
          refine hK.out _ _ hHeld (fun hHeld => ?_)
          try simp only [Act.put, sJ, tJ, uJ]
          refine wpAnyH_take (i := 7) (oi := (⟨some 98, Op.binOp BinOp.eql 9 (.tmp 96) (.tmp 97) 9, 4, "l06_programtext.go:55", #[⟨5, .data⟩, ⟨6, .data⟩, ⟨3, .guard⟩, { on := 9, ground := Ground.gcOnly Departure.lateStores }], some (3, true)⟩ : Oper)) (v := undef) rfl (by kernel_rfl) (by kernel_rfl) (by kernel_rfl) (fun _ _ _ h => h) (Or.inr ⟨by rfl, rfl⟩) hHeld ?_
          try simp only [Act.put, sJ, tJ, uJ]
          refine zT (i := 8) (oi := (⟨some 99, Op.pick (.tmp 94) (.tmp 98) (.const (Value.bool false)), 4, "l06_programtext.go:55", #[⟨3, .data⟩, ⟨7, .data⟩, { on := 9, ground := Ground.gcOnly Departure.lateStores }], none⟩ : Oper)) (v := (.bool false)) rfl (fun w hSw => ?_) hHeld ?_
          · (try dsimp only at hSw)
            go_simp
          try simp only [Act.put, sJ, tJ, uJ]
          have hf9 := hHeld.2.2.2.2.2.2.2.out
          obtain ⟨t0, t1, t2, t3, t4, t5, t6, hT⟩ := hf9.2
          obtain ⟨j0, j1, j2, j3, j4, j5, j6⟩ := hT.cells
          have f0 := hT.thaw 0
          have f1 := hT.thaw 1
          have f2 := hT.thaw 2
          have f3 := hT.thaw 3
          have f4 := hT.thaw 4
          have f5 := hT.thaw 5
          have f6 := hT.thaw 6
          have HT := zH (sev_box hT (.string E1.name) (.string ⟨#[]⟩) (.slice none 0 0) (.slice A4 L4.length c4) (.int .i64 E2.kind) (.string E2.name) (.slice A2 E2.args.length c2))
          have HF9 := zH (hf9.1.trans (sev_fr w5 w.heap.size 0 (.string E1.name) (.string ⟨#[]⟩) (.slice none 0 0) (.slice A4 L4.length c4) (.int .i64 E2.kind) (.string E2.name) (.slice A2 E2.args.length c2)) (fun x hx => Or.inl hx))
          clear hT hf9 hHeld
          refine zC (i := 9) (o := (⟨none, Op.store 34 (.tmp 2) (.tmp 91), 0, "l06_programtext.go:55", #[⟨0, .data⟩, ⟨5, .chain⟩, ⟨0, .phase⟩, { on := 1, ground := Ground.textOnly Departure.lateStores }, { on := 2, ground := Ground.textOnly Departure.lateStoresUnsure }, { on := 3, ground := Ground.textOnly Departure.lateStores }, { on := 4, ground := Ground.textOnly Departure.lateStores }, { on := 5, ground := Ground.textOnly Departure.lateStoresUnsure }, { on := 6, ground := Ground.textOnly Departure.lateStores }, { on := 7, ground := Ground.textOnly Departure.lateStores }, { on := 8, ground := Ground.textOnly Departure.lateStores }], none⟩ : Oper)) rfl fun K hK => ?_
          go_simp
          obtain ⟨Wf, hWf⟩ : ∃ V, V = sev w5 w.heap.size 0 (.string E1.name) (.string ⟨#[]⟩) (.slice none 0 0) (.slice A4 L4.length c4) (.int .i64 E2.kind) (.string E2.name) (.slice A2 E2.args.length c2) := ⟨_, rfl⟩
          rw [← hWf] at HT HF9
          unfold sev at hWf
          simp only [Nat.zero_add] at hWf
          rw [← hWf]
          refine hK.out _ _ ?_ (fun hHeld => ?_)
          · exact HKP.out _ ⟨HF9.out, _, _, _, _, _, _, _, HT.out⟩
          clear hK K hWf j0 j1 j2 j3 j4 j5 j6 f0 f1 f2 f3 f4 f5 f6
          try simp only [Act.put, sJ, tJ, uJ]
          refine zT (i := 10) (oi := (⟨some 3, Op.assign (.tmp 99), 4, "l06_programtext.go:55", #[⟨8, .data⟩, ⟨9, .chain⟩, ⟨0, .phase⟩, ⟨1, .phase⟩, ⟨2, .phase⟩, ⟨3, .phase⟩, ⟨4, .phase⟩, ⟨5, .phase⟩, ⟨6, .phase⟩, ⟨7, .phase⟩, ⟨8, .phase⟩, ⟨9, .phase⟩], none⟩ : Oper)) (v := (.bool false)) rfl (fun w hSw => ?_) hHeld ?_
          · (try dsimp only at hSw)
            go_simp
          try simp only [Act.put, sJ, tJ, uJ]
          refine wpAnyH_done (by kernel_rfl) ?_ _
          clear hHeld
          go_wp2_with fail
          obtain ⟨k0, k1, k2, k3, k4, k5, k6⟩ := HT.out.cells
          refine bP (v := .tuple #[(.agg #[.string E1.name, .string ⟨#[]⟩, .slice none 0 0, .slice A4 L4.length c4, .int .i64 E2.kind, .string E2.name, .slice A2 E2.args.length c2]), .bool false]) (by simp [results, Tryz.results89, go_sem, k0, k1, k2, k3, k4, k5, k6]) rfl ?_
          exact ⟨_, r, bs, by rw [HIS.out], HRI.out.keeps (fr_keeps HF9.out (HAP.out)), (HMI.out.keeps (fr_keeps HF9.out HAP.out)).mono (by omega), HLO.out.trans (HF9.out.below (by simp) HLO.out.size), HEQ2.out⟩
        by_cases hrt : rt = line
        · have heq9 : (rt.toList == line.toList) = true := by rw [hrt]; simp
          have HIS := zH (show (readRu line).isSome = true by rw [HRD2.out]; simp [hrt])
          have HEQ2 := zH (show ∀ r2, readRu line = some r2 → r = r2 from fun r2 e => by rw [HRD2.out] at e; simp [hrt] at e; exact e)
          clear hrt
          refine wp_region_held_drew (S := (fun X => X.cell? ⟨w2.heap.size + 1, 0, none⟩ = some (.string E1.name) ∧ X.cell? ⟨w2.heap.size + 1, 1, none⟩ = some (.string ⟨#[]⟩) ∧ X.cell? ⟨w2.heap.size + 1, 2, none⟩ = some (.slice none 0 0) ∧ X.cell? ⟨w2.heap.size + 1, 3, none⟩ = some (.slice A4 L4.length c4) ∧ X.cell? ⟨w2.heap.size + 1, 4, none⟩ = some (.int .i64 E2.kind) ∧ X.cell? ⟨w2.heap.size + 1, 5, none⟩ = some (.string E2.name) ∧ X.cell? ⟨w2.heap.size + 1, 6, none⟩ = some (.slice A2 E2.args.length c2) ∧ Hid (Gw w W X))) (by kernel_rfl) ?_ (fun hHeld => ?_)
          · exact HKP.out _ HDR.out
          refine zT (i := 0) (oi := (⟨some 91, Op.load 34 (.tmp 9), 34, "l06_programtext.go:55", #[], none⟩ : Oper)) (v := (.agg #[.string E1.name, .string ⟨#[]⟩, .slice none 0 0, .slice A4 L4.length c4, .int .i64 E2.kind, .string E2.name, .slice A2 E2.args.length c2])) rfl (fun w hSw => ?_) hHeld ?_
          · (try dsimp only at hSw)
            go_simp
          try simp only [Act.put, sJ, tJ, uJ]
          refine zT (i := 1) (oi := (⟨some 92, Op.load 34 (.tmp 9), 34, "l06_programtext.go:55", #[], none⟩ : Oper)) (v := (.agg #[.string E1.name, .string ⟨#[]⟩, .slice none 0 0, .slice A4 L4.length c4, .int .i64 E2.kind, .string E2.name, .slice A2 E2.args.length c2])) rfl (fun w hSw => ?_) hHeld ?_
          · (try dsimp only at hSw)
            go_simp
          try simp only [Act.put, sJ, tJ, uJ]
          refine zC (i := 2) (o := (⟨some 93, Op.call { callee := Callee.value (.func 53), args := #[.tmp 92], argTypes := #[34] }, 4, "l06_programtext.go:55", #[⟨1, .data⟩], none⟩ : Oper)) rfl fun K hK => ?_
          go_simp
          go_at_call 53
          refine (HHD.out _ HDR.out).mono ?_
          rintro e w5 ⟨rfl, hb0⟩
          have Hw5 := zH (HDR.out.go hb0)
          clear hb0 hHeld
          refine hK.out _ _ ?_ (fun hHeld => ?_)
          · exact HKP.out _ Hw5.out
          try simp only [Act.put, sJ, tJ, uJ]
          refine zT (i := 3) (oi := (⟨some 94, Op.move (.tmp 93), 4, "l06_programtext.go:55", #[⟨2, .data⟩, ⟨2, .chain⟩], none⟩ : Oper)) (v := (.bool true)) rfl (fun w hSw => ?_) hHeld ?_
          · (try dsimp only at hSw)
            go_simp
          try simp only [Act.put, sJ, tJ, uJ]
          refine zT (i := 4) (oi := (⟨some 95, Op.load 34 (.tmp 9), 34, "l06_programtext.go:55", #[⟨3, .guard⟩], some (3, true)⟩ : Oper)) (v := (.agg #[.string E1.name, .string ⟨#[]⟩, .slice none 0 0, .slice A4 L4.length c4, .int .i64 E2.kind, .string E2.name, .slice A2 E2.args.length c2])) rfl (fun w hSw => ?_) hHeld ?_
          · (try dsimp only at hSw)
            go_simp
          try simp only [Act.put, sJ, tJ, uJ]
          refine zT (i := 6) (oi := (⟨some 97, Op.move (.tmp 0), 9, "l06_programtext.go:55", #[⟨3, .guard⟩, { on := 9, ground := Ground.gcOnly Departure.lateStores }], some (3, true)⟩ : Oper)) (v := (.string line)) rfl (fun w hSw => ?_) hHeld ?_
          · (try dsimp only at hSw)
            go_simp
          try simp only [Act.put, sJ, tJ, uJ]
          refine zC (i := 5) (o := (⟨some 96, Op.call { callee := Callee.value (.func 102), args := #[.tmp 95], argTypes := #[34] }, 9, "l06_programtext.go:55", #[⟨4, .data⟩, ⟨3, .chain⟩, ⟨3, .guard⟩], some (3, true)⟩ : Oper)) rfl fun K hK => ?_
          go_simp
          go_at_call 102
          refine (HTX.out _ Hw5.out).mono ?_
          rintro e w6 ⟨rfl, hb0⟩
          have Hw6 := zH (Hw5.out.go hb0)
          clear hb0 hHeld
          refine hK.out _ _ ?_ (fun hHeld => ?_)
          · exact HKP.out _ Hw6.out
          try simp only [Act.put, sJ, tJ, uJ]
          refine zT (i := 7) (oi := (⟨some 98, Op.binOp BinOp.eql 9 (.tmp 96) (.tmp 97) 9, 4, "l06_programtext.go:55", #[⟨5, .data⟩, ⟨6, .data⟩, ⟨3, .guard⟩, { on := 9, ground := Ground.gcOnly Departure.lateStores }], some (3, true)⟩ : Oper)) (v := (.bool true)) rfl (fun w hSw => ?_) hHeld ?_
          · (try dsimp only at hSw)
            go_simp
          try simp only [Act.put, sJ, tJ, uJ]
          refine zT (i := 8) (oi := (⟨some 99, Op.pick (.tmp 94) (.tmp 98) (.const (Value.bool false)), 4, "l06_programtext.go:55", #[⟨3, .data⟩, ⟨7, .data⟩, { on := 9, ground := Ground.gcOnly Departure.lateStores }], none⟩ : Oper)) (v := (.bool true)) rfl (fun w hSw => ?_) hHeld ?_
          · (try dsimp only at hSw)
            go_simp
          try simp only [Act.put, sJ, tJ, uJ]
          have hf9 := hHeld.2.2.2.2.2.2.2.out
          obtain ⟨t0, t1, t2, t3, t4, t5, t6, hT⟩ := hf9.2
          obtain ⟨j0, j1, j2, j3, j4, j5, j6⟩ := hT.cells
          have f0 := hT.thaw 0
          have f1 := hT.thaw 1
          have f2 := hT.thaw 2
          have f3 := hT.thaw 3
          have f4 := hT.thaw 4
          have f5 := hT.thaw 5
          have f6 := hT.thaw 6
          have HT := zH (sev_box hT (.string E1.name) (.string ⟨#[]⟩) (.slice none 0 0) (.slice A4 L4.length c4) (.int .i64 E2.kind) (.string E2.name) (.slice A2 E2.args.length c2))
          have HF9 := zH (hf9.1.trans (sev_fr w6 w.heap.size 0 (.string E1.name) (.string ⟨#[]⟩) (.slice none 0 0) (.slice A4 L4.length c4) (.int .i64 E2.kind) (.string E2.name) (.slice A2 E2.args.length c2)) (fun x hx => Or.inl hx))
          clear hT hf9 hHeld
          refine zC (i := 9) (o := (⟨none, Op.store 34 (.tmp 2) (.tmp 91), 0, "l06_programtext.go:55", #[⟨0, .data⟩, ⟨5, .chain⟩, ⟨0, .phase⟩, { on := 1, ground := Ground.textOnly Departure.lateStores }, { on := 2, ground := Ground.textOnly Departure.lateStoresUnsure }, { on := 3, ground := Ground.textOnly Departure.lateStores }, { on := 4, ground := Ground.textOnly Departure.lateStores }, { on := 5, ground := Ground.textOnly Departure.lateStoresUnsure }, { on := 6, ground := Ground.textOnly Departure.lateStores }, { on := 7, ground := Ground.textOnly Departure.lateStores }, { on := 8, ground := Ground.textOnly Departure.lateStores }], none⟩ : Oper)) rfl fun K hK => ?_
          go_simp
          obtain ⟨Wf, hWf⟩ : ∃ V, V = sev w6 w.heap.size 0 (.string E1.name) (.string ⟨#[]⟩) (.slice none 0 0) (.slice A4 L4.length c4) (.int .i64 E2.kind) (.string E2.name) (.slice A2 E2.args.length c2) := ⟨_, rfl⟩
          rw [← hWf] at HT HF9
          unfold sev at hWf
          simp only [Nat.zero_add] at hWf
          rw [← hWf]
          refine hK.out _ _ ?_ (fun hHeld => ?_)
          · exact HKP.out _ ⟨HF9.out, _, _, _, _, _, _, _, HT.out⟩
          clear hK K hWf j0 j1 j2 j3 j4 j5 j6 f0 f1 f2 f3 f4 f5 f6
          try simp only [Act.put, sJ, tJ, uJ]
          refine zT (i := 10) (oi := (⟨some 3, Op.assign (.tmp 99), 4, "l06_programtext.go:55", #[⟨8, .data⟩, ⟨9, .chain⟩, ⟨0, .phase⟩, ⟨1, .phase⟩, ⟨2, .phase⟩, ⟨3, .phase⟩, ⟨4, .phase⟩, ⟨5, .phase⟩, ⟨6, .phase⟩, ⟨7, .phase⟩, ⟨8, .phase⟩, ⟨9, .phase⟩], none⟩ : Oper)) (v := (.bool true)) rfl (fun w hSw => ?_) hHeld ?_
          · (try dsimp only at hSw)
            go_simp
          try simp only [Act.put, sJ, tJ, uJ]
          refine wpAnyH_done (by kernel_rfl) ?_ _
          clear hHeld
          go_wp2_with fail
          obtain ⟨k0, k1, k2, k3, k4, k5, k6⟩ := HT.out.cells
          refine bP (v := .tuple #[(.agg #[.string E1.name, .string ⟨#[]⟩, .slice none 0 0, .slice A4 L4.length c4, .int .i64 E2.kind, .string E2.name, .slice A2 E2.args.length c2]), .bool true]) (by simp [results, Tryz.results89, go_sem, k0, k1, k2, k3, k4, k5, k6]) rfl ?_
          exact ⟨_, r, bs, by rw [HIS.out], HRI.out.keeps (fr_keeps HF9.out (HAP.out)), (HMI.out.keeps (fr_keeps HF9.out HAP.out)).mono (by omega), HLO.out.trans (HF9.out.below (by simp) HLO.out.size), HEQ2.out⟩
        have heq9 : (rt.toList == line.toList) = false := by exact toList_ne hrt
        have HIS := zH (show (readRu line).isSome = false by rw [HRD2.out]; simp [hrt])
        have HEQ2 := zH (show ∀ r2, readRu line = some r2 → r = r2 from fun r2 e => by rw [HRD2.out] at e; simp [hrt] at e; done)
        clear hrt
        refine wp_region_held_drew (S := (fun X => X.cell? ⟨w2.heap.size + 1, 0, none⟩ = some (.string E1.name) ∧ X.cell? ⟨w2.heap.size + 1, 1, none⟩ = some (.string ⟨#[]⟩) ∧ X.cell? ⟨w2.heap.size + 1, 2, none⟩ = some (.slice none 0 0) ∧ X.cell? ⟨w2.heap.size + 1, 3, none⟩ = some (.slice A4 L4.length c4) ∧ X.cell? ⟨w2.heap.size + 1, 4, none⟩ = some (.int .i64 E2.kind) ∧ X.cell? ⟨w2.heap.size + 1, 5, none⟩ = some (.string E2.name) ∧ X.cell? ⟨w2.heap.size + 1, 6, none⟩ = some (.slice A2 E2.args.length c2) ∧ Hid (Gw w W X))) (by kernel_rfl) ?_ (fun hHeld => ?_)
        · exact HKP.out _ HDR.out
        refine zT (i := 0) (oi := (⟨some 91, Op.load 34 (.tmp 9), 34, "l06_programtext.go:55", #[], none⟩ : Oper)) (v := (.agg #[.string E1.name, .string ⟨#[]⟩, .slice none 0 0, .slice A4 L4.length c4, .int .i64 E2.kind, .string E2.name, .slice A2 E2.args.length c2])) rfl (fun w hSw => ?_) hHeld ?_
        · (try dsimp only at hSw)
          go_simp
        try simp only [Act.put, sJ, tJ, uJ]
        refine zT (i := 1) (oi := (⟨some 92, Op.load 34 (.tmp 9), 34, "l06_programtext.go:55", #[], none⟩ : Oper)) (v := (.agg #[.string E1.name, .string ⟨#[]⟩, .slice none 0 0, .slice A4 L4.length c4, .int .i64 E2.kind, .string E2.name, .slice A2 E2.args.length c2])) rfl (fun w hSw => ?_) hHeld ?_
        · (try dsimp only at hSw)
          go_simp
        try simp only [Act.put, sJ, tJ, uJ]
        refine zC (i := 2) (o := (⟨some 93, Op.call { callee := Callee.value (.func 53), args := #[.tmp 92], argTypes := #[34] }, 4, "l06_programtext.go:55", #[⟨1, .data⟩], none⟩ : Oper)) rfl fun K hK => ?_
        go_simp
        go_at_call 53
        refine (HHD.out _ HDR.out).mono ?_
        rintro e w5 ⟨rfl, hb0⟩
        have Hw5 := zH (HDR.out.go hb0)
        clear hb0 hHeld
        refine hK.out _ _ ?_ (fun hHeld => ?_)
        · exact HKP.out _ Hw5.out
        try simp only [Act.put, sJ, tJ, uJ]
        refine zT (i := 3) (oi := (⟨some 94, Op.move (.tmp 93), 4, "l06_programtext.go:55", #[⟨2, .data⟩, ⟨2, .chain⟩], none⟩ : Oper)) (v := (.bool true)) rfl (fun w hSw => ?_) hHeld ?_
        · (try dsimp only at hSw)
          go_simp
        try simp only [Act.put, sJ, tJ, uJ]
        refine zT (i := 4) (oi := (⟨some 95, Op.load 34 (.tmp 9), 34, "l06_programtext.go:55", #[⟨3, .guard⟩], some (3, true)⟩ : Oper)) (v := (.agg #[.string E1.name, .string ⟨#[]⟩, .slice none 0 0, .slice A4 L4.length c4, .int .i64 E2.kind, .string E2.name, .slice A2 E2.args.length c2])) rfl (fun w hSw => ?_) hHeld ?_
        · (try dsimp only at hSw)
          go_simp
        try simp only [Act.put, sJ, tJ, uJ]
        refine zT (i := 6) (oi := (⟨some 97, Op.move (.tmp 0), 9, "l06_programtext.go:55", #[⟨3, .guard⟩, { on := 9, ground := Ground.gcOnly Departure.lateStores }], some (3, true)⟩ : Oper)) (v := (.string line)) rfl (fun w hSw => ?_) hHeld ?_
        · (try dsimp only at hSw)
          go_simp
        try simp only [Act.put, sJ, tJ, uJ]
        refine zC (i := 5) (o := (⟨some 96, Op.call { callee := Callee.value (.func 102), args := #[.tmp 95], argTypes := #[34] }, 9, "l06_programtext.go:55", #[⟨4, .data⟩, ⟨3, .chain⟩, ⟨3, .guard⟩], some (3, true)⟩ : Oper)) rfl fun K hK => ?_
        go_simp
        go_at_call 102
        refine (HTX.out _ Hw5.out).mono ?_
        rintro e w6 ⟨rfl, hb0⟩
        have Hw6 := zH (Hw5.out.go hb0)
        clear hb0 hHeld
        refine hK.out _ _ ?_ (fun hHeld => ?_)
        · exact HKP.out _ Hw6.out
        try simp only [Act.put, sJ, tJ, uJ]
        refine zT (i := 7) (oi := (⟨some 98, Op.binOp BinOp.eql 9 (.tmp 96) (.tmp 97) 9, 4, "l06_programtext.go:55", #[⟨5, .data⟩, ⟨6, .data⟩, ⟨3, .guard⟩, { on := 9, ground := Ground.gcOnly Departure.lateStores }], some (3, true)⟩ : Oper)) (v := (.bool false)) rfl (fun w hSw => ?_) hHeld ?_
        · (try dsimp only at hSw)
          go_simp
        try simp only [Act.put, sJ, tJ, uJ]
        refine zT (i := 8) (oi := (⟨some 99, Op.pick (.tmp 94) (.tmp 98) (.const (Value.bool false)), 4, "l06_programtext.go:55", #[⟨3, .data⟩, ⟨7, .data⟩, { on := 9, ground := Ground.gcOnly Departure.lateStores }], none⟩ : Oper)) (v := (.bool false)) rfl (fun w hSw => ?_) hHeld ?_
        · (try dsimp only at hSw)
          go_simp
        try simp only [Act.put, sJ, tJ, uJ]
        have hf9 := hHeld.2.2.2.2.2.2.2.out
        obtain ⟨t0, t1, t2, t3, t4, t5, t6, hT⟩ := hf9.2
        obtain ⟨j0, j1, j2, j3, j4, j5, j6⟩ := hT.cells
        have f0 := hT.thaw 0
        have f1 := hT.thaw 1
        have f2 := hT.thaw 2
        have f3 := hT.thaw 3
        have f4 := hT.thaw 4
        have f5 := hT.thaw 5
        have f6 := hT.thaw 6
        have HT := zH (sev_box hT (.string E1.name) (.string ⟨#[]⟩) (.slice none 0 0) (.slice A4 L4.length c4) (.int .i64 E2.kind) (.string E2.name) (.slice A2 E2.args.length c2))
        have HF9 := zH (hf9.1.trans (sev_fr w6 w.heap.size 0 (.string E1.name) (.string ⟨#[]⟩) (.slice none 0 0) (.slice A4 L4.length c4) (.int .i64 E2.kind) (.string E2.name) (.slice A2 E2.args.length c2)) (fun x hx => Or.inl hx))
        clear hT hf9 hHeld
        refine zC (i := 9) (o := (⟨none, Op.store 34 (.tmp 2) (.tmp 91), 0, "l06_programtext.go:55", #[⟨0, .data⟩, ⟨5, .chain⟩, ⟨0, .phase⟩, { on := 1, ground := Ground.textOnly Departure.lateStores }, { on := 2, ground := Ground.textOnly Departure.lateStoresUnsure }, { on := 3, ground := Ground.textOnly Departure.lateStores }, { on := 4, ground := Ground.textOnly Departure.lateStores }, { on := 5, ground := Ground.textOnly Departure.lateStoresUnsure }, { on := 6, ground := Ground.textOnly Departure.lateStores }, { on := 7, ground := Ground.textOnly Departure.lateStores }, { on := 8, ground := Ground.textOnly Departure.lateStores }], none⟩ : Oper)) rfl fun K hK => ?_
        go_simp
        obtain ⟨Wf, hWf⟩ : ∃ V, V = sev w6 w.heap.size 0 (.string E1.name) (.string ⟨#[]⟩) (.slice none 0 0) (.slice A4 L4.length c4) (.int .i64 E2.kind) (.string E2.name) (.slice A2 E2.args.length c2) := ⟨_, rfl⟩
        rw [← hWf] at HT HF9
        unfold sev at hWf
        simp only [Nat.zero_add] at hWf
        rw [← hWf]
        refine hK.out _ _ ?_ (fun hHeld => ?_)
        · exact HKP.out _ ⟨HF9.out, _, _, _, _, _, _, _, HT.out⟩
        clear hK K hWf j0 j1 j2 j3 j4 j5 j6 f0 f1 f2 f3 f4 f5 f6
        try simp only [Act.put, sJ, tJ, uJ]
        refine zT (i := 10) (oi := (⟨some 3, Op.assign (.tmp 99), 4, "l06_programtext.go:55", #[⟨8, .data⟩, ⟨9, .chain⟩, ⟨0, .phase⟩, ⟨1, .phase⟩, ⟨2, .phase⟩, ⟨3, .phase⟩, ⟨4, .phase⟩, ⟨5, .phase⟩, ⟨6, .phase⟩, ⟨7, .phase⟩, ⟨8, .phase⟩, ⟨9, .phase⟩], none⟩ : Oper)) (v := (.bool false)) rfl (fun w hSw => ?_) hHeld ?_
        · (try dsimp only at hSw)
          go_simp
        try simp only [Act.put, sJ, tJ, uJ]
        refine wpAnyH_done (by kernel_rfl) ?_ _
        clear hHeld
        go_wp2_with fail
        obtain ⟨k0, k1, k2, k3, k4, k5, k6⟩ := HT.out.cells
        refine bP (v := .tuple #[(.agg #[.string E1.name, .string ⟨#[]⟩, .slice none 0 0, .slice A4 L4.length c4, .int .i64 E2.kind, .string E2.name, .slice A2 E2.args.length c2]), .bool false]) (by simp [results, Tryz.results89, go_sem, k0, k1, k2, k3, k4, k5, k6]) rfl ?_
        exact ⟨_, r, bs, by rw [HIS.out], HRI.out.keeps (fr_keeps HF9.out (HAP.out)), (HMI.out.keeps (fr_keeps HF9.out HAP.out)).mono (by omega), HLO.out.trans (HF9.out.below (by simp) HLO.out.size), HEQ2.out⟩
      clear hp1 hp2
      have hk4 : (E1.kind != 3) = true := by simpa using hk3
      have HN := zH (show readRu line = none by rw [HRD.out]; simp [hk3])
      go_wp2_with fail
      obtain ⟨hbx, hbl⟩ := zero_back (.cells #[.int .i64 E2.kind, .string E2.name, .slice A2 E2.args.length c2] 32) HX2.out HL2.out (.string ⟨#[]⟩) (.string ⟨#[]⟩) (.slice none 0 0) (.slice none 0 0) (.int .i64 0) (.string ⟨#[]⟩) (.slice none 0 0)
      obtain ⟨Wf, hWf⟩ : ∃ W, W = (sev w2 w.heap.size 0 (.string ⟨#[]⟩) (.string ⟨#[]⟩) (.slice none 0 0) (.slice none 0 0) (.int .i64 0) (.string ⟨#[]⟩) (.slice none 0 0)).alloc (.cells #[.int .i64 E2.kind, .string E2.name, .slice A2 E2.args.length c2] 32) := ⟨_, rfl⟩
      rw [← hWf] at hbx hbl
      unfold sev at hWf
      simp only [Nat.zero_add] at hWf
      rw [← hWf]
      obtain ⟨k0, k1, k2, k3, k4, k5, k6⟩ := hbx.cells
      refine bP (v := .tuple #[.agg #[.string ⟨#[]⟩, .string ⟨#[]⟩, .slice none 0 0, .slice none 0 0, .int .i64 0, .string ⟨#[]⟩, .slice none 0 0], .bool false]) (by simp [results, Tryz.results89, go_sem, k0, k1, k2, k3, k4, k5, k6]) rfl ?_
      exact line_none HN.out hbl
    rw [decide_eq_false heq] at hmt
    have HK2 := zH (show ∀ m, m < k + 1 → (line.data.toList.drop m).take 3 ≠ [32, 61, 32] from fun m hm => by
     rcases Nat.lt_or_ge m k with h | h
     · exact HK.out m h
     obtain rfl : m = k := by omega
     exact heq)
    clear heq
    go_wp2
    go_round
    case rel => exact ⟨k + 1, by omega, by go_num, HK2⟩
    case measure => simp [intOf]; omega
  have h3i : (line.size : Int) < (k : Int) + 3 := by omega
  have h3j : ¬ (k : Int) + 3 ≤ (line.size : Int) := by omega
  have HNO := zH (read_no (eqFrom_no _ 0 (fun m => by
   rcases Nat.lt_or_ge m k with h | h
   · exact HK.out m h
   exact short_no (by rw [Array.length_toList]; show line.size < _; omega))))
  clear hmt
  go_wp2
  refine bP (v := .tuple #[.agg #[.string ⟨#[]⟩, .string ⟨#[]⟩, .slice none 0 0, .slice none 0 0, .int .i64 0, .string ⟨#[]⟩, .slice none 0 0], .bool false]) (by simp [results, Tryz.results89, go_sem]) rfl ?_
  exact line_none HNO.out (by first | exact (wB _ _).alloc (nR _) _ | exact ((wB _ _).alloc (nR _) _).setCell (by simp) _)
end Go.Proofs.YtiaknfnhmoinpaaGreat
