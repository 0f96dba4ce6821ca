/- A part of the proof of the seat's statement: PrText. Condition: as each says. -/
import Derived.Test.YthljhiklpopmgaaGreatDoorKids
import Derived.Test.YthljhiklpopmgaaGreatDoorOwnValid
import Derived.Test.YthljhiklpopmgaaGreatDoorRuNames
import Derived.Test.YthljhiklpopmgaaGreatDoorSpecDistinct
import Derived.Test.YthljhiklpopmgaaGreatDoorValidEq
set_option maxHeartbeats 8000000
namespace Go.Proofs.YthljhiklpopmgaaGreatDoor
open Go Go.RowKit
def OwnJoin : Prop := ∀ (A : Option Addr) (xs : List ByteArray) (c : Nat) (s : ByteArray) (w : World), Strs w A xs → xs.length ≤ c → totS xs + xs.length ≤ 2097152 → s.size ≤ 1048576 → Calls Tryz.prog 114 #[.slice A xs.length c, .string s] w (JoinPost xs s w)
structure Ta (w : World) (L : List Ex) (k : Nat) (v : Value) (W : World) : Prop where
 low : Below w.heap.size w W
 row : W.ownsRow w.heap.size 9 1 v k (((L.take k).map exStr).map Value.string)
theorem Ta.start (w : World) (L : List Ex) : Ta w L 0 (.slice none 0 0) w := ⟨Below.refl _ _, World.ownsRow_nil _ _ _ _⟩
theorem Ta.go {w : World} {L : List Ex} {v : Value} {k : Nat} {W W2 : World} (h : Ta w L k v W) (hb : Below W.heap.size W W2) : Ta w L k v W2 :=
 ⟨h.low.trans (hb.mono h.low.size), row_on h.row (fun g e => hb.block g (h.row.lt g e).2)⟩
theorem Ta.form {w : World} {L : List Ex} {v : Value} {k : Nat} {W : World} (h : Ta w L k v W) :
 ∃ A cap, v = .slice A k cap ∧ k ≤ cap ∧ Strs W A ((L.take k).map exStr) ∧ ((L.take k).map exStr).length = k := by
 have h0 := h.row.1
 rw [List.length_map, Nat.mul_one] at h0
 have h1 : OwnsL w.heap.size W v ((L.take k).map exStr) := by unfold OwnsL; rw [h0]; exact h.row
 obtain ⟨A, cap, e, hs⟩ := h1.shape
 rw [h0] at e
 refine ⟨A, cap, e, ?_, hs, h0⟩
 rcases h.row.2 with ⟨e2, h2⟩ | ⟨g', cap', cur, e2, -, -, hn, -⟩
 · rw [h2]; exact Nat.zero_le _
 rw [e2] at e; cases e; exact hn
theorem Ta.push {w : World} {L : List Ex} {v v1 : Value} {k : Nat} {W w1 : World} {e : Ex} (h : Ta w L k v W) (he : L[k]? = some e)
 (ho : w1.ownsRow w.heap.size 9 1 v1 (k + 1) (((L.take k).map exStr).map Value.string ++ [Value.string (exStr e)])) (hg : (W.alloc (.cells #[.string (exStr e)] 9)).grownBy w1 v.ownBlock) : Ta w L (k + 1) v1 w1 := by
 refine ⟨?_, ?_⟩
 · have h1 := h.low.alloc h.low.size (.cells #[.string (exStr e)] 9)
   exact h1.grown hg (by have := h.low.size; simp; omega) (fun g hk => ((h.row.alloc (.cells #[.string (exStr e)] 9)).lt g hk).1)
 rw [map_snoc exStr L k e he, List.map_append]; exact ho
def parStr (l : List Ex) : ByteArray := ⟨([40] ++ Lib.join (exTexts l) [44] ++ [41]).toArray⟩
theorem par_str {K : Int} {S : ByteArray} {L : List Ex} (h4 : ¬ K = 4) (h1 : ¬ (K = 1 ∨ (K = 2 ∧ L.length = 0))) : exStr (.mk K S L) = S ++ parStr L := by
 rw [exStr, exText, if_neg h4, if_neg h1]
 apply ByteArray.ext
 simp [ByteArray.data_append, parStr]
def parS (xs : List ByteArray) : ByteArray := ⟨([40] ++ Lib.join (listsS xs) [44] ++ [41]).toArray⟩
theorem par_S (l : List Ex) : parS (l.map exStr) = parStr l := by
 unfold parS parStr; rw [lists_str]
theorem own_inpar (hJ : OwnJoin) (A : Option Addr) (xs : List ByteArray) (c : Nat) (w : World) (hs : Strs w A xs) (hc : xs.length ≤ c) (ht : totS xs + xs.length ≤ 2097152) :
 Calls Tryz.prog 84 #[.slice A xs.length c] w (RetPost (.string (parS xs)) w) := by
 obtain ⟨J, hJe⟩ : ∃ J : ByteArray, J = ⟨(Lib.join (listsS xs) [44]).toArray⟩ := ⟨_, rfl⟩
 obtain ⟨p1, hp1⟩ : ∃ x : ByteArray, x = ⟨#[40]⟩ ++ J := ⟨_, rfl⟩
 obtain ⟨p2, hp2⟩ : ∃ x : ByteArray, x = p1 ++ ⟨#[41]⟩ := ⟨_, rfl⟩
 have HP := zH (show parS xs = p2 by
  subst hp2 hp1 hJe
  apply ByteArray.ext
  simp [ByteArray.data_append, parS])
 have HJJ := zH (show Calls Tryz.prog 114 #[.slice A xs.length c, .string ⟨#[44]⟩] w (RetPost (.string J) w) by
  have h := hJ A xs c ⟨#[44]⟩ w hs hc ht (by decide)
  unfold JoinPost at h; rw [hJe]; exact h)
 have hjs : J.size ≤ 4398046511104 := by
  have h1 := joined_le xs ⟨#[44]⟩ xs.length (Nat.le_refl _) ht (by decide)
  rw [List.take_length] at h1
  have h9 : J.size = (Lib.join (listsS xs) [44]).length := by rw [hJe]; show (List.toArray _).size = _; simp
  rw [h9]; exact h1
 have hA1 : ∀ W, (Op.stringOp .add ⟨#[40]⟩ J).run Tryz.prog W = .ok (.string p1) W := fun W => by
  rw [hp1]; exact run_string_add_sum W ⟨#[40]⟩ J (by show 1 + _ ≤ _; omega)
 have hq1 : p1.size = 1 + J.size := by rw [hp1]; exact ByteArray.size_append
 have hA2 : ∀ W, (Op.stringOp .add p1 ⟨#[41]⟩).run Tryz.prog W = .ok (.string p2) W := fun W => by
  rw [hp2]; exact run_string_add_sum W p1 ⟨#[41]⟩ (by show _ + 1 ≤ _; omega)
 generalize hm : xs.length = m at *
 clear hs hc ht hJ hp1 hp2 hq1 hjs hJe hm
 go_enter Tryz.func84, Tryz.ntmps84
 go_wp2_with (go_at_call 114; refine HJJ.out.mono ?_; rintro r w1 ⟨rfl, hb1⟩; have HB1 := zH hb1; clear hb1)
 go_ret
 exact ⟨by rw [HP.out]; rfl, HB1.out⟩
theorem all_of {l : List Ex} {e : Ex} (h : exAllL l = true) (hm : e ∈ l) : exAll e = true := by
 cases he : exAll e with
 | true => rfl
 | false => rw [all_false hm he] at h; cases h
theorem his_slice {W : World} {e : Ex} {u : Value} {b : List Nat} (h : ExIs W (.agg #[.int .i64 e.kind, .string e.name, u]) e b) : ∃ A m c, u = .slice A m c := by
 obtain ⟨u2, e1, -, hs⟩ := h
 obtain ⟨A, c, e2, -⟩ := hs
 simp at e1
 rw [e1, e2]
 exact ⟨_, _, _, rfl⟩
def PartT (n : Nat) : Prop := ∀ (e : Ex) (v : Value) (bs : List Nat) (w : World), exSize e ≤ n → ExIs w v e bs → exTot e ≤ 200000 → exAll e = true →
 Calls Tryz.prog 106 #[v] w (RetPost (.string (exStr e)) w)
theorem args_text (hJ : OwnJoin) (n : Nat) (ih : PartT n) (L : List Ex) (A : Option Addr) (m c : Nat) (bs : List Nat) (w : World) (hn : exSizes L ≤ n) (hu : SlIs w (.slice A m c) L bs) (hT : exTots L ≤ 200000) (hA : exAllL L = true) :
 Calls Tryz.prog 130 #[.slice A m c] w (RetPost (.string (parStr L)) w) := by
 obtain ⟨i0, hi, hz0, hz1, hz2⟩ := info_parts Tryz.info9u
 have HI := zH (And.intro hi (And.intro hz0 (And.intro hz1 hz2)))
 clear hi hz0 hz1 hz2
 have HU := zH hu
 have HM := zH hu.len.1
 have HN := zH hn
 have HT := zH hT
 have HA := zH hA
 have HIH := zH ih
 have HJN := zH hJ
 have hc4 : m ≤ 200000 := by have h1 := hu.len.1; have h2 := tots_ge L; omega
 clear hu hn hT hA ih hJ
 have hc3 : (m : Int) ≤ 200000 := by omega
 go_enter Tryz.func130, Tryz.ntmps130
 go_wp2_with fail
 have H0 := zH (Ta.start w L)
 go_loopw [3, 8] (fun v i wr => ∃ (k : Nat), k ≤ m ∧ i = .int .i64 (k : Int) ∧ Hid (Ta w L k v wr)) (fun _ i _ => m - (intOf i).toNat)
 case atStart => exact ⟨0, Nat.zero_le _, rfl, H0⟩
 case round =>
  clear H0
  obtain ⟨k, hk, rfl, HL⟩ := hrel
  obtain ⟨A2, c2, rfl, hkc, hst, hlen⟩ := HL.out.form
  have HKC := zH hkc
  clear hkc
  by_cases hlt : k < m
  · obtain ⟨g, o, e1, u, b1, rfl, hbl, hget, hmem, c0, c1, c2', his, -⟩ := (HU.out.below HL.out.low).get k (by rw [← HM.out]; exact hlt)
    have HLX := zH (HL.out.go ((Below.refl _ wr).alloc (Nat.le_refl _) (.cells #[.int .i64 e1.kind, .string e1.name, u] 34)))
    have HCALL := zH (HIH.out e1 _ b1 (wr.alloc (.cells #[.int .i64 e1.kind, .string e1.name, u] 34)) (by have := HN.out; have := exSizes_mem hmem; omega) (his.below ((Below.refl _ wr).alloc (Nat.le_refl _) _)) (by have := HT.out; have := tots_mem hmem; omega) (all_of HA.out hmem))
    have HG := zH hget
    obtain ⟨A3, m3, c3, rfl⟩ := his_slice his
    clear his hget hmem hst hlen
    have C1 := zH (show k + 1 ≤ maxLen by unfold maxLen; omega)
    have C2 := zH (show (k + 1) * 16 ≤ 140737488355328 by omega)
    have H1C := zH (one_new (x := exStr e1))
    go_wp2_with (first | (go_at_call 106; refine HCALL.out.mono ?_; rintro r w1 ⟨rfl, hb1⟩; have HL1 := zH (HLX.out.go hb1); have HO1 := zH (HL1.out.row.alloc (.cells #[.string (exStr e1)] 9)); have C4 := zH (show w.heap.size ≤ (w1.alloc (.cells #[.string (exStr e1)] 9)).heap.size by have := HL1.out.low.size; simp; omega); have HNW := zH (cell_new (W := w1) (x := exStr e1)); clear hb1) | (at_builtin; (refine wpList_append_own _ rfl (.tmp 12) (.tmp 15) 30 rfl w.heap.size 9 i0 (.string ⟨#[]⟩) 1 16 Tryz.underlying30 HI.out.1 HI.out.2.1 HI.out.2.2.1 HI.out.2.2.2 rfl (by decide) (.slice A2 k c2) _ _ rfl HO1.out ⟨w1.heap.size, 0, none⟩ 1 1 [.string (exStr e1)] rfl rfl HNW.out H1C.out C1.out C2.out C4.out ?_); intro v1 w2 ho1 hg1 _; have HL2 := zH (HL1.out.push HG.out ho1 hg1); clear ho1 hg1))
    go_roundw
    case rel => exact ⟨k + 1, by omega, by go_num, HL2⟩
    case measure => simp [intOf]; omega
  have hkm : k = m := by omega
  have hall : L.take k = L := List.take_of_length_le (by rw [← HM.out]; omega)
  rw [hall] at hst hlen
  have HPP := zH (show Calls Tryz.prog 84 #[.slice A2 k c2] wr (RetPost (.string (parStr L)) wr) by
   have h := own_inpar HJN.out A2 (L.map exStr) c2 wr hst (by rw [hlen]; exact HKC.out) (by
    have h5 := (text_len (exSizes L)).2 L (Nat.le_refl _)
    have h6 := HT.out
    rw [lens_map, List.length_map]; omega)
   rw [hlen, par_S] at h; exact h)
  clear hst hlen hall hkm
  go_wp2_with (go_at_call 84; refine HPP.out.mono ?_; rintro r w1 ⟨rfl, hb1⟩; have HB1 := zH (HL.out.low.trans (hb1.mono HL.out.low.size)); clear hb1)
  go_ret
  exact ⟨rfl, HB1.out⟩
theorem keepU_start {wr : World} {a b : Addr} {v u : Value} (h : wr.cell? a = some v) (h2 : wr.cell? b = some u) : wr.drew.cell? a = some v ∧ wr.drew.cell? b = some u ∧ Hid (Below wr.heap.size wr wr.drew) := ⟨h, h2, zH (Below.drew (Below.refl _ _))⟩
theorem keepU_step {wr X w2 : World} {a b : Addr} {v u : Value} (ha : a.block < wr.heap.size) (hb2 : b.block < wr.heap.size) (hb : Below X.heap.size X w2) (h : X.cell? a = some v ∧ X.cell? b = some u ∧ Hid (Below wr.heap.size wr X)) : w2.cell? a = some v ∧ w2.cell? b = some u ∧ Hid (Below wr.heap.size wr w2) :=
 ⟨(hb.cell (p := a) (Nat.lt_of_lt_of_le ha h.2.2.out.size)).trans h.1, (hb.cell (p := b) (Nat.lt_of_lt_of_le hb2 h.2.2.out.size)).trans h.2.1, zH (h.2.2.out.trans (hb.mono h.2.2.out.size))⟩
def ArgsT (w : World) (L : List Ex) (A : Option Addr) (m c : Nat) : Prop := ∀ W, Below w.heap.size w W → Calls Tryz.prog 130 #[.slice A m c] W (RetPost (.string (parStr L)) W)
theorem form_cells {w w1 : World} {T : Nat} {S : ByteArray} {u : Value} (h : Below w.heap.size w w1) :
 (w1.alloc (.cells #[.string S, u] T)).cell? ⟨w1.heap.size, 0, none⟩ = some (.string S) ∧ (w1.alloc (.cells #[.string S, u] T)).cell? ⟨w1.heap.size, 1, none⟩ = some u ∧ Below w.heap.size w (w1.alloc (.cells #[.string S, u] T)) := by
 have h1 := heap_alloc_new w1 (.cells #[.string S, u] T)
 refine ⟨by rw [World.cell?, h1]; rfl, by rw [World.cell?, h1]; rfl, h.alloc h.size _⟩
set_option maxRecDepth 100000 in
theorem part_text (hJ : OwnJoin) (n : Nat) : PartT n := by
 induction n with
 | zero => intro e v bs w h; have := exSize_pos e; omega
 | succ n ih =>
  intro e v bs w hle hv hb ha
  obtain ⟨u, rfl, hsz, hu⟩ := hv
  obtain ⟨A, c, rfl, hc1, hc2, -⟩ := id hu
  cases e with
  | mk K S L =>
  simp only [Ex.kind, Ex.name, Ex.args] at *
  rw [exSize] at hle
  rw [exTot] at hb
  rw [exAll, Bool.and_eq_true] at ha
  have HAT := zH (show ArgsT w L A L.length c from fun W hW => args_text hJ n ih L A L.length c bs W (by omega) (hu.below hW) (by omega) ha.1)
  have HP := zH (text_len (exSizes L))
  have hsl : S.size + exTots L ≤ 200000 := hb
  have HPS := zH (show (parStr L).size ≤ 1000002 by
   have h5 := (text_len (exSizes L)).2 L (Nat.le_refl _)
   have h7 := join_length (exTexts L) [44]
   have h8 : (exTexts L).length = L.length := by rw [texts_map, List.length_map]
   show (List.toArray _).size ≤ _
   simp only [List.length_cons, List.length_nil] at h7
   simp
   omega)
  have hF := ha.2
  obtain ⟨m, hm⟩ : ∃ m, m = L.length := ⟨_, rfl⟩
  rw [← hm] at HAT hc1 hF ⊢
  have HM := zH hm
  clear hu ha ih hJ hle hm
  obtain ⟨p, hp⟩ : ∃ x : ByteArray, x = S ++ parStr L := ⟨_, rfl⟩
  have hA1 : ∀ W, (Op.stringOp .add S (parStr L)).run Tryz.prog W = .ok (.string p) W := fun W => by
   rw [hp]; exact run_string_add_sum W S (parStr L) (by have := HPS.out; omega)
  have HPP := zH (fun (h4 : ¬ K = 4) (h1 : ¬ (K = 1 ∨ (K = 2 ∧ L.length = 0))) => show exStr (.mk K S L) = p by rw [hp]; exact par_str h4 h1)
  clear hp HP
  have hm3 : (m : Int) ≤ 9223372036854775807 := by omega
  have HFB := zH (fun (W : World) => own_form K S A m c W)
  clear hsz hc1 hc2 hb
  by_cases h1 : K = 1
  · subst h1
    have HX := zH (show exStr (.mk 1 S L) = S by rw [exStr, exText]; rfl)
    have aV := asVV
    clear hF hA1
    go_enter Tryz.func106, Tryz.ntmps106
    go_wp2_with (go_at_call 77; refine (HFB.out _).mono ?_; rintro r w2 ⟨rfl, hb2⟩; rw [show formTy 1 = 152 from rfl]; have HB2 := zH (right_below hb2); clear hb2)
    go_ret
    exact ⟨by rw [HX.out]; rfl, HB2.out.alloc HB2.out.size _⟩
  by_cases h2 : K = 2
  · subst h2
    have aV := asCV
    have aC := asCC
    by_cases h0 : m = 0
    · have HX := zH (show exStr (.mk 2 S L) = S by rw [exStr, exText, if_neg (by decide), if_pos (Or.inr ⟨rfl, by rw [← HM.out]; exact h0⟩)])
      subst h0
      clear hF hA1
      go_enter Tryz.func106, Tryz.ntmps106
      go_wp2_with (go_at_call 77; refine (HFB.out _).mono ?_; rintro r w2 ⟨rfl, hb2⟩; rw [show formTy 2 = 123 from rfl]; have HB2 := zH (right_below hb2); clear hb2)
      go_ret
      exact ⟨by rw [HX.out]; rfl, HB2.out.alloc HB2.out.size _⟩
    have HX := zH (show exStr (.mk 2 S L) = p from HPP.out (by decide) (by rw [← HM.out]; simp [h0]))
    have hz : ((m : Int) == 0) = false := by simpa using h0
    clear hF h0
    go_enter Tryz.func106, Tryz.ntmps106
    go_wp2_with (go_at_call 77; refine (HFB.out _).mono ?_; rintro r w2 ⟨rfl, hb2⟩; rw [show formTy 2 = 123 from rfl]; have HB2 := zH (right_below hb2); clear hb2)
    obtain ⟨d0, d1, d2⟩ := form_cells (T := 123) (S := S) (u := .slice A m c) HB2.out
    generalize hwr : w2.alloc (.cells #[.string S, .slice A m c] 123) = wr at *
    have HAW := zH (fun (W : World) (hW : Below wr.heap.size wr W) => HAT.out W (d2.trans (hW.mono d2.size)))
    have HLW := zH d2
    have hbl : w2.heap.size < wr.heap.size := by rw [← hwr]; simp
    have hbl0 : (⟨w2.heap.size, 0, none⟩ : Addr).block < wr.heap.size := hbl
    have hbl1 : (⟨w2.heap.size, 1, none⟩ : Addr).block < wr.heap.size := hbl
    have HD0 := zH d0
    have HD1 := zH d1
    clear hwr d2 d0 d1
    go_region_held3 (fun X => X.cell? ⟨w2.heap.size, 0, none⟩ = some (.string S) ∧ X.cell? ⟨w2.heap.size, 1, none⟩ = some (.slice A m c) ∧ Hid (Below wr.heap.size wr X))
     (first | exact keepU_start HD0.out HD1.out | exact keepU_step (a := ⟨w2.heap.size, 0, none⟩) (b := ⟨w2.heap.size, 1, none⟩) hbl0 hbl1 hb3 (by assumption))
     (first | (go_at_call 130; have hh := (‹_ ∧ _ ∧ Hid (Below wr.heap.size wr _)›).2.2.out; refine (HAW.out _ hh).mono ?_; rintro r w3 ⟨rfl, hb3⟩; clear hh))
    all_goals
     have hx := ‹_ ∧ _ ∧ Hid (Below wr.heap.size wr w3)›
     have HXX := zH (HLW.out.trans (hx.2.2.out.mono HLW.out.size))
     clear hx
     go_wp2_with fail
     go_ret
     exact ⟨by rw [HX.out]; rfl, HXX.out⟩
  by_cases h3 : K = 3
  · subst h3
    have aV := asKV
    have aC := asKC
    have aK := asKK
    have HX := zH (show exStr (.mk 3 S L) = p from HPP.out (by decide) (by simp))
    clear hF
    go_enter Tryz.func106, Tryz.ntmps106
    go_wp2_with (go_at_call 77; refine (HFB.out _).mono ?_; rintro r w2 ⟨rfl, hb2⟩; rw [show formTy 3 = 153 from rfl]; have HB2 := zH (right_below hb2); clear hb2)
    obtain ⟨d0, d1, d2⟩ := form_cells (T := 153) (S := S) (u := .slice A m c) HB2.out
    generalize hwr : w2.alloc (.cells #[.string S, .slice A m c] 153) = wr at *
    have HAW := zH (fun (W : World) (hW : Below wr.heap.size wr W) => HAT.out W (d2.trans (hW.mono d2.size)))
    have HLW := zH d2
    have hbl : w2.heap.size < wr.heap.size := by rw [← hwr]; simp
    have hbl0 : (⟨w2.heap.size, 0, none⟩ : Addr).block < wr.heap.size := hbl
    have hbl1 : (⟨w2.heap.size, 1, none⟩ : Addr).block < wr.heap.size := hbl
    have HD0 := zH d0
    have HD1 := zH d1
    clear hwr d2 d0 d1
    go_region_held3 (fun X => X.cell? ⟨w2.heap.size, 0, none⟩ = some (.string S) ∧ X.cell? ⟨w2.heap.size, 1, none⟩ = some (.slice A m c) ∧ Hid (Below wr.heap.size wr X))
     (first | exact keepU_start HD0.out HD1.out | exact keepU_step (a := ⟨w2.heap.size, 0, none⟩) (b := ⟨w2.heap.size, 1, none⟩) hbl0 hbl1 hb3 (by assumption))
     (first | (go_at_call 130; have hh := (‹_ ∧ _ ∧ Hid (Below wr.heap.size wr _)›).2.2.out; refine (HAW.out _ hh).mono ?_; rintro r w3 ⟨rfl, hb3⟩; clear hh))
    all_goals
     have hx := ‹_ ∧ _ ∧ Hid (Below wr.heap.size wr w3)›
     have HXX := zH (HLW.out.trans (hx.2.2.out.mono HLW.out.size))
     clear hx
     go_wp2_with fail
     go_ret
     exact ⟨by rw [HX.out]; rfl, HXX.out⟩
  by_cases h4 : K = 4
  · subst h4
    have HX := zH (show exStr (.mk 4 S L) = ⟨#[33]⟩ by rw [exStr, exText]; rfl)
    have aV := asSV
    have aC := asSC
    have aK := asSK
    clear hF hA1
    go_enter Tryz.func106, Tryz.ntmps106
    go_wp2_with (go_at_call 77; refine (HFB.out _).mono ?_; rintro r w2 ⟨rfl, hb2⟩; rw [show formTy 4 = 154 from rfl]; have HB2 := zH (right_below hb2); clear hb2)
    go_ret
    exact ⟨by rw [HX.out]; rfl, HB2.out⟩
  exfalso
  unfold exFormOf at hF
  rw [if_neg h1, if_neg h2, if_neg h3, if_neg h4] at hF
  cases hF
theorem own_format (hJ : OwnJoin) (e : Ex) (v : Value) (bs : List Nat) (w : World) (hv : ExIs w v e bs) (hb : exSize e ≤ 1099511627776) :
 Calls Tryz.prog 76 #[v] w (RetPost (.string (exFmt e)) w) := by
 have HL := zH (fun (W : World) (h : Below w.heap.size w W) => own_valid e v bs W (hv.below h) hb)
 have HA := zH (fun (W : World) (h : Below w.heap.size w W) (h1 : exTot e ≤ 200000) (h2 : exAll e = true) => part_text hJ (exSize e) e v bs W (Nat.le_refl _) (hv.below h) h1 h2)
 obtain ⟨u, rfl, -, hu⟩ := hv
 obtain ⟨A, c, rfl, -⟩ := id hu
 clear hu hb hJ
 have HBX := zH (box_cells2 w e.kind e.name (.slice A e.args.length c))
 have HB0 := zH ((Below.refl w.heap.size w).alloc (Nat.le_refl _) (.cells #[.int .i64 e.kind, .string e.name, .slice A e.args.length c] 34))
 have HV := zH (show exFmt e = if exValid e then exStr e else ⟨#[]⟩ from rfl)
 have HT := zH (fun (h : exValid e = true) => show exTot e ≤ 200000 ∧ exAll e = true from ⟨by have := valid_tot h; omega, by unfold exValid at h; simp only [Bool.and_eq_true] at h; exact h.2.2⟩)
 generalize exStr e = t at *
 generalize exValid e = a at *
 go_enter Tryz.func76, Tryz.ntmps76
 go_wp2_with fail
 go_at_call 81
 refine (HL.out _ HB0.out).mono ?_
 rintro r w1 ⟨rfl, hb1⟩
 have HB1 := zH (HB0.out.trans (hb1.mono HB0.out.size))
 obtain ⟨x0, x1, x2⟩ := HBX.out w1 hb1
 clear hb1
 cases a
 · go_wp2_with fail
   go_ret
   exact ⟨by rw [HV.out]; rfl, HB1.out⟩
 go_wp2_with fail
 go_at_call 106
 refine (HA.out _ HB1.out (HT.out (by first | rfl | trivial)).1 (HT.out (by first | rfl | trivial)).2).mono ?_
 rintro r w3 ⟨rfl, hb3⟩
 have HB3 := zH (HB1.out.trans (hb3.mono HB1.out.size))
 clear hb3
 go_wp2_with fail
 go_ret
 exact ⟨by rw [HV.out]; rfl, HB3.out⟩
def patStr (r : Ru) : ByteArray := if r.vars.length = 0 then r.con else r.con ++ parS r.vars
def argTexts (r : Ru) : List ByteArray := (if r.con.size = 0 then [] else [patStr r]) ++ r.params
def eqStr : ByteArray := ⟨#[32, 61, 32]⟩
def ruStr (r : Ru) : ByteArray := ((r.name ++ parS (argTexts r)) ++ eqStr) ++ exFmt r.body
theorem totS_totN (l : List ByteArray) : totS l = totN l := rfl
theorem totS_app (a b : List ByteArray) : totS (a ++ b) = totS a + totS b := by simp [totS]
theorem parS_size (xs : List ByteArray) : (parS xs).size ≤ totS xs + xs.length + 2 := by
 have h7 := join_length (listsS xs) [44]
 rw [lens_lists] at h7
 have h8 : (listsS xs).length = xs.length := by simp [listsS]
 rw [h8] at h7
 show (List.toArray _).size ≤ _
 simp only [List.length_cons, List.length_nil] at h7
 simp
 omega
theorem patStr_size (r : Ru) : (patStr r).size ≤ r.con.size + ssTot r.vars + 2 := by
 unfold patStr
 have h := parS_size r.vars
 unfold ssTot
 rw [totS_totN] at h
 split
 · omega
 rw [ByteArray.size_append]; omega
theorem argTexts_tot (r : Ru) : totS (argTexts r) + (argTexts r).length ≤ r.con.size + ssTot r.vars + ssTot r.params + 3 := by
 unfold argTexts
 rw [totS_app, List.length_append]
 have h := patStr_size r
 have h2 : totS r.params + r.params.length = ssTot r.params := by unfold ssTot; rw [totS_totN]; omega
 split
 · simp only [List.length_nil, show totS [] = 0 from rfl]; omega
 simp only [List.length_cons, List.length_nil, show totS [patStr r] = (patStr r).size from by simp [totS]]; omega
theorem argTexts_le {r : Ru} (h : ruTot r ≤ 1048576) : totS (argTexts r) + (argTexts r).length ≤ 2097152 := by
 have := argTexts_tot r; unfold ruTot at h; omega
theorem exFmt_size (e : Ex) : (exFmt e).size ≤ 4000 := by
 unfold exFmt
 cases h : exValid e with
 | false => simp; show (0 : Nat) ≤ _; omega
 | true =>
  have h1 := valid_tot h
  have h2 := (text_len (exSize e)).1 e (Nat.le_refl _)
  rw [if_pos rfl, str_size]; omega
theorem ruStr_size {r : Ru} (h : ruTot r ≤ 1048576) : (ruStr r).size ≤ 4194304 := by
 unfold ruStr
 rw [ByteArray.size_append, ByteArray.size_append, ByteArray.size_append]
 have h1 := parS_size (argTexts r)
 have h2 := argTexts_le h
 have h3 := exFmt_size r.body
 have h4 : eqStr.size = 3 := rfl
 unfold ruTot at h
 omega
def eqFrom : List UInt8 → Nat → Option Nat
 | [], _ => none
 | c :: t, k => if (c :: t).take 3 = [32, 61, 32] then some k else eqFrom t (k + 1)
theorem eqFrom_some : ∀ (l : List UInt8) (k i : Nat), eqFrom l k = some i → ∃ j, i = k + j ∧ j + 3 ≤ l.length ∧ (l.drop j).take 3 = [32, 61, 32] ∧ ∀ m, m < j → (l.drop m).take 3 ≠ [32, 61, 32] := by
 intro l
 induction l with
 | nil => intro k i h; cases h
 | cons c t ih =>
  intro k i h
  rw [eqFrom] at h
  split at h
  · rename_i h3
    cases h
    refine ⟨0, rfl, ?_, h3, fun m hm => by omega⟩
    have := congrArg List.length h3
    rw [List.length_take] at this
    simp only [List.length_cons, List.length_nil] at this ⊢
    omega
  rename_i h3
  obtain ⟨j, h1, h2, h4, h5⟩ := ih (k + 1) i h
  refine ⟨j + 1, by omega, by simp only [List.length_cons]; omega, by simpa using h4, fun m hm => ?_⟩
  cases m with
  | zero => simpa using h3
  | succ m => simpa using h5 m (by omega)
def rulePart (h e : Ex) : Ru := match h.args with
 | [] => ⟨h.name, ⟨#[]⟩, [], [], e⟩
 | a :: t => if a.kind = 2 then ⟨h.name, a.name, a.args.map Ex.name, t.map Ex.name, e⟩ else ⟨h.name, ⟨#[]⟩, [], (a :: t).map Ex.name, e⟩
theorem part_name (h e : Ex) : (rulePart h e).name = h.name ∧ (rulePart h e).body = e := by
 unfold rulePart
 split
 · exact ⟨rfl, rfl⟩
 split <;> exact ⟨rfl, rfl⟩
def leftOf (line : ByteArray) (i : Nat) : ByteArray := ⟨(line.data.toList.take i).toArray⟩
def rightOf (line : ByteArray) (i : Nat) : ByteArray := ⟨(line.data.toList.drop (i + 3)).toArray⟩
def readWith (ok : Ex → Ru → Bool) (line : ByteArray) : Option Ru := match eqFrom line.data.toList 0 with
 | none => none
 | some i => match exParse (leftOf line i), exParse (rightOf line i) with
  | some h, some e => if ok h (rulePart h e) = true ∧ ruStr (rulePart h e) = line then some (rulePart h e) else none
  | _, _ => none
def readRu (line : ByteArray) : Option Ru := readWith (fun h r => decide (h.kind = 3) && headOk r) line
def readOwn (line : ByteArray) : Option Ru := readWith (fun _ r => rightParts r) line
theorem bytes_split {line : ByteArray} {i : Nat} (_h1 : i + 3 ≤ line.data.toList.length) (h2 : (line.data.toList.drop i).take 3 = [32, 61, 32]) : line.data.toList = (leftOf line i).data.toList ++ ([32, 61, 32] ++ (rightOf line i).data.toList) := by
 show line.data.toList = line.data.toList.take i ++ ([32, 61, 32] ++ line.data.toList.drop (i + 3))
 rw [← h2, ← List.drop_drop, List.take_append_drop, List.take_append_drop]
theorem name_empty {lo hi : Nat} {s : ByteArray} (h : s.size = 0) : nameL lo hi s.data.toList = false := by
 have : s.data.toList = [] := by
  apply List.eq_nil_of_length_eq_zero
  rw [Array.length_toList]; exact h
 rw [this]; rfl
theorem name_apart {s : ByteArray} (h1 : nameL 97 122 s.data.toList = true) (h2 : nameL 65 90 s.data.toList = true) : False := by
 cases hs : s.data.toList with
 | nil => rw [hs] at h1; cases h1
 | cons c t =>
  rw [hs] at h1 h2
  simp only [nameL, Bool.and_eq_true, decide_eq_true_eq] at h1 h2
  omega
theorem kind_call {line : ByteArray} {i : Nat} {h e : Ex} (hi1 : i + 3 ≤ line.data.toList.length) (hi2 : (line.data.toList.drop i).take 3 = [32, 61, 32]) (hh : exParse (leftOf line i) = some h) (hn : isNm (rulePart h e).name = true) (ht : ruStr (rulePart h e) = line) : h.kind = 3 := by
 obtain ⟨hv, hf⟩ := parse_some hh
 have ha := (valid_all hv).1
 rw [(part_name h e).1] at hn
 obtain ⟨K, S, L⟩ := h
 rw [exAll, Bool.and_eq_true] at ha
 have hF := ha.2
 unfold exFormOf at hF
 show K = 3
 have hn' : nameL 97 122 S.data.toList = true := hn
 by_cases h1 : K = 1
 · exfalso
   subst h1
   rw [if_pos rfl, Bool.and_eq_true, decide_eq_true_eq] at hF
   obtain rfl : L = [] := List.eq_nil_of_length_eq_zero hF.2
   have hs : exFmt (.mk 1 S []) = S := by
    unfold exFmt
    rw [if_pos hv, exStr, exText]
    rfl
   rw [hs] at hf
   have hsp := bytes_split hi1 hi2
   rw [← hf, ← ht] at hsp
   have hr : (ruStr (rulePart (.mk 1 S []) e)).data.toList = S.data.toList ++ (40 :: 41 :: ([32, 61, 32] ++ (exFmt e).data.toList)) := by
    have : rulePart (.mk 1 S []) e = ⟨S, ⟨#[]⟩, [], [], e⟩ := rfl
    rw [this]
    unfold ruStr argTexts
    simp [ByteArray.data_append, parS, eqStr, listsS, Lib.join, show (⟨#[]⟩ : ByteArray).size = 0 from rfl]
   rw [hr] at hsp
   have := List.append_cancel_left hsp
   simp at this
 rw [if_neg h1] at hF
 by_cases h2 : K = 2
 · exfalso
   rw [if_pos h2, Bool.and_eq_true] at hF
   exact name_apart hn' hF.1
 rw [if_neg h2] at hF
 by_cases h3 : K = 3
 · exact h3
 exfalso
 rw [if_neg h3] at hF
 by_cases h4 : K = 4
 · rw [if_pos h4, Bool.and_eq_true, decide_eq_true_eq] at hF
   rw [name_empty (by first | exact hF.1 | exact hF.1.1)] at hn'
   cases hn'
 rw [if_neg h4] at hF; cases hF
theorem read_same (line : ByteArray) : readRu line = readOwn line := by
 unfold readRu readOwn readWith
 cases hi : eqFrom line.data.toList 0 with
 | none => rfl
 | some i =>
  obtain ⟨j, hj, h1, h2, -⟩ := eqFrom_some _ _ _ hi
  rw [Nat.zero_add] at hj
  subst hj
  dsimp only
  cases hh : exParse (leftOf line i) with
  | none => rfl
  | some h =>
   cases he : exParse (rightOf line i) with
   | none => rfl
   | some e =>
    dsimp only
    have hve := (parse_some he).1
    have hpb := (part_name h e).2
    have hp : rightParts (rulePart h e) = headOk (rulePart h e) := by rw [parts_head, hpb, hve, Bool.and_true]
    simp only [hp]
    by_cases ht : ruStr (rulePart h e) = line
    · by_cases hd : headOk (rulePart h e) = true
      · have hn : isNm (rulePart h e).name = true := by
         have h9 := hd
         rw [← args_head, Bool.and_eq_true] at h9
         exact h9.1
        have hk := kind_call h1 h2 hh hn ht
        rw [if_pos ⟨by rw [hk, hd]; rfl, ht⟩, if_pos ⟨hd, ht⟩]
      rw [if_neg (fun c => hd (by have h9 := c.1; rw [Bool.and_eq_true] at h9; exact h9.2)), if_neg (fun c => hd c.1)]
    simp [ht]
theorem read_some {line : ByteArray} {r : Ru} (h : readRu line = some r) : headOk r = true ∧ exValid r.body = true ∧ ruStr r = line := by
 unfold readRu readWith at h
 split at h
 · cases h
 rename_i i hi
 split at h
 · rename_i a b ha hb
   split at h
   · rename_i hc
     obtain rfl := Option.some.inj h
     rw [Bool.and_eq_true] at hc
     exact ⟨hc.1.2, by rw [(part_name a b).2]; exact (parse_some hb).1, hc.2⟩
   cases h
 cases h
def nlStr : ByteArray := ⟨#[10]⟩
def linesOf (acc : ByteArray) : List Ru → ByteArray
 | [] => acc
 | r :: t => linesOf (acc ++ (ruStr r ++ nlStr)) t
def prStr (l : List Ru) : ByteArray := if validR l then linesOf ⟨#[]⟩ l else ⟨#[]⟩
theorem linesOf_snoc : ∀ (a : List Ru) (acc : ByteArray) (r : Ru), linesOf acc (a ++ [r]) = linesOf acc a ++ (ruStr r ++ nlStr) := by
 intro a
 induction a with
 | nil => intro acc r; rfl
 | cons x t ih => intro acc r; rw [List.cons_append, linesOf, ih, linesOf]
theorem linesOf_size : ∀ (l : List Ru) (acc : ByteArray), (∀ r ∈ l, ruTot r ≤ 1048576) → (linesOf acc l).size ≤ acc.size + l.length * 4194305 := by
 intro l
 induction l with
 | nil => intro acc _; simp [linesOf]
 | cons r t ih =>
  intro acc h
  rw [linesOf]
  have h1 := ih (acc ++ (ruStr r ++ nlStr)) (fun x hx => h x (by simp [hx]))
  have h2 := ruStr_size (h r (by simp))
  rw [ByteArray.size_append, ByteArray.size_append] at h1
  have h3 : nlStr.size = 1 := rfl
  rw [List.length_cons, Nat.add_mul]
  omega
theorem validR_len {l : List Ru} (h : validR l = true) : l.length ≤ 24 := by
 unfold validR at h
 simp only [Bool.and_eq_true, decide_eq_true_eq] at h
 exact h.2
end Go.Proofs.YthljhiklpopmgaaGreatDoor
