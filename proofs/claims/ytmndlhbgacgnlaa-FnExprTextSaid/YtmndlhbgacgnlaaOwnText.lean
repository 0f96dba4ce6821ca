/- The contracts of the program's own textOfPart, textOfArgs and FormatExpr, from a contract of its Join. Condition: nodes and letters of the expression as the theorems say. -/
import Derived.Test.YtmndlhbgacgnlaaSpecText
import Derived.Test.YtmndlhbgacgnlaaOwnValid
namespace Go.Proofs.Ytmndlhbgacgnlaa
open Go Go.RowKit

/-- What the program's own Join gives. -/
def OwnJoin : Prop := ∀ (A : Option Addr) (xs : List ByteArray) (c : Nat) (s : ByteArray) (w : World), Strs w A xs → xs.length ≤ c → totS xs + xs.length ≤ 2097152 → s.size ≤ 1048576 → Calls Try.prog 167 #[.slice A xs.length c, .string s] w (JoinPost xs s w)

/-- What the loop of textOfArgs holds. -/
structure Ta (w : World) (L : List Ex) (k : Nat) (v : Value) (W : World) : Prop where
  low : Below w.heap.size w W
  row : W.ownsRow w.heap.size 9 1 v k (((L.take k).map exStr).map Value.string)
theorem Ta.start (w : World) (L : List Ex) : Ta w L 0 (.slice none 0 0) w := ⟨Below.refl _ _, World.ownsRow_nil _ _ _ _⟩
theorem Ta.go {w : World} {L : List Ex} {v : Value} {k : Nat} {W W2 : World} (h : Ta w L k v W) (hb : Below W.heap.size W W2) : Ta w L k v W2 :=
  ⟨h.low.trans (hb.mono h.low.size), row_on h.row (fun g e => hb.block g (h.row.lt g e).2)⟩
theorem Ta.form {w : World} {L : List Ex} {v : Value} {k : Nat} {W : World} (h : Ta w L k v W) :
    ∃ A cap, v = .slice A k cap ∧ k ≤ cap ∧ Strs W A ((L.take k).map exStr) ∧ ((L.take k).map exStr).length = k := by
  have h0 := h.row.1
  rw [List.length_map, Nat.mul_one] at h0
  have h1 : OwnsL w.heap.size W v ((L.take k).map exStr) := by unfold OwnsL; rw [h0]; exact h.row
  obtain ⟨A, cap, e, hs⟩ := h1.shape
  rw [h0] at e
  refine ⟨A, cap, e, ?_, hs, h0⟩
  rcases h.row.2 with ⟨e2, h2⟩ | ⟨g', cap', cur, e2, -, -, hn, -⟩
  · rw [h2]; exact Nat.zero_le _
  · rw [e2] at e; cases e; exact hn
/-- A text more. -/
theorem Ta.push {w : World} {L : List Ex} {v v1 : Value} {k : Nat} {W w1 : World} {e : Ex} (h : Ta w L k v W) (he : L[k]? = some e)
    (ho : w1.ownsRow w.heap.size 9 1 v1 (k + 1) (((L.take k).map exStr).map Value.string ++ [Value.string (exStr e)])) (hg : (W.alloc (.cells #[.string (exStr e)] 9)).grownBy w1 v.ownBlock) : Ta w L (k + 1) v1 w1 := by
  refine ⟨?_, ?_⟩
  · have h1 := h.low.alloc h.low.size (.cells #[.string (exStr e)] 9)
    exact h1.grown hg (by have := h.low.size; simp; omega) (fun g hk => ((h.row.alloc (.cells #[.string (exStr e)] 9)).lt g hk).1)
  · rw [map_snoc exStr L k e he, List.map_append]; exact ho

/-- The text of the arguments in parentheses. -/
def parStr (l : List Ex) : ByteArray := ⟨([40] ++ Lib.join (exTexts l) [44] ++ [41]).toArray⟩
theorem par_str {K : Int} {S : ByteArray} {L : List Ex} (h4 : ¬ K = 4) (h1 : ¬ (K = 1 ∨ (K = 2 ∧ L.length = 0))) : exStr (.mk K S L) = S ++ parStr L := by
  rw [exStr, exText, if_neg h4, if_neg h1]
  apply ByteArray.ext
  simp [ByteArray.data_append, parStr]

/-- Texts in parentheses. -/
def parS (xs : List ByteArray) : ByteArray := ⟨([40] ++ Lib.join (listsS xs) [44] ++ [41]).toArray⟩
theorem par_S (l : List Ex) : parS (l.map exStr) = parStr l := by
  unfold parS parStr; rw [lists_str]
set_option maxHeartbeats 1000000 in
theorem own_inpar (hJ : OwnJoin) (A : Option Addr) (xs : List ByteArray) (c : Nat) (w : World) (hs : Strs w A xs) (hc : xs.length ≤ c) (ht : totS xs + xs.length ≤ 2097152) :
    Calls Try.prog 148 #[.slice A xs.length c] w (RetPost (.string (parS xs)) w) := by
  obtain ⟨J, hJe⟩ : ∃ J : ByteArray, J = ⟨(Lib.join (listsS xs) [44]).toArray⟩ := ⟨_, rfl⟩
  obtain ⟨p1, hp1⟩ : ∃ x : ByteArray, x = ⟨#[40]⟩ ++ J := ⟨_, rfl⟩
  obtain ⟨p2, hp2⟩ : ∃ x : ByteArray, x = p1 ++ ⟨#[41]⟩ := ⟨_, rfl⟩
  have HP := Lib.hid (show parS xs = p2 by
    subst hp2 hp1 hJe
    apply ByteArray.ext
    simp [ByteArray.data_append, parS])
  have HJJ := Lib.hid (show Calls Try.prog 167 #[.slice A xs.length c, .string ⟨#[44]⟩] w (RetPost (.string J) w) by
    have h := hJ A xs c ⟨#[44]⟩ w hs hc ht (by decide)
    unfold JoinPost at h; rw [hJe]; exact h)
  have hjs : J.size ≤ 4398046511104 := by
    have h1 := joined_le xs ⟨#[44]⟩ xs.length (Nat.le_refl _) ht (by decide)
    rw [List.take_length] at h1
    have h9 : J.size = (Lib.join (listsS xs) [44]).length := by rw [hJe]; show (List.toArray _).size = _; simp
    rw [h9]; exact h1
  have hA1 : ∀ W, (Op.stringOp .add ⟨#[40]⟩ J).run Try.prog W = .ok (.string p1) W := fun W => by
    rw [hp1]; exact run_string_add_sum W ⟨#[40]⟩ J (by show 1 + _ ≤ _; omega)
  have hq1 : p1.size = 1 + J.size := by rw [hp1]; exact ByteArray.size_append
  have hA2 : ∀ W, (Op.stringOp .add p1 ⟨#[41]⟩).run Try.prog W = .ok (.string p2) W := fun W => by
    rw [hp2]; exact run_string_add_sum W p1 ⟨#[41]⟩ (by show _ + 1 ≤ _; omega)
  generalize hm : xs.length = m at *
  clear hs hc ht hJ hp1 hp2 hq1 hjs hJe hm
  go_enter Try.func148, Try.ntmps148
  go_wp2_with (go_at_call 167; refine HJJ.out.mono ?_; rintro r w1 ⟨rfl, hb1⟩; have HB1 := Lib.hid hb1; clear hb1)
  go_ret
  exact ⟨by rw [HP.out]; rfl, HB1.out⟩

theorem all_of {l : List Ex} {e : Ex} (h : exAllL l = true) (hm : e ∈ l) : exAll e = true := by
  cases he : exAll e with
  | true => rfl
  | false => rw [all_false hm he] at h; cases h
theorem his_slice {W : World} {e : Ex} {u : Value} {b : List Nat} (h : ExIs W (.agg #[.int .i64 e.kind, .string e.name, u]) e b) : ∃ A m c, u = .slice A m c := by
  obtain ⟨u2, e1, -, hs⟩ := h
  obtain ⟨A, c, e2, -⟩ := hs
  simp at e1
  rw [e1, e2]
  exact ⟨_, _, _, rfl⟩
def PartT (n : Nat) : Prop := ∀ (e : Ex) (v : Value) (bs : List Nat) (w : World), exSize e ≤ n → ExIs w v e bs → exTot e ≤ 200000 → exAll e = true →
    Calls Try.prog 70 #[v] w (RetPost (.string (exStr e)) w)

set_option maxHeartbeats 2000000 in
theorem args_text (hJ : OwnJoin) (n : Nat) (ih : PartT n) (L : List Ex) (A : Option Addr) (m c : Nat) (bs : List Nat) (w : World) (hn : exSizes L ≤ n) (hu : SlIs w (.slice A m c) L bs) (hT : exTots L ≤ 200000) (hA : exAllL L = true) :
    Calls Try.prog 113 #[.slice A m c] w (RetPost (.string (parStr L)) w) := by
  obtain ⟨i0, hi, hz0, hz1, hz2⟩ := info_parts Try.info9u
  have HI := Lib.hid (And.intro hi (And.intro hz0 (And.intro hz1 hz2)))
  clear hi hz0 hz1 hz2
  have HU := Lib.hid hu
  have HM := Lib.hid hu.len.1
  have HN := Lib.hid hn
  have HT := Lib.hid hT
  have HA := Lib.hid hA
  have HIH := Lib.hid ih
  have HJN := Lib.hid hJ
  have hc4 : m ≤ 200000 := by have h1 := hu.len.1; have h2 := tots_ge L; omega
  clear hu hn hT hA ih hJ
  have hc3 : (m : Int) ≤ 200000 := by omega
  go_enter Try.func113, Try.ntmps113
  go_wp2_with fail
  have H0 := Lib.hid (Ta.start w L)
  go_loopw [3, 8] (fun v i wr => ∃ (k : Nat), k ≤ m ∧ i = .int .i64 (k : Int) ∧ Hid (Ta w L k v wr)) (fun _ i _ => m - (intOf i).toNat)
  case atStart => exact ⟨0, Nat.zero_le _, rfl, H0⟩
  case round =>
    clear H0
    obtain ⟨k, hk, rfl, HL⟩ := hrel
    obtain ⟨A2, c2, rfl, hkc, hst, hlen⟩ := HL.out.form
    have HKC := Lib.hid hkc
    clear hkc
    by_cases hlt : k < m
    · obtain ⟨g, o, e1, u, b1, rfl, hbl, hget, hmem, c0, c1, c2', his, -⟩ := (HU.out.below HL.out.low).get k (by rw [← HM.out]; exact hlt)
      have HLX := Lib.hid (HL.out.go ((Below.refl _ wr).alloc (Nat.le_refl _) (.cells #[.int .i64 e1.kind, .string e1.name, u] 26)))
      have HCALL := Lib.hid (HIH.out e1 _ b1 (wr.alloc (.cells #[.int .i64 e1.kind, .string e1.name, u] 26)) (by have := HN.out; have := exSizes_mem hmem; omega) (his.below ((Below.refl _ wr).alloc (Nat.le_refl _) _)) (by have := HT.out; have := tots_mem hmem; omega) (all_of HA.out hmem))
      have HG := Lib.hid hget
      obtain ⟨A3, m3, c3, rfl⟩ := his_slice his
      clear his hget hmem hst hlen
      have C1 := Lib.hid (show k + 1 ≤ maxLen by unfold maxLen; omega)
      have C2 := Lib.hid (show (k + 1) * 16 ≤ 140737488355328 by omega)
      have H1C := Lib.hid (one_new (x := exStr e1))
      go_wp2_with (first | (go_at_call 70; refine HCALL.out.mono ?_; rintro r w1 ⟨rfl, hb1⟩; have HL1 := Lib.hid (HLX.out.go hb1); have HO1 := Lib.hid (HL1.out.row.alloc (.cells #[.string (exStr e1)] 9)); have C4 := Lib.hid (show w.heap.size ≤ (w1.alloc (.cells #[.string (exStr e1)] 9)).heap.size by have := HL1.out.low.size; simp; omega); have HNW := Lib.hid (cell_new (W := w1) (x := exStr e1)); clear hb1) | (at_builtin; (refine wpList_append_own _ rfl (.tmp 12) (.tmp 15) 31 rfl w.heap.size 9 i0 (.string ⟨#[]⟩) 1 16 Try.underlying31 HI.out.1 HI.out.2.1 HI.out.2.2.1 HI.out.2.2.2 rfl (by decide) (.slice A2 k c2) _ _ rfl HO1.out ⟨w1.heap.size, 0, none⟩ 1 1 [.string (exStr e1)] rfl rfl HNW.out H1C.out C1.out C2.out C4.out ?_); intro v1 w2 ho1 hg1 _; have HL2 := Lib.hid (HL1.out.push HG.out ho1 hg1); clear ho1 hg1))
      go_roundw
      case rel => exact ⟨k + 1, by omega, by go_num, HL2⟩
      case measure => simp [intOf]; omega
    · have hkm : k = m := by omega
      have hall : L.take k = L := List.take_of_length_le (by rw [← HM.out]; omega)
      rw [hall] at hst hlen
      have HPP := Lib.hid (show Calls Try.prog 148 #[.slice A2 k c2] wr (RetPost (.string (parStr L)) wr) by
        have h := own_inpar HJN.out A2 (L.map exStr) c2 wr hst (by rw [hlen]; exact HKC.out) (by
          have h5 := (text_len (exSizes L)).2 L (Nat.le_refl _)
          have h6 := HT.out
          rw [lens_map, List.length_map]; omega)
        rw [hlen, par_S] at h; exact h)
      clear hst hlen hall hkm
      go_wp2_with (go_at_call 148; refine HPP.out.mono ?_; rintro r w1 ⟨rfl, hb1⟩; have HB1 := Lib.hid (HL.out.low.trans (hb1.mono HL.out.low.size)); clear hb1)
      go_ret
      exact ⟨rfl, HB1.out⟩

theorem keepU_start {wr : World} {a b : Addr} {v u : Value} (h : wr.cell? a = some v) (h2 : wr.cell? b = some u) : wr.drew.cell? a = some v ∧ wr.drew.cell? b = some u ∧ Hid (Below wr.heap.size wr wr.drew) := ⟨h, h2, Lib.hid (Below.drew (Below.refl _ _))⟩
theorem keepU_step {wr X w2 : World} {a b : Addr} {v u : Value} (ha : a.block < wr.heap.size) (hb2 : b.block < wr.heap.size) (hb : Below X.heap.size X w2) (h : X.cell? a = some v ∧ X.cell? b = some u ∧ Hid (Below wr.heap.size wr X)) : w2.cell? a = some v ∧ w2.cell? b = some u ∧ Hid (Below wr.heap.size wr w2) :=
  ⟨(hb.cell (p := a) (Nat.lt_of_lt_of_le ha h.2.2.out.size)).trans h.1, (hb.cell (p := b) (Nat.lt_of_lt_of_le hb2 h.2.2.out.size)).trans h.2.1, Lib.hid (h.2.2.out.trans (hb.mono h.2.2.out.size))⟩
/-- What is known of the world at a call of textOfArgs from a form in the block b. -/
def ArgsT (w : World) (L : List Ex) (A : Option Addr) (m c : Nat) : Prop := ∀ W, Below w.heap.size w W → Calls Try.prog 113 #[.slice A m c] W (RetPost (.string (parStr L)) W)
theorem form_cells {w w1 : World} {T : Nat} {S : ByteArray} {u : Value} (h : Below w.heap.size w w1) :
    (w1.alloc (.cells #[.string S, u] T)).cell? ⟨w1.heap.size, 0, none⟩ = some (.string S) ∧ (w1.alloc (.cells #[.string S, u] T)).cell? ⟨w1.heap.size, 1, none⟩ = some u ∧ Below w.heap.size w (w1.alloc (.cells #[.string S, u] T)) := by
  have h1 := heap_alloc_new w1 (.cells #[.string S, u] T)
  refine ⟨by rw [World.cell?, h1]; rfl, by rw [World.cell?, h1]; rfl, h.alloc h.size _⟩

set_option maxRecDepth 100000 in
set_option maxHeartbeats 2000000 in
theorem part_text (hJ : OwnJoin) (n : Nat) : PartT n := by
  induction n with
  | zero => intro e v bs w h; have := exSize_pos e; omega
  | succ n ih =>
    intro e v bs w hle hv hb ha
    obtain ⟨u, rfl, hsz, hu⟩ := hv
    obtain ⟨A, c, rfl, hc1, hc2, -⟩ := id hu
    cases e with
    | mk K S L =>
    simp only [Ex.kind, Ex.name, Ex.args] at *
    rw [exSize] at hle
    rw [exTot] at hb
    rw [exAll, Bool.and_eq_true] at ha
    have HAT := Lib.hid (show ArgsT w L A L.length c from fun W hW => args_text hJ n ih L A L.length c bs W (by omega) (hu.below hW) (by omega) ha.1)
    have HP := Lib.hid (text_len (exSizes L))
    have hsl : S.size + exTots L ≤ 200000 := hb
    have HPS := Lib.hid (show (parStr L).size ≤ 1000002 by
      have h5 := (text_len (exSizes L)).2 L (Nat.le_refl _)
      have h7 := join_length (exTexts L) [44]
      have h8 : (exTexts L).length = L.length := by rw [texts_map, List.length_map]
      show (List.toArray _).size ≤ _
      simp only [List.length_cons, List.length_nil] at h7
      simp
      omega)
    have hF := ha.2
    obtain ⟨m, hm⟩ : ∃ m, m = L.length := ⟨_, rfl⟩
    rw [← hm] at HAT hc1 hF ⊢
    have HM := Lib.hid hm
    clear hu ha ih hJ hle hm
    obtain ⟨p, hp⟩ : ∃ x : ByteArray, x = S ++ parStr L := ⟨_, rfl⟩
    have hA1 : ∀ W, (Op.stringOp .add S (parStr L)).run Try.prog W = .ok (.string p) W := fun W => by
      rw [hp]; exact run_string_add_sum W S (parStr L) (by have := HPS.out; omega)
    have HPP := Lib.hid (fun (h4 : ¬ K = 4) (h1 : ¬ (K = 1 ∨ (K = 2 ∧ L.length = 0))) => show exStr (.mk K S L) = p by rw [hp]; exact par_str h4 h1)
    clear hp HP
    have hm3 : (m : Int) ≤ 9223372036854775807 := by omega

    have HFB := Lib.hid (fun (W : World) => own_form K S A m c W)
    clear hsz hc1 hc2 hb
    by_cases h1 : K = 1
    · subst h1
      have HX := Lib.hid (show exStr (.mk 1 S L) = S by rw [exStr, exText]; rfl)
      have aV := asVV
      clear hF hA1
      go_enter Try.func70, Try.ntmps70
      go_wp2_with (go_at_call 60; refine (HFB.out _).mono ?_; rintro r w2 ⟨rfl, hb2⟩; rw [show formTy 1 = 85 from rfl]; have HB2 := Lib.hid (right_below hb2); clear hb2)
      go_ret
      exact ⟨by rw [HX.out]; rfl, HB2.out.alloc HB2.out.size _⟩
    by_cases h2 : K = 2
    · subst h2
      have aV := asCV
      have aC := asCC
      by_cases h0 : m = 0
      · have HX := Lib.hid (show exStr (.mk 2 S L) = S by rw [exStr, exText, if_neg (by decide), if_pos (Or.inr ⟨rfl, by rw [← HM.out]; exact h0⟩)])
        subst h0
        clear hF hA1
        go_enter Try.func70, Try.ntmps70
        go_wp2_with (go_at_call 60; refine (HFB.out _).mono ?_; rintro r w2 ⟨rfl, hb2⟩; rw [show formTy 2 = 93 from rfl]; have HB2 := Lib.hid (right_below hb2); clear hb2)
        go_ret
        exact ⟨by rw [HX.out]; rfl, HB2.out.alloc HB2.out.size _⟩
      · have HX := Lib.hid (show exStr (.mk 2 S L) = p from HPP.out (by decide) (by rw [← HM.out]; simp [h0]))
        have hz : ((m : Int) == 0) = false := by simpa using h0
        clear hF h0
        go_enter Try.func70, Try.ntmps70
        go_wp2_with (go_at_call 60; refine (HFB.out _).mono ?_; rintro r w2 ⟨rfl, hb2⟩; rw [show formTy 2 = 93 from rfl]; have HB2 := Lib.hid (right_below hb2); clear hb2)
        obtain ⟨d0, d1, d2⟩ := form_cells (T := 93) (S := S) (u := .slice A m c) HB2.out
        generalize hwr : w2.alloc (.cells #[.string S, .slice A m c] 93) = wr at *
        have HAW := Lib.hid (fun (W : World) (hW : Below wr.heap.size wr W) => HAT.out W (d2.trans (hW.mono d2.size)))
        have HLW := Lib.hid d2
        have hbl : w2.heap.size < wr.heap.size := by rw [← hwr]; simp
        have hbl0 : (⟨w2.heap.size, 0, none⟩ : Addr).block < wr.heap.size := hbl
        have hbl1 : (⟨w2.heap.size, 1, none⟩ : Addr).block < wr.heap.size := hbl
        have HD0 := Lib.hid d0
        have HD1 := Lib.hid d1
        clear hwr d2 d0 d1
        go_region_held3 (fun X => X.cell? ⟨w2.heap.size, 0, none⟩ = some (.string S) ∧ X.cell? ⟨w2.heap.size, 1, none⟩ = some (.slice A m c) ∧ Hid (Below wr.heap.size wr X))
          (first | exact keepU_start HD0.out HD1.out | exact keepU_step (a := ⟨w2.heap.size, 0, none⟩) (b := ⟨w2.heap.size, 1, none⟩) hbl0 hbl1 hb3 (by assumption))
          (first | (go_at_call 113; have hh := (‹_ ∧ _ ∧ Hid (Below wr.heap.size wr _)›).2.2.out; refine (HAW.out _ hh).mono ?_; rintro r w3 ⟨rfl, hb3⟩; clear hh))
        all_goals
          have hx := ‹_ ∧ _ ∧ Hid (Below wr.heap.size wr w3)›
          have HXX := Lib.hid (HLW.out.trans (hx.2.2.out.mono HLW.out.size))
          clear hx
          go_wp2_with fail
          go_ret
          exact ⟨by rw [HX.out]; rfl, HXX.out⟩
    by_cases h3 : K = 3
    · subst h3
      have aV := asKV
      have aC := asKC
      have aK := asKK
      have HX := Lib.hid (show exStr (.mk 3 S L) = p from HPP.out (by decide) (by simp))
      clear hF
      go_enter Try.func70, Try.ntmps70
      go_wp2_with (go_at_call 60; refine (HFB.out _).mono ?_; rintro r w2 ⟨rfl, hb2⟩; rw [show formTy 3 = 89 from rfl]; have HB2 := Lib.hid (right_below hb2); clear hb2)
      obtain ⟨d0, d1, d2⟩ := form_cells (T := 89) (S := S) (u := .slice A m c) HB2.out
      generalize hwr : w2.alloc (.cells #[.string S, .slice A m c] 89) = wr at *
      have HAW := Lib.hid (fun (W : World) (hW : Below wr.heap.size wr W) => HAT.out W (d2.trans (hW.mono d2.size)))
      have HLW := Lib.hid d2
      have hbl : w2.heap.size < wr.heap.size := by rw [← hwr]; simp
      have hbl0 : (⟨w2.heap.size, 0, none⟩ : Addr).block < wr.heap.size := hbl
      have hbl1 : (⟨w2.heap.size, 1, none⟩ : Addr).block < wr.heap.size := hbl
      have HD0 := Lib.hid d0
      have HD1 := Lib.hid d1
      clear hwr d2 d0 d1
      go_region_held3 (fun X => X.cell? ⟨w2.heap.size, 0, none⟩ = some (.string S) ∧ X.cell? ⟨w2.heap.size, 1, none⟩ = some (.slice A m c) ∧ Hid (Below wr.heap.size wr X))
        (first | exact keepU_start HD0.out HD1.out | exact keepU_step (a := ⟨w2.heap.size, 0, none⟩) (b := ⟨w2.heap.size, 1, none⟩) hbl0 hbl1 hb3 (by assumption))
        (first | (go_at_call 113; have hh := (‹_ ∧ _ ∧ Hid (Below wr.heap.size wr _)›).2.2.out; refine (HAW.out _ hh).mono ?_; rintro r w3 ⟨rfl, hb3⟩; clear hh))
      all_goals
        have hx := ‹_ ∧ _ ∧ Hid (Below wr.heap.size wr w3)›
        have HXX := Lib.hid (HLW.out.trans (hx.2.2.out.mono HLW.out.size))
        clear hx
        go_wp2_with fail
        go_ret
        exact ⟨by rw [HX.out]; rfl, HXX.out⟩
    by_cases h4 : K = 4
    · subst h4
      have HX := Lib.hid (show exStr (.mk 4 S L) = ⟨#[33]⟩ by rw [exStr, exText]; rfl)
      have aV := asSV
      have aC := asSC
      have aK := asSK
      clear hF hA1
      go_enter Try.func70, Try.ntmps70
      go_wp2_with (go_at_call 60; refine (HFB.out _).mono ?_; rintro r w2 ⟨rfl, hb2⟩; rw [show formTy 4 = 147 from rfl]; have HB2 := Lib.hid (right_below hb2); clear hb2)
      go_ret
      exact ⟨by rw [HX.out]; rfl, HB2.out⟩
    · exfalso
      unfold exFormOf at hF
      rw [if_neg h1, if_neg h2, if_neg h3, if_neg h4] at hF
      cases hF

set_option maxHeartbeats 1000000 in
theorem own_format (hJ : OwnJoin) (e : Ex) (v : Value) (bs : List Nat) (w : World) (hv : ExIs w v e bs) (hb : exSize e ≤ 1099511627776) :
    Calls Try.prog 29 #[v] w (RetPost (.string (exFmt e)) w) := by
  have HL := Lib.hid (fun (W : World) (h : Below w.heap.size w W) => own_valid e v bs W (hv.below h) hb)
  have HA := Lib.hid (fun (W : World) (h : Below w.heap.size w W) (h1 : exTot e ≤ 200000) (h2 : exAll e = true) => part_text hJ (exSize e) e v bs W (Nat.le_refl _) (hv.below h) h1 h2)
  obtain ⟨u, rfl, -, hu⟩ := hv
  obtain ⟨A, c, rfl, -⟩ := id hu
  clear hu hb hJ
  have HBX := Lib.hid (box_cells2 w e.kind e.name (.slice A e.args.length c))
  have HB0 := Lib.hid ((Below.refl w.heap.size w).alloc (Nat.le_refl _) (.cells #[.int .i64 e.kind, .string e.name, .slice A e.args.length c] 26))
  have HV := Lib.hid (show exFmt e = if exValid e then exStr e else ⟨#[]⟩ from rfl)
  have HT := Lib.hid (fun (h : exValid e = true) => show exTot e ≤ 200000 ∧ exAll e = true from ⟨by have := valid_tot h; omega, by unfold exValid at h; simp only [Bool.and_eq_true] at h; exact h.2.2⟩)
  generalize exStr e = t at *
  generalize exValid e = a at *
  go_enter Try.func29, Try.ntmps29
  go_wp2_with fail
  go_at_call 15
  refine (HL.out _ HB0.out).mono ?_
  rintro r w1 ⟨rfl, hb1⟩
  have HB1 := Lib.hid (HB0.out.trans (hb1.mono HB0.out.size))
  obtain ⟨x0, x1, x2⟩ := HBX.out w1 hb1
  clear hb1
  cases a
  · go_wp2_with fail
    go_ret
    exact ⟨by rw [HV.out]; rfl, HB1.out⟩
  · go_wp2_with fail
    go_at_call 70
    refine (HA.out _ HB1.out (HT.out (by first | rfl | trivial)).1 (HT.out (by first | rfl | trivial)).2).mono ?_
    rintro r w3 ⟨rfl, hb3⟩
    have HB3 := Lib.hid (HB1.out.trans (hb3.mono HB1.out.size))
    clear hb3
    go_wp2_with fail
    go_ret
    exact ⟨by rw [HV.out]; rfl, HB3.out⟩
end Go.Proofs.Ytmndlhbgacgnlaa
