/- A part of the proof of the seat's statement: Kids. Condition: as each says. -/
import Derived.Test.YtiaknfnhmoinpaaGreatNames
import Derived.Laws.OwnMore
import Derived.Test.YtiaknfnhmoinpaaGreatSpecJoin
import Derived.Test.YtiaknfnhmoinpaaGreatFrame
import Derived.Deep.RegionHeld3
import Derived.Laws.Concat
import Derived.Deep.AppendLies
set_option maxHeartbeats 8000000
namespace Go.Proofs.YtiaknfnhmoinpaaGreat
open Go Go.RowKit
def OwnsL (B : Nat) (w : World) (v : Value) (xs : List ByteArray) : Prop := w.ownsRow B 9 1 v xs.length (xs.map Value.string)
theorem OwnsL.shape {B : Nat} {w : World} {v : Value} {xs : List ByteArray} (h : OwnsL B w v xs) :
 ∃ A cap, v = .slice A xs.length cap ∧ Strs w A xs := by
 rcases h.2 with ⟨rfl, h0⟩ | ⟨g, cap, cur, rfl, hb, -⟩
 · refine ⟨none, 0, ?_, ?_⟩
   · rw [h0]
   have : xs = [] := List.eq_nil_of_length_eq_zero h0
   subst this
   exact fun i x hx => by simp at hx
 have hl := h.lt g rfl
 exact ⟨_, cap, rfl, fun i x hx => ⟨_, rfl, h.cells (g := g) rfl i _ (by rw [List.getElem?_map, hx]; rfl), hl.2⟩⟩
theorem Tryz.info9u : (Tryz.prog.info? 9).map (fun i => (i.zero, i.size, i.bytes)) = some (some (.string ⟨#[]⟩), 1, 16) := by kernel_rfl
theorem OwnsL.next {B : Nat} {w1 : World} {v : Value} {out : List ByteArray} {x : ByteArray} (h : w1.ownsRow B 9 1 v (out.length + 1) (out.map Value.string ++ [Value.string x])) : OwnsL B w1 v (out ++ [x]) := by
 unfold OwnsL; rw [lA, List.map_append]; exact h
theorem OwnsL.grown {w wr w1 : World} {v : Value} {n : Nat} {l : List Value} (hb : Below w.heap.size w wr) (ho : wr.ownsRow w.heap.size 9 1 v n l) (hg : wr.grownBy w1 v.ownBlock) : Below w.heap.size w w1 :=
 hb.grown hg hb.size (fun k hk => (ho.lt k hk).1)
theorem cell_new {W : World} {x : ByteArray} : ∀ j u, [Value.string x][j]? = some u → (W.alloc (.cells #[.string x] 9)).cell? ((⟨W.heap.size, 0, none⟩ : Addr).add j) = some u := fun j u hu => by
 have hj : j = 0 := by
  rcases j with _ | j
  · rfl
  simp at hu
 subst hj
 simp at hu
 rw [← hu]; simp [go_sem]
theorem one_new {x : ByteArray} : ∀ u ∈ [Value.string x], u.oneCell' = true := fun u hu => by rw [List.mem_singleton] at hu; rw [hu]; rfl
mutual
def exText : Ex → List UInt8
 | .mk k s l => if k = 4 then [33] else if k = 1 ∨ (k = 2 ∧ l.length = 0) then s.data.toList else s.data.toList ++ [40] ++ Lib.join (exTexts l) [44] ++ [41]
def exTexts : List Ex → List (List UInt8)
 | [] => []
 | e :: r => exText e :: exTexts r
end
def exStr (e : Ex) : ByteArray := ⟨(exText e).toArray⟩
theorem str_size (e : Ex) : (exStr e).size = (exText e).length := by
 show (exText e).toArray.size = _
 simp
theorem texts_map : ∀ l : List Ex, exTexts l = l.map exText := by
 intro l
 induction l with
 | nil => rfl
 | cons e r ih => rw [exTexts, ih]; rfl
theorem lists_str (l : List Ex) : listsS (l.map exStr) = exTexts l := by
 rw [texts_map]
 simp [listsS, exStr]
theorem text_parts (e : Ex) : exText e = if e.kind = 4 then [33] else if e.kind = 1 ∨ (e.kind = 2 ∧ e.args.length = 0) then e.name.data.toList else e.name.data.toList ++ [40] ++ Lib.join (exTexts e.args) [44] ++ [41] := by
 cases e; rw [exText]; rfl
theorem lens_map : ∀ l : List Ex, totS (l.map exStr) = Lib.lens (exTexts l) := by
 intro l
 rw [← lists_str, lens_lists]
theorem text_len (n : Nat) : (∀ e : Ex, exSize e ≤ n → (exText e).length ≤ 4 * exTot e + 2) ∧ (∀ l : List Ex, exSizes l ≤ n → Lib.lens (exTexts l) + l.length ≤ 4 * exTots l) := by
 induction n with
 | zero =>
  refine ⟨fun e h => by have := exSize_pos e; omega, fun l h => ?_⟩
  cases l with
  | nil => simp [exTexts, Lib.lens]
  | cons e r => rw [exSizes] at h; have := exSize_pos e; omega
 | succ n ih =>
  have hE : ∀ e : Ex, exSize e ≤ n + 1 → (exText e).length ≤ 4 * exTot e + 2 := by
   intro e h
   cases e with
   | mk k s l =>
    rw [exSize] at h
    rw [exText, exTot]
    have h1 := ih.2 l (by omega)
    have h2 := join_length (exTexts l) [44]
    have h3 : (exTexts l).length = l.length := by rw [texts_map, List.length_map]
    have h4 := size_listS s
    split
    · simp
    split
    · omega
    simp only [lA, lC, List.length_nil] at h2 ⊢
    omega
  refine ⟨hE, ?_⟩
  intro l
  induction l with
  | nil => intro _; simp [exTexts, exTots, Lib.lens]
  | cons e r ihl =>
   intro h
   rw [exSizes] at h
   have h1 := hE e (by omega)
   have h2 := ihl (by omega)
   have h3 : Lib.lens (exTexts (e :: r)) = (exText e).length + Lib.lens (exTexts r) := by rw [exTexts]; simp [Lib.lens]
   rw [h3, exTots, lC]
   omega
theorem map_snoc {β : Type} (f : Ex → β) (l : List Ex) (k : Nat) (e : Ex) (h : l[k]? = some e) : (l.take (k + 1)).map f = (l.take k).map f ++ [f e] := by
 rw [take_ex l k e h]; simp
structure Tl (w : World) (L : List Ex) (K : Int) (S : ByteArray) (u : Value) (k : Nat) (v : Value) (W : World) : Prop where
 low : Below (w.heap.size + 1) (w.alloc (.cells #[.int .i64 K, .string S, u] 32)) W
 row : W.ownsRow (w.heap.size + 1) 9 1 v k (((L.take k).map exStr).map Value.string)
theorem Tl.box {w : World} {L : List Ex} {K : Int} {S : ByteArray} {u v : Value} {k : Nat} {W : World} (h : Tl w L K S u k v W) :
 W.cell? ⟨w.heap.size, 0, none⟩ = some (.int .i64 K) ∧ W.cell? ⟨w.heap.size, 1, none⟩ = some (.string S) ∧ W.cell? ⟨w.heap.size, 2, none⟩ = some u ∧ w.heap.size + 1 ≤ W.heap.size := by
 have h1 : W.heap[w.heap.size]? = _ := (h.low.block _ (Nat.lt_succ_self _)).trans (heap_alloc_new _ _)
 refine ⟨by simp [World.cell?, h1], by simp [World.cell?, h1], by simp [World.cell?, h1], ?_⟩
 have := h.low.size
 simpa using this
theorem Tl.below {w : World} {L : List Ex} {K : Int} {S : ByteArray} {u v : Value} {k : Nat} {W : World} (h : Tl w L K S u k v W) : Below w.heap.size w W :=
 ((wB w.heap.size w).alloc (nR _) _).trans (h.low.mono (Nat.le_succ _))
theorem Tl.go {w : World} {L : List Ex} {K : Int} {S : ByteArray} {u v : Value} {k : Nat} {W W2 : World} (h : Tl w L K S u k v W) (hb : Below W.heap.size W W2) : Tl w L K S u k v W2 :=
 ⟨h.low.trans (hb.mono h.box.2.2.2), row_on h.row (fun g e => hb.block g (h.row.lt g e).2)⟩
theorem Tl.form {w : World} {L : List Ex} {K : Int} {S : ByteArray} {u v : Value} {k : Nat} {W : World} (h : Tl w L K S u k v W) :
 ∃ A cap, v = .slice A k cap ∧ Strs W A ((L.take k).map exStr) ∧ ((L.take k).map exStr).length = k := by
 have h0 := h.row.1
 rw [List.length_map, Nat.mul_one] at h0
 have h1 : OwnsL (w.heap.size + 1) W v ((L.take k).map exStr) := by unfold OwnsL; rw [h0]; exact h.row
 obtain ⟨A, cap, e, hs⟩ := h1.shape
 exact ⟨A, cap, by rw [e, h0], hs, h0⟩
theorem Tl.push {w : World} {L : List Ex} {K : Int} {S : ByteArray} {u v v1 : Value} {k : Nat} {W w1 : World} {e : Ex} (h : Tl w L K S u k v W) (he : L[k]? = some e)
 (ho : w1.ownsRow (w.heap.size + 1) 9 1 v1 (k + 1) (((L.take k).map exStr).map Value.string ++ [Value.string (exStr e)])) (hg : (W.alloc (.cells #[.string (exStr e)] 9)).grownBy w1 v.ownBlock) : Tl w L K S u (k + 1) v1 w1 := by
 refine ⟨?_, ?_⟩
 · have h1 := h.low.alloc (by have := h.box.2.2.2; exact this) (.cells #[.string (exStr e)] 9)
   exact h1.grown hg (by have := h.box.2.2.2; simp; omega) (fun g hk => ((h.row.alloc (.cells #[.string (exStr e)] 9)).lt g hk).1)
 rw [map_snoc exStr L k e he, List.map_append]; exact ho
theorem Tl.start (w : World) (L : List Ex) (K : Int) (S : ByteArray) (u : Value) : Tl w L K S u 0 (.slice (some ⟨w.heap.size + 1, 0, none⟩) 0 0) ((w.alloc (.cells #[.int .i64 K, .string S, u] 32)).alloc (.cells #[] 9)) := by
 refine ⟨(wB _ _).alloc (by simp) _, ?_⟩
 have := World.ownsRow_made (w.alloc (.cells #[.int .i64 K, .string S, u] 32)) (base := w.heap.size + 1) (e := 9) (size := 1) #[] 0 (by simp) (Nat.zero_le _) rfl
 simpa using this
theorem keepT_start {wr : World} {a : Addr} {v : Value} (h : wr.cell? a = some v) : wr.drew.cell? a = some v ∧ Hid (Below wr.heap.size wr wr.drew) := ⟨h, zH (Below.drew (wB _ _))⟩
theorem keepT_step {wr X w2 : World} {a : Addr} {v : Value} (ha : a.block < wr.heap.size) (hb : Below X.heap.size X w2) (h : X.cell? a = some v ∧ Hid (Below wr.heap.size wr X)) : w2.cell? a = some v ∧ Hid (Below wr.heap.size wr w2) :=
 ⟨(hb.cell (p := a) (nL ha h.2.out.size)).trans h.1, zH (h.2.out.trans (hb.mono h.2.out.size))⟩
theorem text_any (n : Nat) : ∀ (e : Ex) (v : Value) (bs : List Nat) (w : World), exSize e ≤ n → ExIs w v e bs → exTot e ≤ 200000 →
 Calls Tryz.prog 113 #[v] w (RetPost (.string (exStr e)) w) := by
 induction n with
 | zero => intro e v bs w h; have := exSize_pos e; omega
 | succ n ih =>
  intro e v bs w hle hv hb
  obtain ⟨i0, hi, hz0, hz1, hz2⟩ := info_parts Tryz.info9u
  have HI := zH (aI hi (aI hz0 (aI hz1 hz2)))
  clear hi hz0 hz1 hz2
  obtain ⟨u, rfl, hsz, hu⟩ := hv
  obtain ⟨A, c, rfl, hc1, hc2, -⟩ := id hu
  have HU := zH hu
  obtain ⟨K, hK⟩ : ∃ K, K = e.kind := ⟨_, rfl⟩
  obtain ⟨S, hS⟩ : ∃ S, S = e.name := ⟨_, rfl⟩
  obtain ⟨L, hL⟩ : ∃ L, L = e.args := ⟨_, rfl⟩
  obtain ⟨m, hm⟩ : ∃ m, m = L.length := ⟨_, rfl⟩
  have HE := zH (show exSize e = exSizes L + 1 by rw [hL]; cases e; rfl)
  have HT := zH (show S.size + exTots L ≤ 200000 by rw [hS, hL, ← tot_parts]; exact hb)
  have HX := zH (show exText e = if K = 4 then [33] else if K = 1 ∨ (K = 2 ∧ m = 0) then S.data.toList else S.data.toList ++ [40] ++ Lib.join (exTexts L) [44] ++ [41] by rw [hK, hS, hm, hL]; exact text_parts e)
  rw [← hK, ← hS, ← hL, ← hm]
  rw [← hS] at hsz
  rw [← hL, ← hm] at hc1 HU
  have HM := zH hm
  have HN := zH hle
  have HIH := zH ih
  have hc4 : m ≤ 200000 := by have h1 := HT.out; have h2 := tots_ge L; omega
  clear hu hK hS hL hm hle hb ih
  have hc3 : (m : Int) ≤ 200000 := by omega
  go_enter Tryz.func113, Tryz.ntmps113
  go_wp2_with fail
  have H0 := zH (Tl.start w L K S (.slice A m c))
  go_loopw [3, 4] (fun v i wr => ∃ (k : Nat), k ≤ m ∧ i = .int .i64 (k : Int) ∧ Hid (Tl w L K S (.slice A m c) k v wr)) (fun _ i _ => m - (intOf i).toNat)
  case atStart => exact ⟨0, Nat.zero_le _, rfl, H0⟩
  case round =>
   clear H0
   obtain ⟨k, hk, rfl, HL⟩ := hrel
   obtain ⟨d0, d1, d2, hgo⟩ := HL.out.box
   obtain ⟨A2, c2, rfl, hst, hlen⟩ := HL.out.form
   by_cases hlt : k < m
   · obtain ⟨g, o, e1, u, b1, rfl, hbl, hget, hmem, c0, c1, c2', his, -⟩ := (HU.out.below HL.out.below).get k (by rw [← HM.out]; exact hlt)
     have HIS := zH his
     have HCALL := zH (HIH.out e1 _ b1 wr (by have := HE.out; have := HN.out; have := exSizes_mem hmem; omega) his (by have := HT.out; have := tots_mem hmem; omega))
     have HG := zH hget
     clear his hget hmem hst hlen
     have C1 := zH (show k + 1 ≤ maxLen by unfold maxLen; omega)
     have C2 := zH (show (k + 1) * 16 ≤ 140737488355328 by omega)
     have H1C := zH (one_new (x := exStr e1))
     go_wp2_with (first | (go_at_call 113; refine HCALL.out.mono ?_; rintro r w1 ⟨rfl, hb1⟩; have HL1 := zH (HL.out.go hb1); have HO1 := zH (HL1.out.row.alloc (.cells #[.string (exStr e1)] 9)); have C4 := zH (show w.heap.size + 1 ≤ (w1.alloc (.cells #[.string (exStr e1)] 9)).heap.size by have := HL1.out.box.2.2.2; simp; omega); have HNW := zH (cell_new (W := w1) (x := exStr e1)); clear hb1) | (at_builtin; (refine wpList_append_own _ rfl (.tmp 13) (.tmp 20) 29 rfl (w.heap.size + 1) 9 i0 (.string ⟨#[]⟩) 1 16 Tryz.underlying29 HI.out.1 HI.out.2.1 HI.out.2.2.1 HI.out.2.2.2 rfl (by decide) (.slice A2 k c2) _ _ rfl HO1.out ⟨w1.heap.size, 0, none⟩ 1 1 [.string (exStr e1)] rfl rfl HNW.out H1C.out C1.out C2.out C4.out ?_); intro v1 w2 ho1 hg1 _; have HL2 := zH (HL1.out.push HG.out ho1 hg1); clear ho1 hg1))
     go_roundw
     case rel => exact ⟨k + 1, by omega, by go_num, HL2⟩
     case measure => simp [intOf]; omega
   have hkm : k = m := by omega
   have HKM := zH hkm
   have hall : L.take k = L := List.take_of_length_le (by rw [← HM.out]; omega)
   rw [hall] at hst hlen
   have HST := zH hst
   have HLEN := zH hlen
   clear hst hlen hall hkm
   by_cases h4 : K = 4
   · have HX2 := zH (show exStr e = ⟨#[33]⟩ by rw [exStr, HX.out, if_pos h4])
     subst h4
     go_wp2_with fail
     go_ret
     exact ⟨by rw [HX2.out]; rfl, HL.out.below⟩
   have h4' : (K == 4) = false := by simpa using h4
   by_cases h1 : K = 1
   · have HX2 := zH (show exStr e = S by rw [exStr, HX.out, if_neg h4, if_pos (Or.inl h1)])
     subst h1
     clear h4 h4'
     go_wp2_with fail
     go_ret
     exact ⟨by rw [HX2.out]; rfl, HL.out.below⟩
   have h1' : (K == 1) = false := by simpa using h1
   obtain ⟨J, hJ⟩ : ∃ J : ByteArray, J = ⟨(Lib.join (exTexts L) [44]).toArray⟩ := ⟨_, rfl⟩
   obtain ⟨p1, hp1⟩ : ∃ x : ByteArray, x = S ++ ⟨#[40]⟩ := ⟨_, rfl⟩
   obtain ⟨p2, hp2⟩ : ∃ x : ByteArray, x = p1 ++ J := ⟨_, rfl⟩
   obtain ⟨p3, hp3⟩ : ∃ x : ByteArray, x = p2 ++ ⟨#[41]⟩ := ⟨_, rfl⟩
   have HP3 := zH (show p3 = ⟨(S.data.toList ++ [40] ++ Lib.join (exTexts L) [44] ++ [41]).toArray⟩ by
    subst hp3 hp2 hp1 hJ
    apply ByteArray.ext
    simp [ByteArray.data_append])
   have hjs : J.size ≤ 1000000 := by
    have h5 := (text_len (exSizes L)).2 L (nR _)
    have h6 := HT.out
    have h7 := join_length (exTexts L) [44]
    have h8 : (exTexts L).length = L.length := by rw [texts_map, List.length_map]
    have h9 : J.size = (Lib.join (exTexts L) [44]).length := by rw [hJ]; show (List.toArray _).size = _; simp
    simp only [lC, List.length_nil] at h7
    omega
   have hs1 : S.size ≤ 200000 := by have := HT.out; omega
   have hA1 : ∀ W, (Op.stringOp .add S ⟨#[40]⟩).run Tryz.prog W = .ok (.string p1) W := fun W => by
    rw [hp1]; exact run_string_add_sum W S ⟨#[40]⟩ (by show _ + 1 ≤ _; omega)
   have hq1 : p1.size = S.size + 1 := by rw [hp1]; exact ByteArray.size_append
   have hA2 : ∀ W, (Op.stringOp .add p1 J).run Tryz.prog W = .ok (.string p2) W := fun W => by
    rw [hp2]; exact run_string_add_sum W p1 J (by omega)
   have hq2 : p2.size = p1.size + J.size := by rw [hp2]; exact ByteArray.size_append
   have hA3 : ∀ W, (Op.stringOp .add p2 ⟨#[41]⟩).run Tryz.prog W = .ok (.string p3) W := fun W => by
    rw [hp3]; exact run_string_add_sum W p2 ⟨#[41]⟩ (by show _ + 1 ≤ _; omega)
   have HJ0 := zH hJ
   clear hp1 hp2 hp3 hq1 hq2 hjs hs1 hJ
   have HTT := zH (show totS (L.map exStr) + (L.map exStr).length ≤ 2097152 by
    have h5 := (text_len (exSizes L)).2 L (nR _)
    have h6 := HT.out
    rw [lens_map, List.length_map]; omega)
   by_cases h2 : K = 2
   · subst h2
     by_cases h0 : k = 0
     · have HX2 := zH (show exStr e = S by rw [exStr, HX.out, if_neg h4, if_pos (Or.inr ⟨rfl, by rw [← HKM.out, h0]⟩)])
       subst h0
       clear h4 h1 h4' h1'
       go_wp2_with fail
       go_ret
       exact ⟨by rw [HX2.out]; rfl, HL.out.below⟩
     have HX2 := zH (show exStr e = p3 by rw [HP3.out, exStr, HX.out, if_neg h4, if_neg (by rw [← HKM.out]; simp [h0])])
     have hz : ((k : Int) == 0) = false := by simpa using h0
     clear h4 h1 h4' h1' h0
     have HJ := zH (fun (W : World) (hW : Below wr.heap.size wr W) => show Calls Tryz.prog 109 #[.slice A2 k c2, .string ⟨#[44]⟩] W (RetPost (.string J) W) by
      have h := spec_join A2 (L.map exStr) c2 ⟨#[44]⟩ W (HST.out.below hW) HTT.out (by decide)
      rw [HLEN.out] at h; unfold JoinPost at h; rw [lists_str] at h; rw [HJ0.out]; exact h)
     have hbl : (⟨w.heap.size, 1, none⟩ : Addr).block < wr.heap.size := by show w.heap.size < _; omega
     have HDD := zH d1
     go_wp2_with fail
     go_region_held3 (fun X => X.cell? ⟨w.heap.size, 1, none⟩ = some (.string S) ∧ Hid (Below wr.heap.size wr X))
      (first | exact keepT_start HDD.out | exact keepT_step (a := ⟨w.heap.size, 1, none⟩) hbl hb2 (by assumption))
      (first | (go_at_call 109; have hh := (‹_ ∧ Hid (Below wr.heap.size wr _)›).2.out; refine (HJ.out _ hh).mono ?_; rintro r w2 ⟨rfl, hb2⟩; clear hh))
     all_goals
      have hx := ‹_ ∧ Hid (Below wr.heap.size wr w2)›
      have HXX := zH (HL.out.below.trans (hx.2.out.mono (by omega)))
      clear hx
      go_wp2_with fail
      go_ret
      exact ⟨by rw [HX2.out]; rfl, HXX.out⟩
   have h2' : (K == 2) = false := by simpa using h2
   have HX2 := zH (show exStr e = p3 by rw [HP3.out, exStr, HX.out, if_neg h4, if_neg (by simp [h1, h2])])
   clear h4 h1 h2
   have HJ := zH (fun (W : World) (hW : Below wr.heap.size wr W) => show Calls Tryz.prog 109 #[.slice A2 k c2, .string ⟨#[44]⟩] W (RetPost (.string J) W) by
    have h := spec_join A2 (L.map exStr) c2 ⟨#[44]⟩ W (HST.out.below hW) HTT.out (by decide)
    rw [HLEN.out] at h; unfold JoinPost at h; rw [lists_str] at h; rw [HJ0.out]; exact h)
   have hbl : (⟨w.heap.size, 1, none⟩ : Addr).block < wr.heap.size := by show w.heap.size < _; omega
   have HDD := zH d1
   go_wp2_with fail
   go_region_held3 (fun X => X.cell? ⟨w.heap.size, 1, none⟩ = some (.string S) ∧ Hid (Below wr.heap.size wr X))
    (first | exact keepT_start HDD.out | exact keepT_step (a := ⟨w.heap.size, 1, none⟩) hbl hb2 (by assumption))
    (first | (go_at_call 109; have hh := (‹_ ∧ Hid (Below wr.heap.size wr _)›).2.out; refine (HJ.out _ hh).mono ?_; rintro r w2 ⟨rfl, hb2⟩; clear hh))
   all_goals
    have hx := ‹_ ∧ Hid (Below wr.heap.size wr w2)›
    have HXX := zH (HL.out.below.trans (hx.2.out.mono (by omega)))
    clear hx
    go_wp2_with fail
    go_ret
    exact ⟨by rw [HX2.out]; rfl, HXX.out⟩
theorem nameL_len {lo hi : Nat} {s : ByteArray} (h : nameL lo hi s.data.toList = true) : s.size ≤ 6 := by
 apply Decidable.byContradiction
 intro h1
 rw [name_size lo hi s (Or.inr (by omega))] at h
 cases h
theorem form_len {K : Int} {s : ByteArray} {m : Nat} (h : exFormOf K s m = true) : s.size ≤ 6 := by
 unfold exFormOf at h
 split at h
 · rw [Bool.and_eq_true] at h; exact nameL_len h.1
 split at h
 · rw [Bool.and_eq_true] at h; exact nameL_len h.1
 split at h
 · rw [Bool.and_eq_true] at h; exact nameL_len h.1
 split at h
 · rw [Bool.and_eq_true] at h; have := of_decide_eq_true h.1; omega
 cases h
theorem all_tot (n : Nat) : (∀ e : Ex, exSize e ≤ n → exAll e = true → exTot e + 1 ≤ 7 * exSize e) ∧ (∀ l : List Ex, exSizes l ≤ n → exAllL l = true → exTots l ≤ 7 * exSizes l) := by
 induction n with
 | zero =>
  refine ⟨fun e h => by have := exSize_pos e; omega, fun l h _ => ?_⟩
  cases l with
  | nil => simp [exTots]
  | cons e r => rw [exSizes] at h; have := exSize_pos e; omega
 | succ n ih =>
  have hE : ∀ e : Ex, exSize e ≤ n + 1 → exAll e = true → exTot e + 1 ≤ 7 * exSize e := by
   intro e h ha
   cases e with
   | mk k s l =>
    rw [exSize] at h ⊢
    rw [exTot]
    rw [exAll, Bool.and_eq_true] at ha
    have h1 := ih.2 l (by omega) ha.1
    have h2 := form_len ha.2
    omega
  refine ⟨hE, ?_⟩
  intro l
  induction l with
  | nil => intro _ _; simp [exTots]
  | cons e r ihl =>
   intro h ha
   rw [exSizes] at h ⊢
   rw [exTots]
   rw [exAllL, Bool.and_eq_true] at ha
   have h1 := hE e (by omega) ha.1
   have h2 := ihl (by omega) ha.2
   omega
theorem valid_tot {e : Ex} (h : exValid e = true) : exTot e ≤ 560 := by
 unfold exValid at h
 rw [Bool.and_eq_true, Bool.and_eq_true] at h
 have h1 := of_decide_eq_true h.1
 have h2 := (all_tot (exSize e)).1 e (nR _) h.2.2
 omega
def exFmt (e : Ex) : ByteArray := if exValid e then exStr e else ⟨#[]⟩
theorem format_any (e : Ex) (v : Value) (bs : List Nat) (w : World) (hv : ExIs w v e bs) (hb : exTot e ≤ 1048576) :
 Calls Tryz.prog 108 #[v] w (RetPost (.string (exFmt e)) w) := by
 have HL := zH (fun (W : World) (h : Below w.heap.size w W) => valid_any e v bs W (hv.below h) hb)
 have HA := zH (fun (W : World) (h : Below w.heap.size w W) (h1 : exTot e ≤ 200000) => text_any (exSize e) e v bs W (nR _) (hv.below h) h1)
 obtain ⟨u, rfl, -, hu⟩ := hv
 obtain ⟨A, c, rfl, -⟩ := id hu
 clear hu hb
 have HBX := zH (box_cells2 w e.kind e.name (.slice A e.args.length c))
 have HB0 := zH ((wB w.heap.size w).alloc (nR _) (.cells #[.int .i64 e.kind, .string e.name, .slice A e.args.length c] 32))
 have HV := zH (show exFmt e = if exValid e then exStr e else ⟨#[]⟩ from rfl)
 have HT := zH (fun (h : exValid e = true) => show exTot e ≤ 200000 by have := valid_tot h; omega)
 generalize exStr e = t at *
 generalize exValid e = a at *
 go_enter Tryz.func108, Tryz.ntmps108
 go_wp2_with fail
 go_at_call 42
 refine (HL.out _ HB0.out).mono ?_
 rintro r w1 ⟨rfl, hb1⟩
 have HB1 := zH (HB0.out.trans (hb1.mono HB0.out.size))
 obtain ⟨x0, x1, x2⟩ := HBX.out w1 hb1
 clear hb1
 cases a
 · go_wp2_with fail
   go_ret
   exact ⟨by rw [HV.out]; rfl, HB1.out⟩
 go_wp2_with fail
 go_at_call 113
 refine (HA.out _ HB1.out (HT.out (by first | rfl | trivial))).mono ?_
 rintro r w3 ⟨rfl, hb3⟩
 have HB3 := zH (HB1.out.trans (hb3.mono HB1.out.size))
 clear hb3
 go_wp2_with fail
 go_ret
 exact ⟨by rw [HV.out]; rfl, HB3.out⟩
def CellsOf (W : World) : List Ex → List Value → List Nat → Prop
 | [], vs, bs => vs = [] ∧ bs = []
 | e :: r, vs, bs => ∃ u b1 vs2 b2, vs = [.int .i64 e.kind, .string e.name, u] ++ vs2 ∧ bs = b1 ++ b2 ∧ ExIs W (.agg #[.int .i64 e.kind, .string e.name, u]) e b1 ∧ CellsOf W r vs2 b2
theorem CellsOf.keeps {W W2 : World} : ∀ {l : List Ex} {vs : List Value} {bs : List Nat}, CellsOf W l vs bs → Keeps W W2 bs → CellsOf W2 l vs bs := by
 intro l
 induction l with
 | nil => intro vs bs h _; exact h
 | cons e r ih =>
  intro vs bs h hk
  obtain ⟨u, b1, vs2, b2, e1, rfl, h1, h2⟩ := h
  exact ⟨u, b1, vs2, b2, e1, rfl, h1.keeps ⟨hk.1, fun x hx => hk.2 x (List.mem_append_left _ hx)⟩, ih h2 ⟨hk.1, fun x hx => hk.2 x (List.mem_append_right _ hx)⟩⟩
theorem CellsOf.snoc {W : World} {e : Ex} {u : Value} {b1 : List Nat} (h1 : ExIs W (.agg #[.int .i64 e.kind, .string e.name, u]) e b1) : ∀ {l : List Ex} {vs : List Value} {bs : List Nat}, CellsOf W l vs bs → CellsOf W (l ++ [e]) (vs ++ [.int .i64 e.kind, .string e.name, u]) (bs ++ b1) := by
 intro l
 induction l with
 | nil =>
  intro vs bs h
  obtain ⟨rfl, rfl⟩ := h
  exact ⟨u, b1, [], [], rfl, by simp, h1, rfl, rfl⟩
 | cons x r ih =>
  intro vs bs h
  obtain ⟨y, b3, vs2, b2, rfl, rfl, h3, h2⟩ := h
  exact ⟨y, b3, _, _, by rw [List.append_assoc], by rw [List.append_assoc], h3, ih h2⟩
theorem CellsOf.exs {W : World} {g o : Nat} : ∀ {l : List Ex} {vs : List Value} {bs : List Nat} (i : Nat), CellsOf W l vs bs → (∀ j u, vs[j]? = some u → W.cell? ⟨g, o + i * 3 + j, none⟩ = some u) → ExsAt W g o i l bs := by
 intro l
 induction l with
 | nil => intro vs bs i h _; rw [ExsAt]; exact h.2
 | cons e r ih =>
  intro vs bs i h hc
  obtain ⟨u, b1, vs2, b2, rfl, rfl, h1, h2⟩ := h
  rw [ExsAt]
  refine ⟨b1, b2, rfl, ExAt.mk (u := u) (hc 0 _ rfl) (hc 1 _ rfl) (hc 2 _ rfl) h1, ih (i + 1) h2 (fun j v hj => ?_)⟩
  have h3 := hc (j + 3) v (by rw [List.getElem?_append_right (by simp)]; simpa using hj)
  rw [show o + i * 3 + (j + 3) = o + (i + 1) * 3 + j by omega] at h3
  exact h3
structure Kids (base : Nat) (W : World) (v : Value) (l : List Ex) (bs : List Nat) : Prop where
 row : ∃ vs, W.ownsRow base 32 3 v l.length vs ∧ CellsOf W l vs bs
 mine : Mine W base bs
 apart : ∀ g, v.ownBlock = some g → g ∉ bs
theorem Kids.nilled (base : Nat) (W : World) : Kids base W (.slice none 0 0) [] [] := ⟨⟨[], World.ownsRow_nil _ _ _ _, rfl, rfl⟩, Mine.nil _ _, fun g h => by cases h⟩
theorem Kids.made (W : World) {base : Nat} (hb : base ≤ W.heap.size) : Kids base (W.alloc (.cells #[] 32)) (.slice (some ⟨W.heap.size, 0, none⟩) 0 0) [] [] :=
 ⟨⟨[], World.ownsRow_made W #[] 0 hb (Nat.zero_le _) rfl, rfl, rfl⟩, Mine.nil _ _, fun g _ h => by cases h⟩
theorem Kids.keep {base : Nat} {W W2 : World} {v : Value} {l : List Ex} {bs S : List Nat} (h : Kids base W v l bs) (hf : Fr S W W2) (hS : ∀ x ∈ S, x < base) : Kids base W2 v l bs := by
 obtain ⟨⟨vs, hr, hc⟩, hm, ha⟩ := h
 have hk : Keeps W W2 bs := ⟨hf.size, fun x hx hlt => hf.block x hlt (fun hs => by have := hS x hs; have := (hm.range x hx).1; omega)⟩
 exact ⟨⟨vs, row_on hr (fun k e => hf.block k (hr.lt k e).2 (fun hs => by have := hS k hs; have := (hr.lt k e).1; omega)), hc.keeps hk⟩, hm.keeps hk, ha⟩
theorem Kids.form {base : Nat} {W : World} {v : Value} {l : List Ex} {bs : List Nat} (h : Kids base W v l bs) : ∃ A c, v = .slice A l.length c ∧ l.length ≤ c ∧ c ≤ maxLen := by
 obtain ⟨⟨vs, hr, hc⟩, -, -⟩ := h
 rcases hr.2 with ⟨rfl, h0⟩ | ⟨g, cap, cur, rfl, -, -, h1, h2, -⟩
 · exact ⟨Option.none, 0, by rw [h0], by omega, by unfold maxLen; omega⟩
 exact ⟨_, cap, rfl, h1, h2⟩
theorem Kids.is {base : Nat} {W : World} {v : Value} {l : List Ex} {bs : List Nat} (h : Kids base W v l bs) : ∃ bs2, SlIs W v l bs2 ∧ Mine W base bs2 := by
 obtain ⟨⟨vs, hr, hc⟩, hm, ha⟩ := h
 rcases hr.2 with ⟨rfl, h0⟩ | ⟨g, cap, cur, rfl, hb, hg, h1, h2, -⟩
 · obtain rfl : l = [] := List.eq_nil_of_length_eq_zero h0
   obtain ⟨-, rfl⟩ := hc
   exact ⟨[], ⟨_, _, rfl, nR _, by omega, Or.inl ⟨rfl, rfl⟩⟩, Mine.nil _ _⟩
 have hlt : g < W.heap.size := (Array.getElem?_eq_some_iff.1 hg).1
 refine ⟨g :: bs, ⟨_, _, rfl, h1, by unfold maxLen at h2; omega, Or.inr ⟨g, 0, bs, rfl, hlt, rfl, hc.exs 0 (fun j u hj => ?_)⟩⟩, ?_⟩
 · have h3 := hr.cells (g := g) rfl j u hj
   rw [show (⟨g, 0, none⟩ : Addr).add j = ⟨g, 0 + 0 * 3 + j, none⟩ by unfold Addr.add; split <;> simp_all] at h3
   exact h3
 refine ⟨List.nodup_cons.2 ⟨ha g rfl, hm.nodup⟩, fun x hx => ?_, fun x hx o => ?_⟩
 · rcases List.mem_cons.1 hx with rfl | hx
   · exact ⟨hb, hlt⟩
   exact hm.range x hx
 rcases List.mem_cons.1 hx with rfl | hx
 · exact hr.frozenAt o
 exact hm.free x hx o
theorem Kids.push {base : Nat} {W W3 : World} {v : Value} {l : List Ex} {bs b1 : List Nat} {e : Ex} {u : Value} {vs : List Value} {o : Obj} {g cap C : Nat} (h : Kids base W v l bs) (hC : base ≤ C) (hC2 : ∀ x, x ∈ bs ∨ v.ownBlock = some x → x < C)
 (hvs : W.ownsRow base 32 3 v l.length vs ∧ CellsOf W l vs bs) (he : ExIs W (.agg #[.int .i64 e.kind, .string e.name, u]) e b1) (hm : Mine W C b1)
 (ho : W3.ownsRow base 32 3 (.slice (some ⟨g, 0, none⟩) (l.length + 1) cap) (l.length + 1) (vs ++ [.int .i64 e.kind, .string e.name, u])) (hg : (W.alloc o).grownBy W3 v.ownBlock) (hat : v.ownBlock = some g ∨ g = (W.alloc o).heap.size) :
 Kids base W3 (.slice (some ⟨g, 0, none⟩) (l.length + 1) cap) (l ++ [e]) (bs ++ b1) := by
 have hl : ∀ x ∈ bs ++ b1, x < W.heap.size ∧ v.ownBlock ≠ some x := fun x hx => by
  rcases List.mem_append.1 hx with hx | hx
  · exact ⟨(h.mine.range x hx).2, fun hh => h.apart x hh hx⟩
  exact ⟨(hm.range x hx).2, fun hh => by have := hC2 x (Or.inr hh); have := (hm.range x hx).1; omega⟩
 have hk : Keeps W W3 (bs ++ b1) := ⟨by have := hg.size; simp at this; omega, fun x hx hlt => (hg.block x (by simp; omega) (fun hh => (hl x hx).2 hh.symm)).trans (Below.heap_alloc W o x hlt)⟩
 refine ⟨⟨_, by rw [lA]; exact ho, (hvs.2.snoc he).keeps hk⟩, ?_, fun k hkk hx => ?_⟩
 · have hj : Mine W base (bs ++ b1) := by
    refine ⟨?_, fun x hx => ?_, fun x hx => ?_⟩
    · rw [List.nodup_append]
      exact ⟨h.mine.nodup, hm.nodup, fun a ha b hb e => by have := hC2 a (Or.inl ha); have := (hm.range b hb).1; omega⟩
    · rcases List.mem_append.1 hx with hx | hx
      · exact h.mine.range x hx
      exact ⟨nT hC (hm.range x hx).1, (hm.range x hx).2⟩
    rcases List.mem_append.1 hx with hx | hx
    · exact h.mine.free x hx
    exact hm.free x hx
   exact hj.keeps hk
 obtain rfl : k = g := by simpa [Value.ownBlock, eq_comm] using hkk
 rcases hat with hat | hat
 · exact (hl k hx).2 hat
 have := (hl k hx).1; simp at hat; omega
end Go.Proofs.YtiaknfnhmoinpaaGreat
