/- A part of the proof of the seat's statement: SpecPrText. Condition: as each says. -/
import Derived.Test.YtiaknfnhmoinpaaGreatRuRule
import Derived.Test.YtiaknfnhmoinpaaGreatParts
import Derived.Test.YtiaknfnhmoinpaaGreatSpecRuText
set_option maxHeartbeats 8000000
namespace Go.Proofs.YtiaknfnhmoinpaaGreat
open Go Go.RowKit
set_option maxRecDepth 100000 in
theorem validp_any (l : List Ru) (v : Value) (bs : List Nat) (w : World) (hv : PrIs w v l bs) (hn : rusTot l ≤ 1048576) :
 Calls Tryz.prog 7 #[v] w (RetPost (.bool (validR l)) w) := by
 have hll := rusTot_ge l
 have HRU := zH (fun (k : Nat) (r : Ru) (hk : l[k]? = some r) (W : World) (hW : Below w.heap.size w W) => rule_any l k r _ bs W (hv.below hW) hk hn)
 obtain ⟨u, rfl, hu⟩ := id hv
 obtain ⟨A, q, rfl, hc1, hc2, -⟩ := id hu
 obtain ⟨m, hm⟩ : ∃ m, m = l.length := ⟨_, rfl⟩
 rw [← hm] at hc1 HRU hll ⊢
 have HM := zH hm
 have HB0 := zH ((wB w.heap.size w).alloc (nR _) (.cells #[.slice A m q] 26))
 have HBX := zH (fun (W : World) (h : Below (w.alloc (.cells #[.slice A m q] 26)).heap.size (w.alloc (.cells #[.slice A m q] 26)) W) => pbox h)
 have HV := zH (show validR l = (rulesOk l 0 (l.drop 0) && decide (m ≤ 24)) by rw [hm]; rfl)
 clear hu hm hv hn
 generalize validR l = R at *
 go_enter Tryz.func7, Tryz.ntmps7
 go_wp2_with fail
 go_loopw [3] (fun i wr => ∃ (k : Nat), k ≤ m ∧ i = .int .i64 (k : Int) ∧ Hid (R = (rulesOk l k (l.drop k) && decide (m ≤ 24))) ∧ Hid (Below (w.alloc (.cells #[.slice A m q] 26)).heap.size (w.alloc (.cells #[.slice A m q] 26)) wr)) (fun i _ => m - (intOf i).toNat)
 case atStart => exact ⟨0, Nat.zero_le _, rfl, HV, zH (wB _ _)⟩
 case round =>
  obtain ⟨k, hk, rfl, HK, HB⟩ := hrel
  have x0 := HBX.out wr HB.out
  have HL := zH (HB0.out.trans (HB.out.mono HB0.out.size))
  by_cases hlt : k < m
  · obtain ⟨r, hr⟩ : ∃ r, l[k]? = some r := ⟨_, List.getElem?_eq_getElem (by rw [← HM.out]; exact hlt)⟩
    have HG := zH (rulesOk_here (l := l) (j := k) hr)
    have HCALL := zH (HRU.out k r hr wr HL.out)
    clear hr
    cases hx : ruleOk l k r
    · rw [hx] at HCALL
      have HE := zH (show R = false by rw [HK.out, HG.out, hx]; simp)
      clear hx
      go_wp2_with (go_at_call 28; refine HCALL.out.mono ?_; rintro r w1 ⟨rfl, hb1⟩; have HB1 := zH (HB.out.trans (hb1.mono HB.out.size)); clear hb1)
      go_ret
      exact ⟨by rw [HE.out]; rfl, HB0.out.trans (HB1.out.mono HB0.out.size)⟩
    rw [hx] at HCALL
    have HE := zH (show R = (rulesOk l (k + 1) (l.drop (k + 1)) && decide (m ≤ 24)) by rw [HK.out, HG.out, hx, Bool.true_and])
    clear hx
    go_wp2_with (go_at_call 28; refine HCALL.out.mono ?_; rintro r w1 ⟨rfl, hb1⟩; have HB1 := zH (HB.out.trans (hb1.mono HB.out.size)); clear hb1)
    go_roundw
    case rel => exact ⟨k + 1, by omega, by go_num, HE, HB1⟩
    case measure => simp [intOf]; omega
  have hE : R = decide (m ≤ 24) := by rw [HK.out, List.drop_eq_nil_of_le (by rw [← HM.out]; omega), rulesOk, Bool.true_and]
  by_cases h24 : m ≤ 24
  · have h24i : (m : Int) ≤ 24 := by omega
    have HE := zH (show R = true by rw [hE, decide_eq_true h24])
    clear hE h24
    go_wp2
    go_ret
    exact ⟨by rw [HE.out]; rfl, HL.out⟩
  have h24i : ¬ (m : Int) ≤ 24 := by omega
  have h24j : (24 : Int) < (m : Int) := by omega
  have HE := zH (show R = false by rw [hE, decide_eq_false h24])
  clear hE h24
  go_wp2
  go_ret
  exact ⟨by rw [HE.out]; rfl, HL.out⟩
theorem acc_size {l : List Ru} (k : Nat) (hz : rusTot l ≤ 1048576) (h24 : l.length ≤ 24) : (linesOf ⟨#[]⟩ (l.take k)).size ≤ 104857600 := by
 have h1 := linesOf_size (l.take k) ⟨#[]⟩ (fun r hr => by have := rusTot_mem (List.mem_of_mem_take hr); omega)
 have h2 : (l.take k).length ≤ 24 := by rw [List.length_take]; omega
 have h3 : (⟨#[]⟩ : ByteArray).size = 0 := rfl
 have h4 : (l.take k).length * 4194305 ≤ 24 * 4194305 := Nat.mul_le_mul_right _ h2
 omega
theorem app_assoc (a b c : ByteArray) : (a ++ b) ++ c = a ++ (b ++ c) := by
 apply ByteArray.ext
 simp [ByteArray.data_append]
set_option maxRecDepth 100000 in
theorem spec_prtext (l : List Ru) (v : Value) (bs : List Nat) (w : World) (hv : PrIs w v l bs) (hz : rusTot l ≤ 1048576) :
 Calls Tryz.prog 90 #[v] w (RetPost (.string (prStr l)) w) := by
 have hll := rusTot_ge l
 have HVAL := zH (fun (W : World) (hW : Below w.heap.size w W) => validp_any l v bs W (hv.below hW) hz)
 have HRU := zH (fun (r : Ru) (hm : r ∈ l) (v2 : Value) (b2 : List Nat) (W : World) (h2 : RuIs W v2 r b2) => spec_rutext r v2 b2 W h2 (by have := rusTot_mem hm; omega))
 have HPR := zH (show prStr l = if validR l then linesOf ⟨#[]⟩ l else ⟨#[]⟩ from rfl)
 have HVL := zH (fun (h : validR l = true) => validR_len h)
 have HRS := zH (fun (r : Ru) (hm : r ∈ l) => ruStr_size (r := r) (by have := rusTot_mem hm; omega))
 have HAC := zH (fun (k : Nat) (h24 : l.length ≤ 24) => acc_size (l := l) k hz h24)
 obtain ⟨u, rfl, hu⟩ := id hv
 obtain ⟨A, c, rfl, hc1, hc2, -⟩ := id hu
 obtain ⟨m, hm⟩ : ∃ m, m = l.length := ⟨_, rfl⟩
 have HU := zH hu
 rw [← hm] at hc1 HU hll HVAL HVL HAC ⊢
 have HM := zH hm
 have HB0 := zH ((wB w.heap.size w).alloc (nR _) (.cells #[.slice A m c] 26))
 have HBX := zH (fun (W : World) (h : Below (w.alloc (.cells #[.slice A m c] 26)).heap.size (w.alloc (.cells #[.slice A m c] 26)) W) => pbox h)
 have hmi : (m : Int) ≤ 1048576 := by omega
 clear hu hm hv hz hll
 generalize prStr l = R at *
 cases hva : validR l
 · rw [hva] at HPR HVAL
   have HE := zH (show R = ⟨#[]⟩ by rw [HPR.out]; rfl)
   clear hva
   go_enter Tryz.func90, Tryz.ntmps90
   go_wp2_with fail
   go_loopw [3, 4] (fun out i wr => out = .string ⟨#[]⟩ ∧ i = .int .i64 0 ∧ Hid (Below (w.alloc (.cells #[.slice A m c] 26)).heap.size (w.alloc (.cells #[.slice A m c] 26)) wr)) (fun _ _ _ => 0)
   case atStart => exact ⟨rfl, rfl, zH (wB _ _)⟩
   case round =>
    obtain ⟨rfl, rfl, HB⟩ := hrel
    have x0 := HBX.out wr HB.out
    have HL := zH (HB0.out.trans (HB.out.mono HB0.out.size))
    have HC := zH (HVAL.out wr HL.out)
    by_cases h0 : 0 < m
    · have h0i : (0 : Int) < (m : Int) := by omega
      clear h0
      go_wp2_with (go_at_call 7; refine HC.out.mono ?_; rintro e w1 ⟨rfl, hb1⟩; have HB1 := zH (HB.out.trans (hb1.mono HB.out.size)); clear hb1)
      go_ret
      exact ⟨by rw [HE.out]; rfl, HB0.out.trans (HB1.out.mono HB0.out.size)⟩
    have h0j : m = 0 := by omega
    subst h0j
    go_wp2
    go_ret
    exact ⟨by rw [HE.out]; rfl, HL.out⟩
 rw [hva] at HPR HVAL
 have h24 := HVL.out hva
 have HE := zH (show R = linesOf ⟨#[]⟩ l by rw [HPR.out]; rfl)
 clear hva
 go_enter Tryz.func90, Tryz.ntmps90
 go_wp2_with fail
 go_loopw [3, 4] (fun out i wr => ∃ (k : Nat), k ≤ m ∧ out = .string (linesOf ⟨#[]⟩ (l.take k)) ∧ i = .int .i64 (k : Int) ∧ Hid (Below (w.alloc (.cells #[.slice A m c] 26)).heap.size (w.alloc (.cells #[.slice A m c] 26)) wr)) (fun _ i _ => m - (intOf i).toNat)
 case atStart => exact ⟨0, Nat.zero_le _, rfl, rfl, zH (wB _ _)⟩
 case round =>
  obtain ⟨k, hk, rfl, rfl, HB⟩ := hrel
  have x0 := HBX.out wr HB.out
  have HL := zH (HB0.out.trans (HB.out.mono HB0.out.size))
  have HC := zH (HVAL.out wr HL.out)
  by_cases hlt : k < m
  · obtain ⟨g, o, r, v1, v2, y, b, hA⟩ := HU.out.get k (by rw [← HM.out]; exact hlt)
    obtain rfl := hA.eq
    have hgw := hA.lt
    obtain ⟨b1, b2, b3, -, -, -, h3, h4, h5⟩ := hA.is.parts
    obtain ⟨A1, c1, rfl⟩ := h3.slice
    obtain ⟨A2, c2, rfl⟩ := h4.slice
    obtain ⟨A3, q3, c3, rfl⟩ := his_slice0 h5
    have HCE := zH (fun (W : World) (hW : Below w.heap.size w W) => hA.cells.of (w' := W) (fun mm _ _ => hW.cell (p := ⟨g, mm, none⟩) hgw))
    have HRT := zH (fun (W : World) (hW : Below w.heap.size w W) => HRU.out r hA.mem _ b W (hA.is.below hW))
    have hs1 := HAC.out k h24
    have hs2 := HRS.out r hA.mem
    have htk := take_ru l k r hA.get
    obtain ⟨p1, hp1⟩ : ∃ x : ByteArray, x = linesOf ⟨#[]⟩ (l.take k) ++ ruStr r := ⟨_, rfl⟩
    have hp2 : linesOf ⟨#[]⟩ (l.take (k + 1)) = p1 ++ nlStr := by rw [htk, linesOf_snoc, hp1, app_assoc]
    have hq1 : p1.size = (linesOf ⟨#[]⟩ (l.take k)).size + (ruStr r).size := by rw [hp1]; exact ByteArray.size_append
    have hA1 : ∀ W, (Op.stringOp .add (linesOf ⟨#[]⟩ (l.take k)) (ruStr r)).run Tryz.prog W = .ok (.string p1) W := fun W => by
     rw [hp1]; exact run_string_add_sum W _ _ (by omega)
    have hA2 : ∀ W, (Op.stringOp .add p1 ⟨#[10]⟩).run Tryz.prog W = .ok (.string (linesOf ⟨#[]⟩ (l.take (k + 1)))) W := fun W => by
     rw [hp2]; exact run_string_add_sum W p1 ⟨#[10]⟩ (by show _ + 1 ≤ _; omega)
    have hk0 : (0 : Int) ≤ (k : Int) := by omega
    have hkn : (k : Int) < (m : Int) := by omega
    clear hA h3 h4 h5 hs1 hs2 htk hp1 hp2 hq1
    generalize linesOf ⟨#[]⟩ (l.take k) = acc at *
    generalize hac2 : linesOf ⟨#[]⟩ (l.take (k + 1)) = acc2 at *
    have HAC2 := zH hac2
    generalize ruStr r = rs at *
    clear hac2
    go_wp2_with (first
     | (go_at_call 7; refine HC.out.mono ?_; rintro e w1 ⟨rfl, hb1⟩; have HB1 := zH (HB.out.trans (hb1.mono HB.out.size)); clear hb1; have z0 := HBX.out w1 HB1.out; obtain ⟨e0, e1, e2, e3, e4, e5, e6⟩ := HCE.out w1 (HB0.out.trans (HB1.out.mono HB0.out.size)))
     | (go_at_call 102; refine (HRT.out w1 (HB0.out.trans (HB1.out.mono HB0.out.size))).mono ?_; rintro e w2 ⟨rfl, hb2⟩; have HB2 := zH (HB1.out.trans (hb2.mono HB1.out.size)); clear hb2))
    go_roundw
    case rel => exact ⟨k + 1, by omega, by rw [HAC2.out], by go_num, HB2⟩
    case measure => simp [intOf]; omega
  have hE2 : linesOf ⟨#[]⟩ (l.take k) = R := by rw [HE.out, List.take_of_length_le (by rw [← HM.out]; omega)]
  rw [hE2]
  clear hE2
  go_wp2
  go_ret
  exact ⟨rfl, HL.out⟩
end Go.Proofs.YtiaknfnhmoinpaaGreat
