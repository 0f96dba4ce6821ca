/- A part of the proof of the seat's statement: ValidEq. Condition: as each says. -/
import Derived.Test.YtiaknfnhmoinpaaGreatSpecSizes
import Derived.Test.YtiaknfnhmoinpaaGreatFrame
import Derived.Test.YtiaknfnhmoinpaaGreatKids
import Derived.Test.YtiaknfnhmoinpaaGreatDrawOnce
import Derived.Maps.AppendAt
import Derived.Test.YtiaknfnhmoinpaaGreatRuHead
import Derived.Test.YtiaknfnhmoinpaaGreatRuFits
set_option maxHeartbeats 8000000
namespace Go.Proofs.YtiaknfnhmoinpaaGreat
open Go Go.RowKit
def addName (out : List ByteArray) (s : ByteArray) : List ByteArray := if 0 ≤ idx out s then out else out ++ [s]
mutual
def exVars (out : List ByteArray) : Ex → List ByteArray
 | .mk k s l => exVarsL (if k = 1 then addName out s else out) l
def exVarsL (out : List ByteArray) : List Ex → List ByteArray
 | [] => out
 | e :: r => exVarsL (exVars out e) r
end
theorem addName_len (out : List ByteArray) (s : ByteArray) : (addName out s).length ≤ out.length + 1 := by
 unfold addName; split
 · omega
 simp
theorem vars_len (n : Nat) : (∀ (e : Ex) (out : List ByteArray), exSize e ≤ n → (exVars out e).length ≤ out.length + exSize e) ∧ (∀ (l : List Ex) (out : List ByteArray), exSizes l ≤ n → (exVarsL out l).length ≤ out.length + exSizes l) := by
 induction n with
 | zero =>
  refine ⟨fun e out h => by have := exSize_pos e; omega, fun l out h => ?_⟩
  cases l with
  | nil => simp [exVarsL]
  | cons e r => rw [exSizes] at h; have := exSize_pos e; omega
 | succ n ih =>
  have hE : ∀ (e : Ex) (out : List ByteArray), exSize e ≤ n + 1 → (exVars out e).length ≤ out.length + exSize e := by
   intro e out h
   cases e with
   | mk k s l =>
    rw [exSize] at h ⊢
    rw [exVars]
    have h1 := ih.2 l (if k = 1 then addName out s else out) (by omega)
    have h2 := addName_len out s
    split at h1 <;> rename_i hk <;> simp only [hk, if_true, if_false] at * <;> omega
  refine ⟨hE, ?_⟩
  intro l
  induction l with
  | nil => intro out _; simp [exVarsL]
  | cons e r ihl =>
   intro out h
   rw [exSizes] at h ⊢
   rw [exVarsL]
   have h1 := hE e out (by omega)
   have h2 := ihl (exVars out e) (by omega)
   omega
theorem vars_step (o : List ByteArray) (l : List Ex) (k : Nat) (e : Ex) (h : l[k]? = some e) : exVarsL o (l.drop k) = exVarsL (exVars o e) (l.drop (k + 1)) := by
 have hk : k < l.length := (List.getElem?_eq_some_iff.1 h).1
 rw [List.drop_eq_getElem_cons hk, (List.getElem?_eq_some_iff.1 h).2, exVarsL]
theorem ex_lt (n : Nat) : (∀ (e : Ex), exSize e ≤ n → ∀ (w : World) (g o : Nat) (bs : List Nat), ExAt w g o e bs → ∀ x ∈ bs, x < w.heap.size) ∧ (∀ (l : List Ex), exSizes l ≤ n → ∀ (w : World) (g o j : Nat) (bs : List Nat), ExsAt w g o j l bs → ∀ x ∈ bs, x < w.heap.size) := by
 induction n with
 | zero =>
  refine ⟨fun e h => by have := exSize_pos e; omega, fun l h => ?_⟩
  cases l with
  | nil => intro w g o j bs h1 x hx; rw [ExsAt] at h1; subst h1; cases hx
  | cons e r => rw [exSizes] at h; have := exSize_pos e; omega
 | succ n ih =>
  have hE : ∀ (e : Ex), exSize e ≤ n + 1 → ∀ (w : World) (g o : Nat) (bs : List Nat), ExAt w g o e bs → ∀ x ∈ bs, x < w.heap.size := by
   intro e he w g o bs h x hx
   cases e with
   | mk k s l =>
    rw [exSize] at he
    rw [ExAt] at h
    obtain ⟨-, -, -, A, c, -, -, -, h7⟩ := h
    rcases h7 with ⟨-, rfl⟩ | ⟨g', o', bs', rfl, hbl, rfl, h8⟩
    · cases hx
    rcases List.mem_cons.1 hx with rfl | hx
    · exact hbl
    exact ih.2 l (by omega) w g' o' 0 bs' h8 x hx
  refine ⟨hE, ?_⟩
  intro l
  induction l with
  | nil => intro _ w g o j bs h x hx; rw [ExsAt] at h; subst h; cases hx
  | cons e r ihl =>
   intro hl w g o j bs h x hx
   rw [exSizes] at hl
   have hp := exSize_pos e
   rw [ExsAt] at h
   obtain ⟨b1, b2, rfl, h1, h2⟩ := h
   rcases List.mem_append.1 hx with hx | hx
   · exact hE e (by omega) w g _ b1 h1 x hx
   exact ihl (by omega) w g o (j + 1) b2 h2 x hx
theorem SlIs.blocks {w : World} {v : Value} {l : List Ex} {bs : List Nat} (h : SlIs w v l bs) : ∀ x ∈ bs, x < w.heap.size := by
 obtain ⟨A, c, -, -, -, h3⟩ := h
 intro x hx
 rcases h3 with ⟨-, rfl⟩ | ⟨g, o, bs', rfl, hb, rfl, h4⟩
 · cases hx
 rcases List.mem_cons.1 hx with rfl | hx
 · exact hb
 exact (ex_lt _).2 l (nR _) w g o 0 bs' h4 x hx
structure VState (B : Nat) (w w' : World) (v v' : Value) (out : List ByteArray) : Prop where
 own : OwnsL B w' v' out
 grew : w.grownBy w' v.ownBlock
 lies : ∀ k, v'.ownBlock = some k → v.ownBlock = some k ∨ w.heap.size ≤ k
theorem VState.trans {B : Nat} {w w1 w2 : World} {v v1 v2 : Value} {o1 o2 : List ByteArray} (h : VState B w w1 v v1 o1) (k : VState B w1 w2 v1 v2 o2) : VState B w w2 v v2 o2 := by
 refine ⟨k.own, ⟨k.grew.os.trans h.grew.os, k.grew.tape.trans h.grew.tape, k.grew.output.trans h.grew.output, nT h.grew.size k.grew.size, fun i hi hne => ?_⟩, fun i hi => ?_⟩
 · refine (k.grew.block i (nL hi h.grew.size) (fun e => ?_)).trans (h.grew.block i hi hne)
   rcases h.lies i e.symm with h1 | h1
   · exact hne h1.symm
   omega
 rcases k.lies i hi with h1 | h1
 · exact h.lies i h1
 exact Or.inr (nT h.grew.size h1)
theorem VState.keeps {B : Nat} {w w' : World} {v v' : Value} {o : List ByteArray} {bs : List Nat} (h : VState B w w' v v' o) (hn : ∀ k, v.ownBlock = some k → k ∉ bs) : Keeps w w' bs :=
 ⟨h.grew.size, fun x hx hlt => h.grew.block x hlt (fun e => hn x e.symm hx)⟩
def VarsPost (B : Nat) (v : Value) (out : List ByteArray) (e : Ex) (w : World) (r : Ending) (w' : World) : Prop := ∃ v', r = .returned v' ∧ VState B w w' v v' (exVars out e)
theorem box_not {B : Nat} {w : World} {v : Value} {out : List ByteArray} (h : OwnsL B w v out) : v.ownBlock ≠ some w.heap.size := fun e => by
 have := (World.ownsRow.lt h _ e).2
 omega
theorem vars_app {B : Nat} {w w1 : World} {v v1 : Value} {out : List ByteArray} {S : ByteArray} {o : Obj} (h : VState B w (w.alloc o) v v out)
 (ho : ((w.alloc o).alloc (.cells #[.string S] 9)).ownsRow B 9 1 v out.length (out.map Value.string)) (ho1 : w1.ownsRow B 9 1 v1 (out.length + 1) (out.map Value.string ++ [Value.string S])) (hg1 : ((w.alloc o).alloc (.cells #[.string S] 9)).grownBy w1 v.ownBlock)
 (hat : v1.ownBlock = v.ownBlock ∨ v1.ownBlock = some ((w.alloc o).alloc (.cells #[.string S] 9)).heap.size) : VState B w w1 v v1 (out ++ [S]) := by
 refine h.trans (VState.trans (v1 := v) (o1 := out) ⟨ho, World.grownBy_alloc _ _ _, fun k hk => Or.inl hk⟩ ⟨OwnsL.next ho1, hg1, fun k hk => ?_⟩)
 rcases hat with e | e
 · exact Or.inl (e ▸ hk)
 rw [e] at hk
 cases hk
 exact Or.inr (nR _)
theorem vars_new {w : World} {v v1 : Value} {S : ByteArray} {o : Obj} (hn : v.ownBlock ≠ some w.heap.size) (hat : v1.ownBlock = v.ownBlock ∨ v1.ownBlock = some ((w.alloc o).alloc (.cells #[.string S] 9)).heap.size) : v1.ownBlock ≠ some w.heap.size := by
 rcases hat with e | e
 · rw [e]; exact hn
 rw [e]; simp; omega
theorem l3vars_any (n : Nat) : ∀ (e : Ex) (ve v : Value) (bs : List Nat) (out : List ByteArray) (B : Nat) (w : World), exSize e ≤ n → ExIs w ve e bs → OwnsL B w v out → B ≤ w.heap.size → (∀ k, v.ownBlock = some k → k ∉ bs) → out.length + exSize e ≤ 1099511627776 →
 Calls Tryz.prog 79 #[ve, v] w (VarsPost B v out e w) := by
 induction n with
 | zero => intro e ve v bs out B w h; have := exSize_pos e; omega
 | succ n ih =>
  intro e ve v bs out B w hle hv ho hB hno hlen
  obtain ⟨i0, hi, hz0, hz1, hz2⟩ := info_parts Tryz.info9u
  have HI := zH (aI hi (aI hz0 (aI hz1 hz2)))
  clear hi hz0 hz1 hz2
  obtain ⟨u, rfl, hsz, hu⟩ := hv
  obtain ⟨A, c, rfl, hc1, hc2, -⟩ := id hu
  have HU := zH hu
  have HBL := zH hu.blocks
  have HO := zH ho
  have HNO := zH hno
  have HBN := zH (box_not ho)
  obtain ⟨A2, c2, rfl, hso⟩ := ho.shape
  obtain ⟨K, hK⟩ : ∃ K, K = e.kind := ⟨_, rfl⟩
  obtain ⟨S, hS⟩ : ∃ S, S = e.name := ⟨_, rfl⟩
  obtain ⟨L, hL⟩ : ∃ L, L = e.args := ⟨_, rfl⟩
  obtain ⟨m, hm⟩ : ∃ m, m = L.length := ⟨_, rfl⟩
  have HE := zH (show exSize e = exSizes L + 1 by rw [hL]; cases e; rfl)
  have HF := zH (show exVars out e = exVarsL (if K = 1 then addName out S else out) L by rw [hL, hK, hS]; cases e; rfl)
  rw [← hK, ← hS, ← hL, ← hm]
  rw [← hS] at hsz
  rw [← hL, ← hm] at hc1 HU
  have HM := zH hm
  have HN := zH hle
  have HLEN := zH hlen
  have HIH := zH ih
  clear hu hK hS hL hm hle ih ho hno hlen
  have hc3 : (m : Int) ≤ 9223372036854775807 := by omega
  have hge := idx_ge out S
  have HJ := zH (fun (W : World) (hb : Below w.heap.size w W) => idx_any A2 out c2 S W (hso.below hb) (by have := HLEN.out; omega))
  have HB0 := zH ((wB w.heap.size w).alloc (nR _) (.cells #[.int .i64 K, .string S, .slice A m c] 32))
  have HBX := zH (heap_alloc_new w (.cells #[.int .i64 K, .string S, .slice A m c] 32))
  have HS0 := zH (show VState B w (w.alloc (.cells #[.int .i64 K, .string S, .slice A m c] 32)) (.slice A2 out.length c2) (.slice A2 out.length c2) out from ⟨World.ownsRow.alloc HO.out _, World.grownBy_alloc w _ _, fun k hk => Or.inl hk⟩)
  clear hso
  by_cases h1 : K = 1
  · by_cases hr : 0 ≤ idx out S
    · have HF1 := zH (show (if K = 1 then addName out S else out) = out by rw [if_pos h1]; unfold addName; rw [if_pos hr])
      have HV1 := zH (show exVars out e = exVarsL out (L.drop 0) by rw [HF.out, HF1.out, List.drop_zero])
      have HL1 := zH (show out.length ≤ out.length + 1 + exSizes (L.take 0) by omega)
      have HS1 := HS0
      have HN1 := HBN
      have HX1 := HBX
      have hk1 : (K == 1) = true := by simpa using h1
      subst h1
      generalize idx out S = r at *
      go_enter Tryz.func79, Tryz.ntmps79
      go_wp2_with (go_at_call 78; refine (HJ.out _ HB0.out).mono ?_; rintro r w' ⟨rfl, rfl⟩)
      go_loopw [1, 5] (fun vv i wr => ∃ (k : Nat) (o : List ByteArray), k ≤ m ∧ i = .int .i64 (k : Int) ∧ Hid (VState B w wr (.slice A2 out.length c2) vv o) ∧ Hid (exVars out e = exVarsL o (L.drop k)) ∧ Hid (o.length ≤ out.length + 1 + exSizes (L.take k)) ∧ Hid (vv.ownBlock ≠ some w.heap.size) ∧ wr.heap[w.heap.size]? = some (.cells #[.int .i64 1, .string S, .slice A m c] 32 (0, 0))) (fun _ i _ => m - (intOf i).toNat)
      case atStart => exact ⟨0, _, Nat.zero_le _, rfl, HS1, HV1, HL1, HN1, HX1.out⟩
      case round =>
       clear HS1 HV1 HL1 HN1 HX1
       obtain ⟨k, o, hk, rfl, HS, HV, HL, HNE, hbox⟩ := hrel
       have hd2 : wr.cell? ⟨w.heap.size, 2, none⟩ = some (.slice A m c) := by simp [World.cell?, hbox]
       have hgo := HS.out.grew.size
       have hboxlt : w.heap.size < wr.heap.size := (Array.getElem?_eq_some_iff.1 hbox).1
       have HBOX := zH hbox
       clear hbox
       by_cases hlt : k < m
       · obtain ⟨g, q, e1, u, b1, rfl, hbl, hget, hmem, d1, d3, d4, his, hsub⟩ := (HU.out.keeps (HS.out.keeps HNO.out)).get k (by rw [← HM.out]; exact hlt)
         have HST := zH (vars_step o L k e1 hget)
         have HSN := zH (sizes_snoc L k e1 hget)
         have HTK := zH (sizes_take L (k + 1))
         have HVL := zH ((vars_len (exSize e1)).1 e1 o (nR _))
         obtain ⟨A3, c3, rfl, -⟩ := HS.out.own.shape
         have HCALL := zH (HIH.out e1 _ _ b1 o B wr (by have := HE.out; have := exSizes_mem hmem; have := HN.out; omega) his HS.out.own (nT hB hgo) (fun x hx hm2 => by
          have h1 := hsub x hm2
          rcases HS.out.lies x hx with h2 | h2
          · exact HNO.out x h2 h1
          have := HBL.out x h1; omega) (by have := HL.out; have := HSN.out; have := HTK.out; have := HE.out; have := HLEN.out; omega))
         clear his hget hmem hsub
         go_wp2_with (go_at_call 79; refine HCALL.out.mono ?_; rintro r w2 ⟨v2, rfl, hst2⟩; have HST2 := zH hst2; clear hst2)
         go_roundw
         case rel =>
          refine ⟨k + 1, exVars o e1, by omega, by go_num, zH (HS.out.trans HST2.out), zH (HV.out.trans HST.out), zH (by have := HL.out; have := HSN.out; have := HVL.out; omega), zH (fun h => ?_), (HST2.out.grew.block _ hboxlt (fun h => HNE.out h.symm)).trans HBOX.out⟩
          rcases HST2.out.lies _ h with h1 | h1
          · exact HNE.out h1
          omega
         case measure => simp [intOf]; omega
       have HE2 := zH (show exVars out e = o by
        rw [HV.out, List.drop_eq_nil_of_le (by rw [← HM.out]; omega), exVarsL])
       go_wp2_with fail
       go_ret
       exact ⟨_, rfl, by rw [HE2.out]; exact HS.out⟩
    have HF1 := zH (show (if K = 1 then addName out S else out) = out ++ [S] by rw [if_pos h1]; unfold addName; rw [if_neg hr])
    have C1 := zH (show out.length + 1 ≤ maxLen by have := HLEN.out; unfold maxLen; omega)
    have C2 := zH (show (out.length + 1) * 16 ≤ 140737488355328 by have := HLEN.out; omega)
    have HV1 := zH (show exVars out e = exVarsL (out ++ [S]) (L.drop 0) by rw [HF.out, HF1.out, List.drop_zero])
    have HL1 := zH (show (out ++ [S]).length ≤ out.length + 1 + exSizes (L.take 0) by rw [lA]; simp)
    have H1C := zH (one_new (x := S))
    subst h1
    generalize idx out S = r at *
    go_enter Tryz.func79, Tryz.ntmps79
    have C4 := zH (show B ≤ ((w.alloc (.cells #[.int .i64 1, .string S, .slice A m c] 32)).alloc (.cells #[.string S] 9)).heap.size by simp; omega)
    have HO2 := zH (World.ownsRow.alloc HS0.out.own (.cells #[.string S] 9))
    have hnw := cell_new (W := w.alloc (.cells #[.int .i64 1, .string S, .slice A m c] 32)) (x := S)
    rw [show (w.alloc (.cells #[.int .i64 1, .string S, .slice A m c] 32)).heap.size = w.heap.size + 1 by simp] at hnw
    have HNW := zH hnw
    clear hnw
    go_wp2_with (first
     | (go_at_call 78; refine (HJ.out _ HB0.out).mono ?_; rintro r w' ⟨rfl, rfl⟩)
     | (at_builtin; (refine wpList_append_own_at _ rfl (.tmp 16) (.tmp 19) 29 rfl B 9 i0 (.string ⟨#[]⟩) 1 16 Tryz.underlying29 HI.out.1 HI.out.2.1 HI.out.2.2.1 HI.out.2.2.2 rfl (by decide) (.slice A2 out.length c2) _ _ rfl HO2.out ⟨w.heap.size + 1, 0, none⟩ 1 1 [.string S] rfl rfl HNW.out H1C.out C1.out C2.out C4.out ?_); intro v1 w1 ho1 hg1 _ hat1; have HA1 := zH (aI ho1 (aI hg1 hat1)); clear ho1 hg1 hat1))
    have HS1 := zH (vars_app HS0.out HO2.out HA1.out.1 HA1.out.2.1 HA1.out.2.2)
    have HN1 := zH (vars_new (w := w) (o := .cells #[.int .i64 1, .string S, .slice A m c] 32) HBN.out HA1.out.2.2)
    have HX1 := zH ((HA1.out.2.1.block w.heap.size (by simp; omega) (fun h => HBN.out h.symm)).trans ((Below.heap_alloc _ _ _ (by simp)).trans HBX.out))
    go_loopw [1, 5] (fun vv i wr => ∃ (k : Nat) (o : List ByteArray), k ≤ m ∧ i = .int .i64 (k : Int) ∧ Hid (VState B w wr (.slice A2 out.length c2) vv o) ∧ Hid (exVars out e = exVarsL o (L.drop k)) ∧ Hid (o.length ≤ out.length + 1 + exSizes (L.take k)) ∧ Hid (vv.ownBlock ≠ some w.heap.size) ∧ wr.heap[w.heap.size]? = some (.cells #[.int .i64 1, .string S, .slice A m c] 32 (0, 0))) (fun _ i _ => m - (intOf i).toNat)
    case atStart => exact ⟨0, _, Nat.zero_le _, rfl, HS1, HV1, HL1, HN1, HX1.out⟩
    case round =>
     clear HS1 HV1 HL1 HN1 HX1
     obtain ⟨k, o, hk, rfl, HS, HV, HL, HNE, hbox⟩ := hrel
     have hd2 : wr.cell? ⟨w.heap.size, 2, none⟩ = some (.slice A m c) := by simp [World.cell?, hbox]
     have hgo := HS.out.grew.size
     have hboxlt : w.heap.size < wr.heap.size := (Array.getElem?_eq_some_iff.1 hbox).1
     have HBOX := zH hbox
     clear hbox
     by_cases hlt : k < m
     · obtain ⟨g, q, e1, u, b1, rfl, hbl, hget, hmem, d1, d3, d4, his, hsub⟩ := (HU.out.keeps (HS.out.keeps HNO.out)).get k (by rw [← HM.out]; exact hlt)
       have HST := zH (vars_step o L k e1 hget)
       have HSN := zH (sizes_snoc L k e1 hget)
       have HTK := zH (sizes_take L (k + 1))
       have HVL := zH ((vars_len (exSize e1)).1 e1 o (nR _))
       obtain ⟨A3, c3, rfl, -⟩ := HS.out.own.shape
       have HCALL := zH (HIH.out e1 _ _ b1 o B wr (by have := HE.out; have := exSizes_mem hmem; have := HN.out; omega) his HS.out.own (nT hB hgo) (fun x hx hm2 => by
        have h1 := hsub x hm2
        rcases HS.out.lies x hx with h2 | h2
        · exact HNO.out x h2 h1
        have := HBL.out x h1; omega) (by have := HL.out; have := HSN.out; have := HTK.out; have := HE.out; have := HLEN.out; omega))
       clear his hget hmem hsub
       go_wp2_with (go_at_call 79; refine HCALL.out.mono ?_; rintro r w2 ⟨v2, rfl, hst2⟩; have HST2 := zH hst2; clear hst2)
       go_roundw
       case rel =>
        refine ⟨k + 1, exVars o e1, by omega, by go_num, zH (HS.out.trans HST2.out), zH (HV.out.trans HST.out), zH (by have := HL.out; have := HSN.out; have := HVL.out; omega), zH (fun h => ?_), (HST2.out.grew.block _ hboxlt (fun h => HNE.out h.symm)).trans HBOX.out⟩
        rcases HST2.out.lies _ h with h1 | h1
        · exact HNE.out h1
        omega
       case measure => simp [intOf]; omega
     have HE2 := zH (show exVars out e = o by
      rw [HV.out, List.drop_eq_nil_of_le (by rw [← HM.out]; omega), exVarsL])
     go_wp2_with fail
     go_ret
     exact ⟨_, rfl, by rw [HE2.out]; exact HS.out⟩
  have HF1 := zH (show (if K = 1 then addName out S else out) = out by rw [if_neg h1])
  have HV1 := zH (show exVars out e = exVarsL out (L.drop 0) by rw [HF.out, HF1.out, List.drop_zero])
  have HL1 := zH (show out.length ≤ out.length + 1 + exSizes (L.take 0) by omega)
  have HS1 := HS0
  have HN1 := HBN
  have HX1 := HBX
  have hk1 : (K == 1) = false := by simpa using h1
  clear h1
  go_enter Tryz.func79, Tryz.ntmps79
  go_wp2_with fail
  go_loopw [1, 5] (fun vv i wr => ∃ (k : Nat) (o : List ByteArray), k ≤ m ∧ i = .int .i64 (k : Int) ∧ Hid (VState B w wr (.slice A2 out.length c2) vv o) ∧ Hid (exVars out e = exVarsL o (L.drop k)) ∧ Hid (o.length ≤ out.length + 1 + exSizes (L.take k)) ∧ Hid (vv.ownBlock ≠ some w.heap.size) ∧ wr.heap[w.heap.size]? = some (.cells #[.int .i64 K, .string S, .slice A m c] 32 (0, 0))) (fun _ i _ => m - (intOf i).toNat)
  case atStart => exact ⟨0, _, Nat.zero_le _, rfl, HS1, HV1, HL1, HN1, HX1.out⟩
  case round =>
   clear HS1 HV1 HL1 HN1 HX1
   obtain ⟨k, o, hk, rfl, HS, HV, HL, HNE, hbox⟩ := hrel
   have hd2 : wr.cell? ⟨w.heap.size, 2, none⟩ = some (.slice A m c) := by simp [World.cell?, hbox]
   have hgo := HS.out.grew.size
   have hboxlt : w.heap.size < wr.heap.size := (Array.getElem?_eq_some_iff.1 hbox).1
   have HBOX := zH hbox
   clear hbox
   by_cases hlt : k < m
   · obtain ⟨g, q, e1, u, b1, rfl, hbl, hget, hmem, d1, d3, d4, his, hsub⟩ := (HU.out.keeps (HS.out.keeps HNO.out)).get k (by rw [← HM.out]; exact hlt)
     have HST := zH (vars_step o L k e1 hget)
     have HSN := zH (sizes_snoc L k e1 hget)
     have HTK := zH (sizes_take L (k + 1))
     have HVL := zH ((vars_len (exSize e1)).1 e1 o (nR _))
     obtain ⟨A3, c3, rfl, -⟩ := HS.out.own.shape
     have HCALL := zH (HIH.out e1 _ _ b1 o B wr (by have := HE.out; have := exSizes_mem hmem; have := HN.out; omega) his HS.out.own (nT hB hgo) (fun x hx hm2 => by
      have h1 := hsub x hm2
      rcases HS.out.lies x hx with h2 | h2
      · exact HNO.out x h2 h1
      have := HBL.out x h1; omega) (by have := HL.out; have := HSN.out; have := HTK.out; have := HE.out; have := HLEN.out; omega))
     clear his hget hmem hsub
     go_wp2_with (go_at_call 79; refine HCALL.out.mono ?_; rintro r w2 ⟨v2, rfl, hst2⟩; have HST2 := zH hst2; clear hst2)
     go_roundw
     case rel =>
      refine ⟨k + 1, exVars o e1, by omega, by go_num, zH (HS.out.trans HST2.out), zH (HV.out.trans HST.out), zH (by have := HL.out; have := HSN.out; have := HVL.out; omega), zH (fun h => ?_), (HST2.out.grew.block _ hboxlt (fun h => HNE.out h.symm)).trans HBOX.out⟩
      rcases HST2.out.lies _ h with h1 | h1
      · exact HNE.out h1
      omega
     case measure => simp [intOf]; omega
   have HE2 := zH (show exVars out e = o by
    rw [HV.out, List.drop_eq_nil_of_le (by rw [← HM.out]; omega), exVarsL])
   go_wp2_with fail
   go_ret
   exact ⟨_, rfl, by rw [HE2.out]; exact HS.out⟩
def NamesPost (xs : List ByteArray) (w : World) (e : Ending) (w' : World) : Prop := ∃ v, e = .returned v ∧ OwnsL w.heap.size w' v xs ∧ Below w.heap.size w w'
theorem vars_any (e : Ex) (v : Value) (bs : List Nat) (w : World) (hv : ExIs w v e bs) (hb : exSize e ≤ 1099511627776) :
 Calls Tryz.prog 55 #[v] w (NamesPost (exVars [] e) w) := by
 have HV := zH hv
 have HBL := zH (show ∀ x ∈ bs, x < w.heap.size by obtain ⟨u, -, -, hu⟩ := hv; exact hu.blocks)
 have HSZ := zH hb
 obtain ⟨u, rfl, -, hu⟩ := hv
 obtain ⟨A, c, rfl, -⟩ := id hu
 clear hu hb
 go_enter Tryz.func55, Tryz.ntmps55
 have HB0 := zH (((wB w.heap.size w).alloc (nR _) (.cells #[.int .i64 e.kind, .string e.name, .slice A e.args.length c] 32)).alloc (by simp) (.cells #[] 9))
 have ho := World.ownsRow_made (base := w.heap.size) (e := 9) (size := 1) (w.alloc (.cells #[.int .i64 e.kind, .string e.name, .slice A e.args.length c] 32)) #[] 0 (by simp) (Nat.zero_le _) rfl
 rw [show (w.alloc (.cells #[.int .i64 e.kind, .string e.name, .slice A e.args.length c] 32)).heap.size = w.heap.size + 1 by simp] at ho
 have HO := zH (show OwnsL w.heap.size _ (.slice (some ⟨w.heap.size + 1, 0, none⟩) 0 0) [] from ho)
 clear ho
 go_wp2_with fail
 go_at_call 79
 refine (l3vars_any (exSize e) e _ _ bs [] w.heap.size _ (nR _) (HV.out.below HB0.out) HO.out (by simp; omega) (fun k hk hm => by
  have h1 := HBL.out k hm
  simp [Value.ownBlock] at hk
  omega) (by have := HSZ.out; simp; omega)).mono ?_
 rintro r w1 ⟨v1, rfl, hs1⟩
 have HS1 := zH hs1
 clear hs1
 go_wp2_with fail
 go_ret
 exact ⟨_, rfl, HS1.out.own, HB0.out.grown HS1.out.grew (by simp; omega) (fun k hk => by simp [Value.ownBlock] at hk; omega)⟩
def sameAs (l : List Ru) (r : Ru) : Bool := match l.find? (named r.name) with
 | none => false
 | some f => (decide (f.con.size = 0) == decide (r.con.size = 0)) && (decide (f.params.length = r.params.length) && (decide (r.con.size = 0) || decide (conR r.con l = (r.vars.length : Int))))
def ruleOk (l : List Ru) (k : Nat) (r : Ru) : Bool := headOk r && (exFor l r.body && (within (exVars [] r.body) (r.vars ++ r.params) && (decide (findR l r.name r.con = (k : Int)) && sameAs l r)))
def rulesOk (l : List Ru) : Nat → List Ru → Bool
 | _, [] => true
 | k, r :: t => ruleOk l k r && rulesOk l (k + 1) t
def validR (l : List Ru) : Bool := rulesOk l 0 l && decide (l.length ≤ 24)
theorem rulesOk_here {l t : List Ru} {k j : Nat} {r : Ru} (h : t[k]? = some r) : rulesOk l j (t.drop k) = (ruleOk l j r && rulesOk l (j + 1) (t.drop (k + 1))) := by
 obtain ⟨h1, h2⟩ := List.getElem?_eq_some_iff.1 h
 rw [List.drop_eq_getElem_cons h1, h2, rulesOk]
theorem rulesOk_iff (l : List Ru) : ∀ (t : List Ru) (k : Nat), rulesOk l k t = true ↔ ∀ (j : Nat) (r : Ru), t[j]? = some r → ruleOk l (k + j) r = true := by
 intro t
 induction t with
 | nil => intro k; simp [rulesOk]
 | cons x t ih =>
  intro k
  rw [rulesOk, Bool.and_eq_true, ih]
  constructor
  · rintro ⟨h1, h2⟩ j r hj
    cases j with
    | zero => simp at hj; subst hj; exact h1
    | succ j => have := h2 j r (by simpa using hj); rw [show k + (j + 1) = k + 1 + j by omega]; exact this
  intro h
  exact ⟨h 0 x rfl, fun j r hj => by rw [show k + 1 + j = k + (j + 1) by omega]; exact h (j + 1) r (by simpa using hj)⟩
def rightArgs (r : Ru) : Bool := (isCn r.con || (decide (r.con.size = 0) && decide (r.vars.length = 0))) && (decide (r.vars.length ≤ 5) && (decide (r.params.length ≤ 4) && (allNm (r.vars ++ r.params) && distinct (r.vars ++ r.params))))
def rightParts (r : Ru) : Bool := isNm r.name && (rightArgs r && exValid r.body)
def aloneOk (r : Ru) : Bool := rightParts r && within (exVars [] r.body) (r.vars ++ r.params)
def metOk (l : List Ru) (r : Ru) : Bool := sameAs l r && fitE l r.body r.body
def keyR (r : Ru) : ByteArray × ByteArray := (r.name, r.con)
theorem isCn_empty {s : ByteArray} (h : s.size = 0) : isCn s = false := by
 have : s.data.toList = [] := by
  apply List.eq_nil_of_length_eq_zero
  rw [Array.length_toList]; exact h
 unfold isCn
 rw [this]; rfl
theorem args_head (r : Ru) : (isNm r.name && rightArgs r) = headOk r := by
 unfold rightArgs headOk
 by_cases h : r.con.size = 0
 · rw [if_pos h, isCn_empty h, decide_eq_true h]
   generalize isNm r.name = a
   generalize distinct (r.vars ++ r.params) = b
   generalize allNm (r.vars ++ r.params) = c
   generalize decide (r.vars.length ≤ 5) = d
   generalize decide (r.params.length ≤ 4) = e
   generalize decide (r.vars.length = 0) = f
   cases a <;> cases b <;> cases c <;> cases d <;> cases e <;> cases f <;> rfl
 rw [if_neg h, decide_eq_false h]
 generalize isNm r.name = a
 generalize distinct (r.vars ++ r.params) = b
 generalize allNm (r.vars ++ r.params) = c
 generalize decide (r.vars.length ≤ 5) = d
 generalize decide (r.params.length ≤ 4) = e
 generalize isCn r.con = f
 cases a <;> cases b <;> cases c <;> cases d <;> cases e <;> cases f <;> simp
theorem parts_head (r : Ru) : rightParts r = (headOk r && exValid r.body) := by
 unfold rightParts; rw [← args_head, Bool.and_assoc]
theorem find_key (l : List Ru) {j : Nat} {r : Ru} (h : l[j]? = some r) : ∃ (i : Nat) (r2 : Ru), findR l r.name r.con = (i : Int) ∧ l[i]? = some r2 ∧ keyR r2 = keyR r := by
 rcases ruIdx_spec (namedC r.name r.con) l 0 with ⟨-, h2⟩ | ⟨i, r2, h1, h2, -, h4⟩
 · rw [List.find?_eq_none] at h2
   exact absurd (by simp [namedC]) (h2 r (List.mem_of_getElem? h))
 refine ⟨i, r2, by unfold findR; rw [h1]; simp, h2, ?_⟩
 simp [namedC] at h4
 simp [keyR, h4]
theorem keys_iff (l : List Ru) : (∀ (j : Nat) (r : Ru), l[j]? = some r → findR l r.name r.con = (j : Int)) ↔ (l.map keyR).Nodup := by
 show _ ↔ (l.map keyR).Pairwise (· ≠ ·)
 rw [List.pairwise_iff_getElem]
 constructor
 · intro h i j hi hj hij e
   rw [List.length_map] at hi hj
   rw [List.getElem_map, List.getElem_map] at e
   simp only [keyR, Prod.mk.injEq] at e
   have h1 := h i _ (List.getElem?_eq_getElem hi)
   have h2 := h j _ (List.getElem?_eq_getElem hj)
   rw [e.1, e.2, h2] at h1
   omega
 intro h j r hj
 obtain ⟨i, r2, h1, h2, h3⟩ := find_key l hj
 obtain ⟨hi, ei⟩ := List.getElem?_eq_some_iff.1 h2
 obtain ⟨hj1, ej⟩ := List.getElem?_eq_some_iff.1 hj
 rcases Nat.lt_trichotomy i j with hlt | rfl | hlt
 · exact absurd (by rw [List.getElem_map, List.getElem_map, ei, ej, h3]) (h i j (by simpa using hi) (by simpa using hj1) hlt)
 · exact h1
 exact absurd (by rw [List.getElem_map, List.getElem_map, ei, ej, h3]) (h j i (by simpa using hj1) (by simpa using hi) hlt)
def validO (l : List Ru) : Bool := decide (l.length ≤ 24) && (l.all aloneOk && (decide ((l.map keyR).Nodup) && l.all (metOk l)))
theorem valid_eq (l : List Ru) : validR l = validO l := by
 rw [Bool.eq_iff_iff]
 unfold validR validO
 simp only [Bool.and_eq_true, decide_eq_true_eq, List.all_eq_true, rulesOk_iff, Nat.zero_add, ← keys_iff]
 have hal : ∀ r, aloneOk r = (headOk r && (exValid r.body && within (exVars [] r.body) (r.vars ++ r.params))) := fun r => by unfold aloneOk; rw [parts_head, Bool.and_assoc]
 constructor
 · rintro ⟨h1, h2⟩
   have h3 : ∀ (j : Nat) (r : Ru), l[j]? = some r → aloneOk r = true ∧ findR l r.name r.con = (j : Int) ∧ metOk l r = true := by
    intro j r hj
    have h4 := h1 j r hj
    unfold ruleOk exFor at h4
    simp only [Bool.and_eq_true, decide_eq_true_eq] at h4
    obtain ⟨a, ⟨b, c⟩, d, e, f⟩ := h4
    refine ⟨by rw [hal, a, b, d]; rfl, e, by unfold metOk; rw [f, c]; rfl⟩
   refine ⟨h2, fun r hr => ?_, fun j r hj => (h3 j r hj).2.1, fun r hr => ?_⟩
   · obtain ⟨j, hj⟩ := List.getElem?_of_mem hr
     exact (h3 j r hj).1
   obtain ⟨j, hj⟩ := List.getElem?_of_mem hr
   exact (h3 j r hj).2.2
 rintro ⟨h2, h3, h4, h5⟩
 refine ⟨fun j r hj => ?_, h2⟩
 have hm := List.mem_of_getElem? hj
 have a := h3 r hm
 have b := h5 r hm
 rw [hal] at a
 unfold metOk at b
 simp only [Bool.and_eq_true] at a b
 unfold ruleOk exFor
 rw [a.1, a.2.1, a.2.2, b.1, b.2, h4 j r hj]
 simp
end Go.Proofs.YtiaknfnhmoinpaaGreat
