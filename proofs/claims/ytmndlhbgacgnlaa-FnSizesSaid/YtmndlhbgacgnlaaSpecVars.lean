/- The contract of the model's VarsOf. Condition: fewer than 2^40 nodes. -/
import Derived.Test.YtmndlhbgacgnlaaSpecSizes
import Derived.Test.YtmndlhbgacgnlaaSpecNames
import Derived.Test.YtmndlhbgacgnlaaOwnsL
import Derived.Test.YtmndlhbgacgnlaaExSz
import Derived.Maps.AppendAt
namespace Go.Proofs.Ytmndlhbgacgnlaa
open Go Go.RowKit

def addName (out : List ByteArray) (s : ByteArray) : List ByteArray := if 0 ≤ idx out s then out else out ++ [s]
mutual
def exVars (out : List ByteArray) : Ex → List ByteArray
  | .mk k s l => exVarsL (if k = 1 then addName out s else out) l
def exVarsL (out : List ByteArray) : List Ex → List ByteArray
  | [] => out
  | e :: r => exVarsL (exVars out e) r
end
theorem addName_len (out : List ByteArray) (s : ByteArray) : (addName out s).length ≤ out.length + 1 := by
  unfold addName; split
  · omega
  · simp
theorem vars_len (n : Nat) : (∀ (e : Ex) (out : List ByteArray), exSize e ≤ n → (exVars out e).length ≤ out.length + exSize e) ∧ (∀ (l : List Ex) (out : List ByteArray), exSizes l ≤ n → (exVarsL out l).length ≤ out.length + exSizes l) := by
  induction n with
  | zero =>
    refine ⟨fun e out h => by have := exSize_pos e; omega, fun l out h => ?_⟩
    cases l with
    | nil => simp [exVarsL]
    | cons e r => rw [exSizes] at h; have := exSize_pos e; omega
  | succ n ih =>
    have hE : ∀ (e : Ex) (out : List ByteArray), exSize e ≤ n + 1 → (exVars out e).length ≤ out.length + exSize e := by
      intro e out h
      cases e with
      | mk k s l =>
        rw [exSize] at h ⊢
        rw [exVars]
        have h1 := ih.2 l (if k = 1 then addName out s else out) (by omega)
        have h2 := addName_len out s
        split at h1 <;> rename_i hk <;> simp only [hk, if_true, if_false] at * <;> omega
    refine ⟨hE, ?_⟩
    intro l
    induction l with
    | nil => intro out _; simp [exVarsL]
    | cons e r ihl =>
      intro out h
      rw [exSizes] at h ⊢
      rw [exVarsL]
      have h1 := hE e out (by omega)
      have h2 := ihl (exVars out e) (by omega)
      omega
theorem vars_step (o : List ByteArray) (l : List Ex) (k : Nat) (e : Ex) (h : l[k]? = some e) : exVarsL o (l.drop k) = exVarsL (exVars o e) (l.drop (k + 1)) := by
  have hk : k < l.length := (List.getElem?_eq_some_iff.1 h).1
  rw [List.drop_eq_getElem_cons hk, (List.getElem?_eq_some_iff.1 h).2, exVarsL]

/-- The blocks of an expression are there. -/
theorem ex_lt (n : Nat) : (∀ (e : Ex), exSize e ≤ n → ∀ (w : World) (g o : Nat) (bs : List Nat), ExAt w g o e bs → ∀ x ∈ bs, x < w.heap.size) ∧ (∀ (l : List Ex), exSizes l ≤ n → ∀ (w : World) (g o j : Nat) (bs : List Nat), ExsAt w g o j l bs → ∀ x ∈ bs, x < w.heap.size) := by
  induction n with
  | zero =>
    refine ⟨fun e h => by have := exSize_pos e; omega, fun l h => ?_⟩
    cases l with
    | nil => intro w g o j bs h1 x hx; rw [ExsAt] at h1; subst h1; cases hx
    | cons e r => rw [exSizes] at h; have := exSize_pos e; omega
  | succ n ih =>
    have hE : ∀ (e : Ex), exSize e ≤ n + 1 → ∀ (w : World) (g o : Nat) (bs : List Nat), ExAt w g o e bs → ∀ x ∈ bs, x < w.heap.size := by
      intro e he w g o bs h x hx
      cases e with
      | mk k s l =>
        rw [exSize] at he
        rw [ExAt] at h
        obtain ⟨-, -, -, A, c, -, -, -, h7⟩ := h
        rcases h7 with ⟨-, rfl⟩ | ⟨g', o', bs', rfl, hbl, rfl, h8⟩
        · cases hx
        · rcases List.mem_cons.1 hx with rfl | hx
          · exact hbl
          · exact ih.2 l (by omega) w g' o' 0 bs' h8 x hx
    refine ⟨hE, ?_⟩
    intro l
    induction l with
    | nil => intro _ w g o j bs h x hx; rw [ExsAt] at h; subst h; cases hx
    | cons e r ihl =>
      intro hl w g o j bs h x hx
      rw [exSizes] at hl
      have hp := exSize_pos e
      rw [ExsAt] at h
      obtain ⟨b1, b2, rfl, h1, h2⟩ := h
      rcases List.mem_append.1 hx with hx | hx
      · exact hE e (by omega) w g _ b1 h1 x hx
      · exact ihl (by omega) w g o (j + 1) b2 h2 x hx
theorem SlIs.blocks {w : World} {v : Value} {l : List Ex} {bs : List Nat} (h : SlIs w v l bs) : ∀ x ∈ bs, x < w.heap.size := by
  obtain ⟨A, c, -, -, -, h3⟩ := h
  intro x hx
  rcases h3 with ⟨-, rfl⟩ | ⟨g, o, bs', rfl, hb, rfl, h4⟩
  · cases hx
  · rcases List.mem_cons.1 hx with rfl | hx
    · exact hb
    · exact (ex_lt _).2 l (Nat.le_refl _) w g o 0 bs' h4 x hx

/-- A row of strings of one's own, grown. -/
structure VState (B : Nat) (w w' : World) (v v' : Value) (out : List ByteArray) : Prop where
  own : OwnsL B w' v' out
  grew : w.grownBy w' v.ownBlock
  lies : ∀ k, v'.ownBlock = some k → v.ownBlock = some k ∨ w.heap.size ≤ k
theorem VState.trans {B : Nat} {w w1 w2 : World} {v v1 v2 : Value} {o1 o2 : List ByteArray} (h : VState B w w1 v v1 o1) (k : VState B w1 w2 v1 v2 o2) : VState B w w2 v v2 o2 := by
  refine ⟨k.own, ⟨k.grew.os.trans h.grew.os, k.grew.tape.trans h.grew.tape, k.grew.output.trans h.grew.output, Nat.le_trans h.grew.size k.grew.size, fun i hi hne => ?_⟩, fun i hi => ?_⟩
  · refine (k.grew.block i (Nat.lt_of_lt_of_le hi h.grew.size) (fun e => ?_)).trans (h.grew.block i hi hne)
    rcases h.lies i e.symm with h1 | h1
    · exact hne h1.symm
    · omega
  · rcases k.lies i hi with h1 | h1
    · exact h.lies i h1
    · exact Or.inr (Nat.le_trans h.grew.size h1)
theorem VState.keeps {B : Nat} {w w' : World} {v v' : Value} {o : List ByteArray} {bs : List Nat} (h : VState B w w' v v' o) (hn : ∀ k, v.ownBlock = some k → k ∉ bs) : Keeps w w' bs :=
  ⟨h.grew.size, fun x hx hlt => h.grew.block x hlt (fun e => hn x e.symm hx)⟩
def VarsPost (B : Nat) (v : Value) (out : List ByteArray) (e : Ex) (w : World) (r : Ending) (w' : World) : Prop := ∃ v', r = .returned v' ∧ VState B w w' v v' (exVars out e)
theorem box_not {B : Nat} {w : World} {v : Value} {out : List ByteArray} (h : OwnsL B w v out) : v.ownBlock ≠ some w.heap.size := fun e => by
  have := (World.ownsRow.lt h _ e).2
  omega

theorem vars_app {B : Nat} {w w1 : World} {v v1 : Value} {out : List ByteArray} {S : ByteArray} {o : Obj} (h : VState B w (w.alloc o) v v out)
    (ho : ((w.alloc o).alloc (.cells #[.string S] 9)).ownsRow B 9 1 v out.length (out.map Value.string)) (ho1 : w1.ownsRow B 9 1 v1 (out.length + 1) (out.map Value.string ++ [Value.string S])) (hg1 : ((w.alloc o).alloc (.cells #[.string S] 9)).grownBy w1 v.ownBlock)
    (hat : v1.ownBlock = v.ownBlock ∨ v1.ownBlock = some ((w.alloc o).alloc (.cells #[.string S] 9)).heap.size) : VState B w w1 v v1 (out ++ [S]) := by
  refine h.trans (VState.trans (v1 := v) (o1 := out) ⟨ho, World.grownBy_alloc _ _ _, fun k hk => Or.inl hk⟩ ⟨OwnsL.next ho1, hg1, fun k hk => ?_⟩)
  rcases hat with e | e
  · exact Or.inl (e ▸ hk)
  · rw [e] at hk
    cases hk
    exact Or.inr (Nat.le_refl _)
theorem vars_new {w : World} {v v1 : Value} {S : ByteArray} {o : Obj} (hn : v.ownBlock ≠ some w.heap.size) (hat : v1.ownBlock = v.ownBlock ∨ v1.ownBlock = some ((w.alloc o).alloc (.cells #[.string S] 9)).heap.size) : v1.ownBlock ≠ some w.heap.size := by
  rcases hat with e | e
  · rw [e]; exact hn
  · rw [e]; simp; omega

set_option maxHeartbeats 4000000 in
theorem l3vars_any (n : Nat) : ∀ (e : Ex) (ve v : Value) (bs : List Nat) (out : List ByteArray) (B : Nat) (w : World), exSize e ≤ n → ExIs w ve e bs → OwnsL B w v out → B ≤ w.heap.size → (∀ k, v.ownBlock = some k → k ∉ bs) → out.length + exSize e ≤ 1099511627776 →
    Calls Try.prog 65 #[ve, v] w (VarsPost B v out e w) := by
  induction n with
  | zero => intro e ve v bs out B w h; have := exSize_pos e; omega
  | succ n ih =>
    intro e ve v bs out B w hle hv ho hB hno hlen
    obtain ⟨i0, hi, hz0, hz1, hz2⟩ := info_parts Try.info9u
    have HI := Lib.hid (And.intro hi (And.intro hz0 (And.intro hz1 hz2)))
    clear hi hz0 hz1 hz2
    obtain ⟨u, rfl, hsz, hu⟩ := hv
    obtain ⟨A, c, rfl, hc1, hc2, -⟩ := id hu
    have HU := Lib.hid hu
    have HBL := Lib.hid hu.blocks
    have HO := Lib.hid ho
    have HNO := Lib.hid hno
    have HBN := Lib.hid (box_not ho)
    obtain ⟨A2, c2, rfl, hso⟩ := ho.shape
    obtain ⟨K, hK⟩ : ∃ K, K = e.kind := ⟨_, rfl⟩
    obtain ⟨S, hS⟩ : ∃ S, S = e.name := ⟨_, rfl⟩
    obtain ⟨L, hL⟩ : ∃ L, L = e.args := ⟨_, rfl⟩
    obtain ⟨m, hm⟩ : ∃ m, m = L.length := ⟨_, rfl⟩
    have HE := Lib.hid (show exSize e = exSizes L + 1 by rw [hL]; cases e; rfl)
    have HF := Lib.hid (show exVars out e = exVarsL (if K = 1 then addName out S else out) L by rw [hL, hK, hS]; cases e; rfl)
    rw [← hK, ← hS, ← hL, ← hm]
    rw [← hS] at hsz
    rw [← hL, ← hm] at hc1 HU
    have HM := Lib.hid hm
    have HN := Lib.hid hle
    have HLEN := Lib.hid hlen
    have HIH := Lib.hid ih
    clear hu hK hS hL hm hle ih ho hno hlen
    have hc3 : (m : Int) ≤ 9223372036854775807 := by omega
    have hge := idx_ge out S
    have HJ := Lib.hid (fun (W : World) (hb : Below w.heap.size w W) => idx_any A2 out c2 S W (hso.below hb) (by have := HLEN.out; omega))
    have HB0 := Lib.hid ((Below.refl w.heap.size w).alloc (Nat.le_refl _) (.cells #[.int .i64 K, .string S, .slice A m c] 26))
    have HBX := Lib.hid (heap_alloc_new w (.cells #[.int .i64 K, .string S, .slice A m c] 26))
    have HS0 := Lib.hid (show VState B w (w.alloc (.cells #[.int .i64 K, .string S, .slice A m c] 26)) (.slice A2 out.length c2) (.slice A2 out.length c2) out from ⟨World.ownsRow.alloc HO.out _, World.grownBy_alloc w _ _, fun k hk => Or.inl hk⟩)
    clear hso
    by_cases h1 : K = 1
    · by_cases hr : 0 ≤ idx out S
      · have HF1 := Lib.hid (show (if K = 1 then addName out S else out) = out by rw [if_pos h1]; unfold addName; rw [if_pos hr])
        have HV1 := Lib.hid (show exVars out e = exVarsL out (L.drop 0) by rw [HF.out, HF1.out, List.drop_zero])
        have HL1 := Lib.hid (show out.length ≤ out.length + 1 + exSizes (L.take 0) by omega)
        have HS1 := HS0
        have HN1 := HBN
        have HX1 := HBX
        have hk1 : (K == 1) = true := by simpa using h1
        subst h1
        generalize idx out S = r at *
        go_enter Try.func65, Try.ntmps65
        go_wp2_with (go_at_call 108; refine (HJ.out _ HB0.out).mono ?_; rintro r w' ⟨rfl, rfl⟩)
        go_loopw [1, 5] (fun vv i wr => ∃ (k : Nat) (o : List ByteArray), k ≤ m ∧ i = .int .i64 (k : Int) ∧ Hid (VState B w wr (.slice A2 out.length c2) vv o) ∧ Hid (exVars out e = exVarsL o (L.drop k)) ∧ Hid (o.length ≤ out.length + 1 + exSizes (L.take k)) ∧ Hid (vv.ownBlock ≠ some w.heap.size) ∧ wr.heap[w.heap.size]? = some (.cells #[.int .i64 1, .string S, .slice A m c] 26 (0, 0))) (fun _ i _ => m - (intOf i).toNat)
        case atStart => exact ⟨0, _, Nat.zero_le _, rfl, HS1, HV1, HL1, HN1, HX1.out⟩
        case round =>
          clear HS1 HV1 HL1 HN1 HX1
          obtain ⟨k, o, hk, rfl, HS, HV, HL, HNE, hbox⟩ := hrel
          have hd2 : wr.cell? ⟨w.heap.size, 2, none⟩ = some (.slice A m c) := by simp [World.cell?, hbox]
          have hgo := HS.out.grew.size
          have hboxlt : w.heap.size < wr.heap.size := (Array.getElem?_eq_some_iff.1 hbox).1
          have HBOX := Lib.hid hbox
          clear hbox
          by_cases hlt : k < m
          · obtain ⟨g, q, e1, u, b1, rfl, hbl, hget, hmem, d1, d3, d4, his, hsub⟩ := (HU.out.keeps (HS.out.keeps HNO.out)).get k (by rw [← HM.out]; exact hlt)
            have HST := Lib.hid (vars_step o L k e1 hget)
            have HSN := Lib.hid (sizes_snoc L k e1 hget)
            have HTK := Lib.hid (sizes_take L (k + 1))
            have HVL := Lib.hid ((vars_len (exSize e1)).1 e1 o (Nat.le_refl _))
            obtain ⟨A3, c3, rfl, -⟩ := HS.out.own.shape
            have HCALL := Lib.hid (HIH.out e1 _ _ b1 o B wr (by have := HE.out; have := exSizes_mem hmem; have := HN.out; omega) his HS.out.own (Nat.le_trans hB hgo) (fun x hx hm2 => by
              have h1 := hsub x hm2
              rcases HS.out.lies x hx with h2 | h2
              · exact HNO.out x h2 h1
              · have := HBL.out x h1; omega) (by have := HL.out; have := HSN.out; have := HTK.out; have := HE.out; have := HLEN.out; omega))
            clear his hget hmem hsub
            go_wp2_with (go_at_call 65; refine HCALL.out.mono ?_; rintro r w2 ⟨v2, rfl, hst2⟩; have HST2 := Lib.hid hst2; clear hst2)
            go_roundw
            case rel =>
              refine ⟨k + 1, exVars o e1, by omega, by go_num, Lib.hid (HS.out.trans HST2.out), Lib.hid (HV.out.trans HST.out), Lib.hid (by have := HL.out; have := HSN.out; have := HVL.out; omega), Lib.hid (fun h => ?_), (HST2.out.grew.block _ hboxlt (fun h => HNE.out h.symm)).trans HBOX.out⟩
              rcases HST2.out.lies _ h with h1 | h1
              · exact HNE.out h1
              · omega
            case measure => simp [intOf]; omega
          · have HE2 := Lib.hid (show exVars out e = o by
              rw [HV.out, List.drop_eq_nil_of_le (by rw [← HM.out]; omega), exVarsL])
            go_wp2_with fail
            go_ret
            exact ⟨_, rfl, by rw [HE2.out]; exact HS.out⟩
      · have HF1 := Lib.hid (show (if K = 1 then addName out S else out) = out ++ [S] by rw [if_pos h1]; unfold addName; rw [if_neg hr])
        have C1 := Lib.hid (show out.length + 1 ≤ maxLen by have := HLEN.out; unfold maxLen; omega)
        have C2 := Lib.hid (show (out.length + 1) * 16 ≤ 140737488355328 by have := HLEN.out; omega)
        have HV1 := Lib.hid (show exVars out e = exVarsL (out ++ [S]) (L.drop 0) by rw [HF.out, HF1.out, List.drop_zero])
        have HL1 := Lib.hid (show (out ++ [S]).length ≤ out.length + 1 + exSizes (L.take 0) by rw [List.length_append]; simp)
        have H1C := Lib.hid (one_new (x := S))
        subst h1
        generalize idx out S = r at *
        go_enter Try.func65, Try.ntmps65
        have C4 := Lib.hid (show B ≤ ((w.alloc (.cells #[.int .i64 1, .string S, .slice A m c] 26)).alloc (.cells #[.string S] 9)).heap.size by simp; omega)
        have HO2 := Lib.hid (World.ownsRow.alloc HS0.out.own (.cells #[.string S] 9))
        have hnw := cell_new (W := w.alloc (.cells #[.int .i64 1, .string S, .slice A m c] 26)) (x := S)
        rw [show (w.alloc (.cells #[.int .i64 1, .string S, .slice A m c] 26)).heap.size = w.heap.size + 1 by simp] at hnw
        have HNW := Lib.hid hnw
        clear hnw
        go_wp2_with (first
          | (go_at_call 108; refine (HJ.out _ HB0.out).mono ?_; rintro r w' ⟨rfl, rfl⟩)
          | (at_builtin; (refine wpList_append_own_at _ rfl (.tmp 16) (.tmp 19) 31 rfl B 9 i0 (.string ⟨#[]⟩) 1 16 Try.underlying31 HI.out.1 HI.out.2.1 HI.out.2.2.1 HI.out.2.2.2 rfl (by decide) (.slice A2 out.length c2) _ _ rfl HO2.out ⟨w.heap.size + 1, 0, none⟩ 1 1 [.string S] rfl rfl HNW.out H1C.out C1.out C2.out C4.out ?_); intro v1 w1 ho1 hg1 _ hat1; have HA1 := Lib.hid (And.intro ho1 (And.intro hg1 hat1)); clear ho1 hg1 hat1))
        have HS1 := Lib.hid (vars_app HS0.out HO2.out HA1.out.1 HA1.out.2.1 HA1.out.2.2)
        have HN1 := Lib.hid (vars_new (w := w) (o := .cells #[.int .i64 1, .string S, .slice A m c] 26) HBN.out HA1.out.2.2)
        have HX1 := Lib.hid ((HA1.out.2.1.block w.heap.size (by simp; omega) (fun h => HBN.out h.symm)).trans ((Below.heap_alloc _ _ _ (by simp)).trans HBX.out))
        go_loopw [1, 5] (fun vv i wr => ∃ (k : Nat) (o : List ByteArray), k ≤ m ∧ i = .int .i64 (k : Int) ∧ Hid (VState B w wr (.slice A2 out.length c2) vv o) ∧ Hid (exVars out e = exVarsL o (L.drop k)) ∧ Hid (o.length ≤ out.length + 1 + exSizes (L.take k)) ∧ Hid (vv.ownBlock ≠ some w.heap.size) ∧ wr.heap[w.heap.size]? = some (.cells #[.int .i64 1, .string S, .slice A m c] 26 (0, 0))) (fun _ i _ => m - (intOf i).toNat)
        case atStart => exact ⟨0, _, Nat.zero_le _, rfl, HS1, HV1, HL1, HN1, HX1.out⟩
        case round =>
          clear HS1 HV1 HL1 HN1 HX1
          obtain ⟨k, o, hk, rfl, HS, HV, HL, HNE, hbox⟩ := hrel
          have hd2 : wr.cell? ⟨w.heap.size, 2, none⟩ = some (.slice A m c) := by simp [World.cell?, hbox]
          have hgo := HS.out.grew.size
          have hboxlt : w.heap.size < wr.heap.size := (Array.getElem?_eq_some_iff.1 hbox).1
          have HBOX := Lib.hid hbox
          clear hbox
          by_cases hlt : k < m
          · obtain ⟨g, q, e1, u, b1, rfl, hbl, hget, hmem, d1, d3, d4, his, hsub⟩ := (HU.out.keeps (HS.out.keeps HNO.out)).get k (by rw [← HM.out]; exact hlt)
            have HST := Lib.hid (vars_step o L k e1 hget)
            have HSN := Lib.hid (sizes_snoc L k e1 hget)
            have HTK := Lib.hid (sizes_take L (k + 1))
            have HVL := Lib.hid ((vars_len (exSize e1)).1 e1 o (Nat.le_refl _))
            obtain ⟨A3, c3, rfl, -⟩ := HS.out.own.shape
            have HCALL := Lib.hid (HIH.out e1 _ _ b1 o B wr (by have := HE.out; have := exSizes_mem hmem; have := HN.out; omega) his HS.out.own (Nat.le_trans hB hgo) (fun x hx hm2 => by
              have h1 := hsub x hm2
              rcases HS.out.lies x hx with h2 | h2
              · exact HNO.out x h2 h1
              · have := HBL.out x h1; omega) (by have := HL.out; have := HSN.out; have := HTK.out; have := HE.out; have := HLEN.out; omega))
            clear his hget hmem hsub
            go_wp2_with (go_at_call 65; refine HCALL.out.mono ?_; rintro r w2 ⟨v2, rfl, hst2⟩; have HST2 := Lib.hid hst2; clear hst2)
            go_roundw
            case rel =>
              refine ⟨k + 1, exVars o e1, by omega, by go_num, Lib.hid (HS.out.trans HST2.out), Lib.hid (HV.out.trans HST.out), Lib.hid (by have := HL.out; have := HSN.out; have := HVL.out; omega), Lib.hid (fun h => ?_), (HST2.out.grew.block _ hboxlt (fun h => HNE.out h.symm)).trans HBOX.out⟩
              rcases HST2.out.lies _ h with h1 | h1
              · exact HNE.out h1
              · omega
            case measure => simp [intOf]; omega
          · have HE2 := Lib.hid (show exVars out e = o by
              rw [HV.out, List.drop_eq_nil_of_le (by rw [← HM.out]; omega), exVarsL])
            go_wp2_with fail
            go_ret
            exact ⟨_, rfl, by rw [HE2.out]; exact HS.out⟩
    · have HF1 := Lib.hid (show (if K = 1 then addName out S else out) = out by rw [if_neg h1])
      have HV1 := Lib.hid (show exVars out e = exVarsL out (L.drop 0) by rw [HF.out, HF1.out, List.drop_zero])
      have HL1 := Lib.hid (show out.length ≤ out.length + 1 + exSizes (L.take 0) by omega)
      have HS1 := HS0
      have HN1 := HBN
      have HX1 := HBX
      have hk1 : (K == 1) = false := by simpa using h1
      clear h1
      go_enter Try.func65, Try.ntmps65
      go_wp2_with fail
      go_loopw [1, 5] (fun vv i wr => ∃ (k : Nat) (o : List ByteArray), k ≤ m ∧ i = .int .i64 (k : Int) ∧ Hid (VState B w wr (.slice A2 out.length c2) vv o) ∧ Hid (exVars out e = exVarsL o (L.drop k)) ∧ Hid (o.length ≤ out.length + 1 + exSizes (L.take k)) ∧ Hid (vv.ownBlock ≠ some w.heap.size) ∧ wr.heap[w.heap.size]? = some (.cells #[.int .i64 K, .string S, .slice A m c] 26 (0, 0))) (fun _ i _ => m - (intOf i).toNat)
      case atStart => exact ⟨0, _, Nat.zero_le _, rfl, HS1, HV1, HL1, HN1, HX1.out⟩
      case round =>
        clear HS1 HV1 HL1 HN1 HX1
        obtain ⟨k, o, hk, rfl, HS, HV, HL, HNE, hbox⟩ := hrel
        have hd2 : wr.cell? ⟨w.heap.size, 2, none⟩ = some (.slice A m c) := by simp [World.cell?, hbox]
        have hgo := HS.out.grew.size
        have hboxlt : w.heap.size < wr.heap.size := (Array.getElem?_eq_some_iff.1 hbox).1
        have HBOX := Lib.hid hbox
        clear hbox
        by_cases hlt : k < m
        · obtain ⟨g, q, e1, u, b1, rfl, hbl, hget, hmem, d1, d3, d4, his, hsub⟩ := (HU.out.keeps (HS.out.keeps HNO.out)).get k (by rw [← HM.out]; exact hlt)
          have HST := Lib.hid (vars_step o L k e1 hget)
          have HSN := Lib.hid (sizes_snoc L k e1 hget)
          have HTK := Lib.hid (sizes_take L (k + 1))
          have HVL := Lib.hid ((vars_len (exSize e1)).1 e1 o (Nat.le_refl _))
          obtain ⟨A3, c3, rfl, -⟩ := HS.out.own.shape
          have HCALL := Lib.hid (HIH.out e1 _ _ b1 o B wr (by have := HE.out; have := exSizes_mem hmem; have := HN.out; omega) his HS.out.own (Nat.le_trans hB hgo) (fun x hx hm2 => by
            have h1 := hsub x hm2
            rcases HS.out.lies x hx with h2 | h2
            · exact HNO.out x h2 h1
            · have := HBL.out x h1; omega) (by have := HL.out; have := HSN.out; have := HTK.out; have := HE.out; have := HLEN.out; omega))
          clear his hget hmem hsub
          go_wp2_with (go_at_call 65; refine HCALL.out.mono ?_; rintro r w2 ⟨v2, rfl, hst2⟩; have HST2 := Lib.hid hst2; clear hst2)
          go_roundw
          case rel =>
            refine ⟨k + 1, exVars o e1, by omega, by go_num, Lib.hid (HS.out.trans HST2.out), Lib.hid (HV.out.trans HST.out), Lib.hid (by have := HL.out; have := HSN.out; have := HVL.out; omega), Lib.hid (fun h => ?_), (HST2.out.grew.block _ hboxlt (fun h => HNE.out h.symm)).trans HBOX.out⟩
            rcases HST2.out.lies _ h with h1 | h1
            · exact HNE.out h1
            · omega
          case measure => simp [intOf]; omega
        · have HE2 := Lib.hid (show exVars out e = o by
            rw [HV.out, List.drop_eq_nil_of_le (by rw [← HM.out]; omega), exVarsL])
          go_wp2_with fail
          go_ret
          exact ⟨_, rfl, by rw [HE2.out]; exact HS.out⟩

def NamesPost (xs : List ByteArray) (w : World) (e : Ending) (w' : World) : Prop := ∃ v, e = .returned v ∧ OwnsL w.heap.size w' v xs ∧ Below w.heap.size w w'

set_option maxHeartbeats 1000000 in
theorem vars_any (e : Ex) (v : Value) (bs : List Nat) (w : World) (hv : ExIs w v e bs) (hb : exSize e ≤ 1099511627776) :
    Calls Try.prog 19 #[v] w (NamesPost (exVars [] e) w) := by
  have HV := Lib.hid hv
  have HBL := Lib.hid (show ∀ x ∈ bs, x < w.heap.size by obtain ⟨u, -, -, hu⟩ := hv; exact hu.blocks)
  have HSZ := Lib.hid hb
  obtain ⟨u, rfl, -, hu⟩ := hv
  obtain ⟨A, c, rfl, -⟩ := id hu
  clear hu hb
  go_enter Try.func19, Try.ntmps19
  have HB0 := Lib.hid (((Below.refl w.heap.size w).alloc (Nat.le_refl _) (.cells #[.int .i64 e.kind, .string e.name, .slice A e.args.length c] 26)).alloc (by simp) (.cells #[] 9))
  have ho := World.ownsRow_made (base := w.heap.size) (e := 9) (size := 1) (w.alloc (.cells #[.int .i64 e.kind, .string e.name, .slice A e.args.length c] 26)) #[] 0 (by simp) (Nat.zero_le _) rfl
  rw [show (w.alloc (.cells #[.int .i64 e.kind, .string e.name, .slice A e.args.length c] 26)).heap.size = w.heap.size + 1 by simp] at ho
  have HO := Lib.hid (show OwnsL w.heap.size _ (.slice (some ⟨w.heap.size + 1, 0, none⟩) 0 0) [] from ho)
  clear ho
  go_wp2_with fail
  go_at_call 65
  refine (l3vars_any (exSize e) e _ _ bs [] w.heap.size _ (Nat.le_refl _) (HV.out.below HB0.out) HO.out (by simp; omega) (fun k hk hm => by
    have h1 := HBL.out k hm
    simp [Value.ownBlock] at hk
    omega) (by have := HSZ.out; simp; omega)).mono ?_
  rintro r w1 ⟨v1, rfl, hs1⟩
  have HS1 := Lib.hid hs1
  clear hs1
  go_wp2_with fail
  go_ret
  exact ⟨_, rfl, HS1.out.own, HB0.out.grown HS1.out.grew (by simp; omega) (fun k hk => by simp [Value.ownBlock] at hk; omega)⟩
end Go.Proofs.Ytmndlhbgacgnlaa
