/- A part of the proof of the seat's statement: RuSz. Condition: as each says. -/
import Derived.Test.YtiaknfnhmoinpaaGreatSpecNode
import Derived.Test.YtiaknfnhmoinpaaGreatFrame
import Derived.Deep.QuietTactic
import Derived.BigQuiet
import Derived.Test.YtiaknfnhmoinpaaGreatNames
import Derived.Test.YtiaknfnhmoinpaaGreatKids
import Derived.Test.YtiaknfnhmoinpaaGreatDrawOnce
set_option maxHeartbeats 8000000
namespace Go.Proofs.YtiaknfnhmoinpaaGreat
open Go Go.RowKit
theorem node_all (R : Nat) (s : ByteArray) (hs : s.size ≤ 1048576) : ∀ (f d : Nat), f + d = 25 → 1 ≤ d → ∀ (a : Nat) (w : World), Rd w R s a false → a ≤ s.size →
 Calls Tryz.prog 107 #[.pointer (some ⟨R, 0, none⟩), .int .i64 (d : Int)] w (NodePost f R s a w) := by
 intro f
 induction f with
 | zero =>
  intro d hd h1 a w h ha
  obtain rfl : d = 25 := by omega
  exact node_deep R s a w h ha
 | succ f ih =>
  intro d hd h1 a w h ha
  exact node_step f R s d hs h1 (by omega) (fun a w h ha => args_any4 f R s (d + 1) hs (by omega) (fun a w h ha => ih (d + 1) (by omega) (by omega) a w h ha) a w h ha) a w h ha
def exParse (s : ByteArray) : Option Ex := match pNode 24 (rest s 0) with
 | none => none
 | some (e, r) => if r = [] ∧ exFmt e = s then some e else none
def zeroEx : Ex := .mk 0 ⟨#[]⟩ []
def ParsePost (s : ByteArray) (w : World) (r : Ending) (w2 : World) : Prop :=
 ∃ v bs, r = .returned (.tuple #[v, .bool (exParse s).isSome]) ∧ ExIs w2 v ((exParse s).getD zeroEx) bs ∧ Mine w2 w.heap.size bs ∧ Below w.heap.size w w2
theorem parse_not {s : ByteArray} {e : Ex} {a : Nat} {b : Bool} (hg : Got (pNode 24 (rest s 0)) e s a b) (ha : a ≤ s.size) (h : b = true ∨ a ≠ s.size ∨ exFmt e ≠ s) : exParse s = none := by
 unfold Got at hg
 unfold exParse
 rw [hg]
 cases b
 · have hr : rest s a = [] → a = s.size := fun hh => by have := rest_len s a; rw [hh] at this; simp at this; omega
   simp only [Bool.false_eq_true, if_false, false_or] at h ⊢
   rw [if_neg]
   rintro ⟨h1, h2⟩
   rcases h with h | h
   · exact h (hr h1)
   exact h h2
 rfl
theorem parse_yes {s : ByteArray} {e : Ex} {a : Nat} (hg : Got (pNode 24 (rest s 0)) e s a false) (ha : a = s.size) (h : exFmt e = s) : exParse s = some e := by
 unfold Got at hg
 unfold exParse
 rw [hg]
 have hr : rest s a = [] := List.eq_nil_of_length_eq_zero (by rw [rest_len]; omega)
 simp [hr, h]
theorem zero_end {s : ByteArray} {w V W : World} (hn : exParse s = none) (hl : Below w.heap.size w V) (hb : Bx V w.heap.size 0 ⟨#[]⟩ (.slice none 0 0))
 (hW : W = ((V.setCell ⟨w.heap.size, 0, none⟩ (.int .i64 0)).setCell ⟨w.heap.size, 1, none⟩ (.string ⟨#[]⟩)).setCell ⟨w.heap.size, 2, none⟩ (.slice none 0 0)) :
 ∃ W2, W2 = W ∧ ParsePost s w (.returned (.tuple #[.agg #[.int .i64 0, .string ⟨#[]⟩, .slice none 0 0], .bool false])) W2 ∧ Bx W2 w.heap.size 0 ⟨#[]⟩ (.slice none 0 0) := by
 refine ⟨W, rfl, ⟨_, [], by rw [hn]; rfl, ?_, Mine.nil _ _, ?_⟩, ?_⟩
 · rw [hn]; exact leaf_isN _ (by decide)
 · rw [hW]
   exact ((hl.setCell (nR _) _).setCell (nR _) _).setCell (nR _) _
 rw [hW]
 exact ((hb.set0 0).set1 _).set2 _
theorem zero_end2 {s : ByteArray} {w V W : World} {o : Obj} (hn : exParse s = none) (hl : Below w.heap.size w V) (hb : Bx V w.heap.size 0 ⟨#[]⟩ (.slice none 0 0))
 (hW : W = (((V.setCell ⟨w.heap.size, 0, none⟩ (.int .i64 0)).setCell ⟨w.heap.size, 1, none⟩ (.string ⟨#[]⟩)).setCell ⟨w.heap.size, 2, none⟩ (.slice none 0 0)).alloc o) :
 ∃ W2, W2 = W ∧ ParsePost s w (.returned (.tuple #[.agg #[.int .i64 0, .string ⟨#[]⟩, .slice none 0 0], .bool false])) W2 ∧ Bx W2 w.heap.size 0 ⟨#[]⟩ (.slice none 0 0) := by
 obtain ⟨W3, h3, ⟨v, bs, e1, -, -, hl3⟩, hb3⟩ := zero_end hn hl hb rfl
 have hb4 : Bx W w.heap.size 0 ⟨#[]⟩ (.slice none 0 0) := by rw [hW, ← h3]; exact hb3.keep (Fr.alloc (S := []) _ _) (by simp)
 refine ⟨W, rfl, ⟨_, [], by rw [hn]; rfl, ?_, Mine.nil _ _, ?_⟩, hb4⟩
 · rw [hn]; exact leaf_isN _ (by decide)
 rw [hW, ← h3]
 exact hl3.alloc hl3.size _
theorem good_end {s S : ByteArray} {w w2 V W : World} {e : Ex} {b1 : List Nat} {K : Int} {u : Value} {C : Nat} (hn : exParse s = some e) (hl : Below w.heap.size w V) (hb : Bx V w.heap.size 0 ⟨#[]⟩ (.slice none 0 0)) (hV : Below w2.heap.size w2 V) (hC : w.heap.size < C)
 (hi : ExIs w2 (.agg #[.int .i64 K, .string S, u]) e b1 ∧ Mine w2 C b1)
 (hW : W = ((V.setCell ⟨w.heap.size, 0, none⟩ (.int .i64 K)).setCell ⟨w.heap.size, 1, none⟩ (.string S)).setCell ⟨w.heap.size, 2, none⟩ u) :
 ∃ W2, W2 = W ∧ ParsePost s w (.returned (.tuple #[.agg #[.int .i64 K, .string S, u], .bool true])) W2 ∧ Bx W2 w.heap.size K S u := by
 have hf : Fr [w.heap.size] w2 W := by
  rw [hW]
  exact (((Fr.of_below hV).trans (Fr.set (S := [w.heap.size]) V ⟨w.heap.size, 0, none⟩ _ (by simp)) (fun x hx => Or.inl hx)).trans (Fr.set (S := [w.heap.size]) _ ⟨w.heap.size, 1, none⟩ _ (by simp)) (fun x hx => Or.inl hx)).trans (Fr.set (S := [w.heap.size]) _ ⟨w.heap.size, 2, none⟩ _ (by simp)) (fun x hx => Or.inl hx)
 have hk : Keeps w2 W b1 := ⟨hf.size, fun x hx hlt => hf.block x hlt (by have := (hi.2.range x hx).1; simp; omega)⟩
 refine ⟨W, rfl, ⟨_, b1, by rw [hn]; rfl, ?_, (hi.2.keeps hk).mono (by omega), ?_⟩, ?_⟩
 · rw [hn]; exact hi.1.keeps hk
 · rw [hW]
   exact ((hl.setCell (nR _) _).setCell (nR _) _).setCell (nR _) _
 rw [hW]
 exact ((hb.set0 K).set1 _).set2 _
theorem parse_any (s : ByteArray) (w : World) (hs : s.size ≤ 1048576) :
 Calls Tryz.prog 100 #[.string s] w (ParsePost s w) := by
 obtain ⟨W1, hW1⟩ : ∃ W1, W1 = (w.alloc (.cells #[.int .i64 0, .string ⟨#[]⟩, .slice none 0 0] 32)).alloc (.cells #[.string s, .int .i64 0, .bool false] 148) := ⟨_, rfl⟩
 have hR1 : Rd W1 (w.heap.size + 1) s 0 false := by
  rw [hW1]
  have := heap_alloc_new (w.alloc (.cells #[.int .i64 0, .string ⟨#[]⟩, .slice none 0 0] 32)) (.cells #[.string s, .int .i64 0, .bool false] 148)
  simpa [Rd] using this
 have hB1 : Bx W1 w.heap.size 0 ⟨#[]⟩ (.slice none 0 0) := by
  rw [hW1]
  exact Bx.keep (W := w.alloc (.cells #[.int .i64 0, .string ⟨#[]⟩, .slice none 0 0] 32)) (heap_alloc_new w _) (Fr.alloc (S := []) _ _) (by simp)
 have hL1 : Below w.heap.size w W1 := by
  rw [hW1]
  exact ((wB w.heap.size w).alloc (nR _) _).alloc (by simp) _
 have HCALL := zH (show Calls Tryz.prog 107 #[.pointer (some ⟨w.heap.size + 1, 0, none⟩), .int .i64 1] W1 (NodePost 24 (w.heap.size + 1) s 0 W1) from node_all (w.heap.size + 1) s hs 24 1 rfl (nR _) 0 W1 hR1 (Nat.zero_le _))
 have HB1 := zH hB1
 have HL1 := zH hL1
 have HW1 := zH hW1
 have hsz1 : W1.heap.size = w.heap.size + 2 := by rw [hW1]; simp
 clear hR1 hB1 hL1 hW1
 go_enter Tryz.func100, Tryz.ntmps100
 go_wp2_with fail
 go_at_call 107
 rw [← HW1.out]
 refine HCALL.out.mono ?_
 rintro r w2 ⟨v2, e, b1, a2, b2, rfl, his, hm2, hf2, hr2, -, hhi, htot, hgot⟩
 obtain ⟨u2, rfl, hns, hu2⟩ := id his
 obtain ⟨A2, c2, rfl, -⟩ := id hu2
 have HL2 := zH (show Below w.heap.size w w2 from HL1.out.trans (hf2.below (by simp) (by omega)))
 have hb2 := HB1.out.keep hf2 (by simp)
 obtain ⟨e0, e1, e2, hBw⟩ := hb2.cells
 have g0 := hb2.thaw 0
 have g1 := hb2.thaw 1
 have g2 := hb2.thaw 2
 obtain ⟨-, d1, d2, hRl⟩ := hr2.cells
 have HB2 := zH hb2
 have HI2 := zH (aI his hm2)
 have HG := zH hgot
 have hhi2 : (a2 : Int) ≤ (s.size : Int) := by omega
 have HTT := zH (show exTot e ≤ 1048576 by omega)
 have hss : w.heap.size < w2.heap.size := hBw
 clear hb2 his hm2 hf2 hr2 hgot hu2 HCALL HB1 HL1 htot
 obtain ⟨q, hq⟩ : ∃ q, q = e.args.length := ⟨_, rfl⟩
 obtain ⟨K, hK⟩ : ∃ K, K = e.kind := ⟨_, rfl⟩
 obtain ⟨S, hS⟩ : ∃ S, S = e.name := ⟨_, rfl⟩
 rw [← hq, ← hK, ← hS] at HI2 ⊢
 have HQ := zH (aI hq (aI hK hS))
 clear hq hK hS
 have HL3 := zH (HL2.out.alloc (by omega) (.cells #[.int .i64 K, .string S, .slice A2 q c2] 32))
 have HB3 := zH (HB2.out.keep (Fr.alloc (S := []) w2 (.cells #[.int .i64 K, .string S, .slice A2 q c2] 32)) (by simp))
 have HE3 := zH (show Bx (w2.alloc (.cells #[.int .i64 K, .string S, .slice A2 q c2] 32)) w2.heap.size K S (.slice A2 q c2) from heap_alloc_new _ _)
 cases b2
 · by_cases ha : a2 = s.size
   · have HA := zH ha
     have hne1 : ((a2 : Int) != (s.size : Int)) = false := by simp [ha]
     have HFM := zH (fun (W : World) (v : Value) (bs : List Nat) (h : ExIs W v e bs) => format_any e v bs W h HTT.out)
     clear ha
     generalize hfm : exFmt e = t at HFM
     by_cases ht : t = s
     · have hte := beq_yes ht
       have HYES := zH (parse_yes HG.out HA.out (hfm.trans ht))
       clear ht hfm
       go_wp2_with (go_at_call 108; refine (HFM.out _ _ b1 (HI2.out.1.below ((wB _ _).alloc (nR _) _))).mono ?_; rintro r w4 ⟨rfl, hb4⟩; have hb5 := HB3.out.keep (Fr.of_below (S := []) hb4) (by simp); have HL4 := zH (HL3.out.trans (hb4.mono HL3.out.size)); have HV4 := zH (((wB w2.heap.size w2).alloc (nR _) _).trans (hb4.mono (by simp))); obtain ⟨e0, e1, e2, hBw4⟩ := hb5.cells; have g0 := hb5.thaw 0; have g1 := hb5.thaw 1; have g2 := hb5.thaw 2; have HB5 := zH hb5; have he5 := HE3.out.keep (Fr.of_below (S := []) hb4) (by simp); obtain ⟨k0, k1, k2, hBx4⟩ := he5.cells; clear hb4 hb5 he5)
       obtain ⟨W2, hW2, hpost, hbx⟩ := good_end (C := W1.heap.size) HYES.out HL4.out HB5.out HV4.out (by omega) HI2.out rfl
       rw [← hW2]
       obtain ⟨y0, y1, y2, -⟩ := hbx.cells
       refine bP (v := .tuple #[.agg #[.int .i64 K, .string S, .slice A2 q c2], .bool true]) (by simp [results, Tryz.results100, go_sem, y0, y1, y2]) rfl ?_
       exact hpost
     have hte := beq_no ht
     have HNO := zH (parse_not HG.out hhi (Or.inr (Or.inr (by rw [hfm]; exact ht))))
     clear ht hfm
     go_wp2_with (go_at_call 108; refine (HFM.out _ _ b1 (HI2.out.1.below ((wB _ _).alloc (nR _) _))).mono ?_; rintro r w4 ⟨rfl, hb4⟩; have hb5 := HB3.out.keep (Fr.of_below (S := []) hb4) (by simp); have HL4 := zH (HL3.out.trans (hb4.mono HL3.out.size)); have HV4 := zH (((wB w2.heap.size w2).alloc (nR _) _).trans (hb4.mono (by simp))); obtain ⟨e0, e1, e2, hBw4⟩ := hb5.cells; have g0 := hb5.thaw 0; have g1 := hb5.thaw 1; have g2 := hb5.thaw 2; have HB5 := zH hb5; have he5 := HE3.out.keep (Fr.of_below (S := []) hb4) (by simp); obtain ⟨k0, k1, k2, hBx4⟩ := he5.cells; clear hb4 hb5 he5)
     obtain ⟨W2, hW2, hpost, hbx⟩ := zero_end HNO.out HL4.out HB5.out rfl
     rw [← hW2]
     obtain ⟨y0, y1, y2, -⟩ := hbx.cells
     refine bP (v := .tuple #[.agg #[.int .i64 0, .string ⟨#[]⟩, .slice none 0 0], .bool false]) (by simp [results, Tryz.results100, go_sem, y0, y1, y2]) rfl ?_
     exact hpost
   have hne1 : ((a2 : Int) != (s.size : Int)) = true := by simp; omega
   have HNO := zH (parse_not HG.out hhi (Or.inr (Or.inl ha)))
   clear ha
   go_wp2_with fail
   obtain ⟨W2, hW2, hpost, hbx⟩ := zero_end2 (o := .cells #[.int .i64 K, .string S, .slice A2 q c2] 32) HNO.out HL2.out HB2.out rfl
   rw [← hW2]
   obtain ⟨y0, y1, y2, -⟩ := hbx.cells
   refine bP (v := .tuple #[.agg #[.int .i64 0, .string ⟨#[]⟩, .slice none 0 0], .bool false]) (by simp [results, Tryz.results100, go_sem, y0, y1, y2]) rfl ?_
   exact hpost
 have HNO := zH (parse_not HG.out hhi (Or.inl rfl))
 go_wp2_with fail
 obtain ⟨W2, hW2, hpost, hbx⟩ := zero_end2 (o := .cells #[.int .i64 K, .string S, .slice A2 q c2] 32) HNO.out HL2.out HB2.out rfl
 rw [← hW2]
 obtain ⟨y0, y1, y2, -⟩ := hbx.cells
 refine bP (v := .tuple #[.agg #[.int .i64 0, .string ⟨#[]⟩, .slice none 0 0], .bool false]) (by simp [results, Tryz.results100, go_sem, y0, y1, y2]) rfl ?_
 exact hpost
theorem parse_none {e : Ex} (h : exValid e = false) : exParse (exFmt e) = none := by
 have hf : exFmt e = ⟨#[]⟩ := by unfold exFmt; rw [h]; rfl
 rw [hf]
 rfl
theorem parse_some {s : ByteArray} {e : Ex} (h : exParse s = some e) : exValid e = true ∧ exFmt e = s := by
 have h0 := h
 unfold exParse at h
 split at h
 · cases h
 split at h
 · rename_i hh
   obtain rfl := Option.some.inj h
   refine ⟨?_, hh.2⟩
   cases hv : exValid _ with
   | true => rfl
   | false =>
    have h1 := parse_none hv
    rw [hh.2, h0] at h1
    cases h1
 cases h
theorem valid_all {e : Ex} (h : exValid e = true) : exAll e = true ∧ exSize e ≤ 80 := by
 unfold exValid at h
 rw [Bool.and_eq_true, Bool.and_eq_true] at h
 exact ⟨h.2.2, of_decide_eq_true h.1⟩
theorem Strs.take {w : World} {A : Option Addr} {xs : List ByteArray} (h : Strs w A xs) (k : Nat) : Strs w A (xs.take k) := fun i x hx => by
 rw [List.getElem?_take] at hx
 split at hx
 · exact h i x hx
 cases hx
theorem Strs.drewN {w : World} {A : Option Addr} {xs : List ByteArray} (h : Strs w A xs) (q : Nat) : Strs (w.drewN q) A xs := h
theorem quiet_sameL {P : Program} {f : FuncId} {args : Array Value} {w : World} {n : Nat} {v : Value}
 (h : Calls P f args (w.drewN n) fun e w' => e = .returned v ∧ w.drewN n = w') : Calls P f args (w.drewN n) fun e w'' => e = .returned v ∧ ∃ m, w'' = w.drewN m :=
 h.mono fun _ _ ⟨he, hm⟩ => ⟨he, n, hm.symm⟩
def DistPost (xs : List ByteArray) (w : World) (e : Ending) (w' : World) : Prop := e = .returned (.bool (distinct xs)) ∧ ∃ q, w' = w.drewN q
theorem dist_end {xs : List ByteArray} {w wr : World} {q n : Nat} {b : Bool} (hb : b = distinct xs) (hw : wr = w.drewN q) : DistPost xs w (.returned (.bool b)) (wr.drewN n) :=
 ⟨by rw [hb], q + n, by rw [hw, World.drewN_drewN]⟩
theorem dist_any (A : Option Addr) (xs : List ByteArray) (cap : Nat) (w : World) (hs : Strs w A xs) (hn : xs.length ≤ 1099511627776) (hcap : xs.length ≤ cap) (_hc2 : cap ≤ 9223372036854775807) :
 Calls Tryz.prog 76 #[.slice A xs.length cap] w (DistPost xs w) := by
 obtain ⟨n, hnn⟩ : ∃ n, n = xs.length := ⟨_, rfl⟩
 have HN := zH hnn
 have HS := zH hs
 rw [← hnn]
 rw [← hnn] at hn hcap
 clear hs hnn
 go_enter Tryz.func76, Tryz.ntmps76
 go_wp2
 go_loopw [3] (fun i wr => ∃ (k q : Nat), k ≤ n ∧ i = .int .i64 (k : Int) ∧ Hid ((xs.take k).Nodup) ∧ Hid (wr = w.drewN q)) (fun i _ => n - (intOf i).toNat)
 case atStart => exact ⟨0, 0, Nat.zero_le _, rfl, zH (by simp), zH (by simp [World.drewN_zero])⟩
 case round =>
  obtain ⟨k, q, hk, rfl, HK, HW⟩ := hrel
  by_cases hlt : k < n
  · obtain ⟨a, x, rfl, hc0, -, hx, htake, -⟩ := HS.out.get k (by rw [← HN.out]; exact hlt)
    have hc : wr.cell? (a.add k) = some (.string x) := by rw [HW.out]; exact hc0
    have hk0 : 0 ≤ (k : Int) := by omega
    have hkn : (k : Int) < (n : Int) := by omega
    have hkc : (k : Int) ≤ (cap : Int) := by omega
    have HD := zH (nodup_take xs k x htake)
    have HL := zH (show (xs.take k).length = k by rw [List.length_take, ← HN.out]; omega)
    have hI := fun (m : Nat) => idx_any (some a) (xs.take k) cap x (wr.drewN m) (by rw [HW.out]; exact (HS.out.take k)) (by rw [HL.out]; omega)
    rw [HL.out] at hI
    have hge := idx_ge (xs.take k) x
    have HM := zH (idx_mem (xs.take k) x)
    clear hx htake hc0
    generalize idx (xs.take k) x = r at *
    have HI := zH hI
    clear hI
    by_cases hr : 0 ≤ r
    · have HF := zH (nodup_of_take xs (k + 1) (fun h => (HD.out.1 h).2 (HM.out.1 hr)))
      go_wp2
      go_quiet ((go_at_call 78; exact quiet_sameL (HI.out _)))
      go_wp2
      go_ret
      exact dist_end (by unfold distinct; exact (decide_eq_false HF.out).symm) HW.out
    have HG := zH (HD.out.2 ⟨HK.out, fun h => hr (HM.out.2 h)⟩)
    go_wp2
    go_quiet ((go_at_call 78; exact quiet_sameL (HI.out _)))
    go_wp2
    go_roundw
    case rel => exact ⟨k + 1, q + nq, by omega, by go_num, HG, zH (by rw [HW.out, World.drewN_drewN])⟩
    case measure => simp [intOf]; omega
  have HF := zH (show xs.Nodup by have h := HK.out; rw [List.take_of_length_le (by rw [← HN.out]; omega)] at h; exact h)
  go_wp2
  go_ret
  exact dist_end (n := 0) (by unfold distinct; exact (decide_eq_true HF.out).symm) HW.out
structure Ru where
 name : ByteArray
 con : ByteArray
 vars : List ByteArray
 params : List ByteArray
 body : Ex
def SsIs (w : World) (v : Value) (xs : List ByteArray) (bs : List Nat) : Prop :=
 ∃ A c, v = .slice A xs.length c ∧ xs.length ≤ c ∧ c ≤ 9223372036854775807 ∧ (∀ x ∈ xs, x.size ≤ 9223372036854775807) ∧ ((xs = [] ∧ bs = []) ∨ ∃ g o, A = some ⟨g, o, none⟩ ∧ g < w.heap.size ∧ bs = [g] ∧ ∀ i x, xs[i]? = some x → w.cell? ⟨g, o + i, none⟩ = some (.string x))
theorem SsIs.keeps {w w' : World} {v : Value} {xs : List ByteArray} {bs : List Nat} (h : SsIs w v xs bs) (hk : Keeps w w' bs) : SsIs w' v xs bs := by
 obtain ⟨A, c, e, h1, h2, h3, h4⟩ := h
 refine ⟨A, c, e, h1, h2, h3, ?_⟩
 rcases h4 with h4 | ⟨g, o, e1, h5, rfl, h6⟩
 · exact Or.inl h4
 have hg := hk.2 g (by simp) h5
 exact Or.inr ⟨g, o, e1, nL h5 hk.1, rfl, fun i x hx => (World.cell?_of_block (w := w) (a := ⟨g, o + i, none⟩) hg).trans (h6 i x hx)⟩
theorem add_litRu (g o k : Nat) : (⟨g, o, none⟩ : Addr).add k = ⟨g, o + k, none⟩ := by
 unfold Addr.add
 split <;> simp_all
theorem SsIs.strs {w : World} {A : Option Addr} {n c : Nat} {xs : List ByteArray} {bs : List Nat} (h : SsIs w (.slice A n c) xs bs) : n = xs.length ∧ n ≤ c ∧ c ≤ 9223372036854775807 ∧ Strs w A xs ∧ ∀ x ∈ xs, x.size ≤ 9223372036854775807 := by
 obtain ⟨A', c', e, h1, h2, h3, h4⟩ := h
 cases e
 refine ⟨rfl, h1, h2, ?_, h3⟩
 rcases h4 with ⟨rfl, -⟩ | ⟨g, o, rfl, h5, rfl, h6⟩
 · exact fun i x hx => by simp at hx
 exact fun i x hx => ⟨_, rfl, by rw [add_litRu]; exact h6 i x hx, h5⟩
theorem SsIs.slice {w : World} {v : Value} {xs : List ByteArray} {bs : List Nat} (h : SsIs w v xs bs) : ∃ A c, v = .slice A xs.length c := by
 obtain ⟨A, c, e, -⟩ := h
 exact ⟨A, c, e⟩
def RuIs (w : World) (v : Value) (r : Ru) (bs : List Nat) : Prop :=
 ∃ v1 v2 u b1 b2 b3, v = .agg #[.string r.name, .string r.con, v1, v2, .int .i64 r.body.kind, .string r.body.name, u] ∧ r.name.size ≤ 9223372036854775807 ∧ r.con.size ≤ 9223372036854775807 ∧ bs = b1 ++ (b2 ++ b3) ∧
  SsIs w v1 r.vars b1 ∧ SsIs w v2 r.params b2 ∧ ExIs w (.agg #[.int .i64 r.body.kind, .string r.body.name, u]) r.body b3
theorem RuIs.keeps {w w' : World} {v : Value} {r : Ru} {bs : List Nat} (h : RuIs w v r bs) (hk : Keeps w w' bs) : RuIs w' v r bs := by
 obtain ⟨v1, v2, u, b1, b2, b3, e, h1, h2, rfl, h3, h4, h5⟩ := h
 exact ⟨v1, v2, u, b1, b2, b3, e, h1, h2, rfl, h3.keeps ⟨hk.1, fun x hx => hk.2 x (by simp [hx])⟩, h4.keeps ⟨hk.1, fun x hx => hk.2 x (by simp [hx])⟩, h5.keeps ⟨hk.1, fun x hx => hk.2 x (by simp [hx])⟩⟩
theorem RuIs.below {w w' : World} {v : Value} {r : Ru} {bs : List Nat} (h : RuIs w v r bs) (hb : Below w.heap.size w w') : RuIs w' v r bs := h.keeps (keeps_below hb bs)
structure Cells7 (w : World) (g o : Nat) (x0 x1 x2 x3 x4 x5 x6 : Value) : Prop where
 c0 : w.cell? ⟨g, o, none⟩ = some x0
 c1 : w.cell? ⟨g, o + 1, none⟩ = some x1
 c2 : w.cell? ⟨g, o + 2, none⟩ = some x2
 c3 : w.cell? ⟨g, o + 3, none⟩ = some x3
 c4 : w.cell? ⟨g, o + 4, none⟩ = some x4
 c5 : w.cell? ⟨g, o + 5, none⟩ = some x5
 c6 : w.cell? ⟨g, o + 6, none⟩ = some x6
theorem Cells7.of {w w' : World} {g o : Nat} {x0 x1 x2 x3 x4 x5 x6 : Value} (h : Cells7 w g o x0 x1 x2 x3 x4 x5 x6) (hc : ∀ m, o ≤ m → m < o + 7 → w'.cell? ⟨g, m, none⟩ = w.cell? ⟨g, m, none⟩) : Cells7 w' g o x0 x1 x2 x3 x4 x5 x6 :=
 ⟨(hc _ (by omega) (by omega)).trans h.c0, (hc _ (by omega) (by omega)).trans h.c1, (hc _ (by omega) (by omega)).trans h.c2, (hc _ (by omega) (by omega)).trans h.c3, (hc _ (by omega) (by omega)).trans h.c4, (hc _ (by omega) (by omega)).trans h.c5, (hc _ (by omega) (by omega)).trans h.c6⟩
def RuAt (w : World) (g o : Nat) (r : Ru) (bs : List Nat) : Prop :=
 ∃ v1 v2 u, Cells7 w g o (.string r.name) (.string r.con) v1 v2 (.int .i64 r.body.kind) (.string r.body.name) u ∧ RuIs w (.agg #[.string r.name, .string r.con, v1, v2, .int .i64 r.body.kind, .string r.body.name, u]) r bs
theorem RuAt.same {w w' : World} {g o : Nat} {r : Ru} {bs : List Nat} (h : RuAt w g o r bs) (hc : ∀ m, o ≤ m → m < o + 7 → w'.cell? ⟨g, m, none⟩ = w.cell? ⟨g, m, none⟩) (hk : Keeps w w' bs) : RuAt w' g o r bs := by
 obtain ⟨v1, v2, u, h1, h2⟩ := h
 exact ⟨v1, v2, u, h1.of hc, h2.keeps hk⟩
def RusAt (w : World) (g o : Nat) : Nat → List Ru → List Nat → Prop
 | _, [], bs => bs = []
 | i, r :: l, bs => ∃ b1 b2, bs = b1 ++ b2 ∧ RuAt w g (o + i * 7) r b1 ∧ RusAt w g o (i + 1) l b2
theorem RusAt.same {w w' : World} {g o : Nat} : ∀ (l : List Ru) (j : Nat) (bs : List Nat), RusAt w g o j l bs → (∀ m, m < o + (j + l.length) * 7 → w'.cell? ⟨g, m, none⟩ = w.cell? ⟨g, m, none⟩) → Keeps w w' bs → RusAt w' g o j l bs := by
 intro l
 induction l with
 | nil => intro j bs h _ _; exact h
 | cons e r ih =>
  intro j bs h hc hk
  obtain ⟨b1, b2, rfl, h1, h2⟩ := h
  simp only [lC] at hc
  exact ⟨b1, b2, rfl, h1.same (fun m hm1 hm2 => hc m (by omega)) ⟨hk.1, fun x hx => hk.2 x (List.mem_append_left _ hx)⟩,
   ih (j + 1) b2 h2 (fun m hm => hc m (by omega)) ⟨hk.1, fun x hx => hk.2 x (List.mem_append_right _ hx)⟩⟩
theorem RusAt.keeps {w w' : World} {g o : Nat} {l : List Ru} {j : Nat} {bs : List Nat} (h : RusAt w g o j l bs) (hg : g < w.heap.size) (hk : Keeps w w' (g :: bs)) : RusAt w' g o j l bs :=
 h.same l j bs (fun m _ => World.cell?_of_block (w := w) (a := ⟨g, m, none⟩) (hk.2 g (by simp) hg)) ⟨hk.1, fun x hx => hk.2 x (by simp [hx])⟩
theorem RusAt.get {w : World} {g o : Nat} : ∀ (l : List Ru) (j : Nat) (bs : List Nat), RusAt w g o j l bs → ∀ i e, l[i]? = some e → ∃ b1, RuAt w g (o + (j + i) * 7) e b1 ∧ ∀ x ∈ b1, x ∈ bs := by
 intro l
 induction l with
 | nil => intro j bs _ i e h; simp at h
 | cons x r ih =>
  intro j bs h i e he
  obtain ⟨b1, b2, rfl, h1, h2⟩ := h
  cases i with
  | zero =>
   simp at he
   subst he
   exact ⟨b1, h1, fun y hy => List.mem_append_left _ hy⟩
  | succ i =>
   obtain ⟨b3, h3, h4⟩ := ih (j + 1) b2 h2 i e (by simpa using he)
   exact ⟨b3, by rw [show j + (i + 1) = j + 1 + i by omega]; exact h3, fun y hy => List.mem_append_right _ (h4 y hy)⟩
def RsIs (w : World) (v : Value) (l : List Ru) (bs : List Nat) : Prop :=
 ∃ A c, v = .slice A l.length c ∧ l.length ≤ c ∧ c ≤ 9223372036854775807 ∧ ((l = [] ∧ bs = []) ∨ ∃ g' o' bs', A = some ⟨g', o', none⟩ ∧ g' < w.heap.size ∧ bs = g' :: bs' ∧ RusAt w g' o' 0 l bs')
def PrIs (w : World) (v : Value) (l : List Ru) (bs : List Nat) : Prop := ∃ u, v = .agg #[u] ∧ RsIs w u l bs
theorem RsIs.keeps {w w' : World} {v : Value} {l : List Ru} {bs : List Nat} (h : RsIs w v l bs) (hk : Keeps w w' bs) : RsIs w' v l bs := by
 obtain ⟨A, c, e, h1, h2, h4⟩ := h
 refine ⟨A, c, e, h1, h2, ?_⟩
 rcases h4 with h4 | ⟨g, o, bs', e1, h5, rfl, h6⟩
 · exact Or.inl h4
 exact Or.inr ⟨g, o, bs', e1, nL h5 hk.1, rfl, h6.keeps h5 hk⟩
theorem RsIs.below {w w' : World} {v : Value} {l : List Ru} {bs : List Nat} (h : RsIs w v l bs) (hb : Below w.heap.size w w') : RsIs w' v l bs := h.keeps (keeps_below hb bs)
theorem PrIs.keeps {w w' : World} {v : Value} {l : List Ru} {bs : List Nat} (h : PrIs w v l bs) (hk : Keeps w w' bs) : PrIs w' v l bs := by
 obtain ⟨u, e, h⟩ := h
 exact ⟨u, e, h.keeps hk⟩
theorem PrIs.below {w w' : World} {v : Value} {l : List Ru} {bs : List Nat} (h : PrIs w v l bs) (hb : Below w.heap.size w w') : PrIs w' v l bs := h.keeps (keeps_below hb bs)
theorem RsIs.len {w : World} {A : Option Addr} {n c : Nat} {l : List Ru} {bs : List Nat} (h : RsIs w (.slice A n c) l bs) : n = l.length ∧ n ≤ c ∧ c ≤ 9223372036854775807 := by
 obtain ⟨A', c', e, h1, h2, -⟩ := h
 cases e
 exact ⟨rfl, h1, h2⟩
structure RuleAt (w : World) (A : Option Addr) (l : List Ru) (k : Nat) (g o : Nat) (r : Ru) (v1 v2 u : Value) (b : List Nat) : Prop where
 eq : A = some ⟨g, o, none⟩
 lt : g < w.heap.size
 get : l[k]? = some r
 mem : r ∈ l
 cells : Cells7 w g (o + k * 7) (.string r.name) (.string r.con) v1 v2 (.int .i64 r.body.kind) (.string r.body.name) u
 is : RuIs w (.agg #[.string r.name, .string r.con, v1, v2, .int .i64 r.body.kind, .string r.body.name, u]) r b
theorem RsIs.get {w : World} {A : Option Addr} {n c : Nat} {l : List Ru} {bs : List Nat} (h : RsIs w (.slice A n c) l bs) (k : Nat) (hk : k < l.length) : ∃ g o r v1 v2 u b, RuleAt w A l k g o r v1 v2 u b := by
 obtain ⟨A', c', e, h1, h2, h4⟩ := h
 cases e
 rcases h4 with ⟨rfl, -⟩ | ⟨g, o, bs', rfl, h5, rfl, h6⟩
 · simp at hk
 have hg : l[k]? = some l[k] := List.getElem?_eq_getElem hk
 obtain ⟨b1, ⟨v1, v2, u, h7, h8⟩, -⟩ := h6.get l 0 bs' k _ hg
 rw [Nat.zero_add] at h7
 exact ⟨g, o, l[k], v1, v2, u, b1, rfl, h5, hg, List.getElem_mem hk, h7, h8⟩
theorem RuIs.parts {w : World} {r : Ru} {v1 v2 u : Value} {b : List Nat} (h : RuIs w (.agg #[.string r.name, .string r.con, v1, v2, .int .i64 r.body.kind, .string r.body.name, u]) r b) :
 ∃ b1 b2 b3, b = b1 ++ (b2 ++ b3) ∧ r.name.size ≤ 9223372036854775807 ∧ r.con.size ≤ 9223372036854775807 ∧ SsIs w v1 r.vars b1 ∧ SsIs w v2 r.params b2 ∧ ExIs w (.agg #[.int .i64 r.body.kind, .string r.body.name, u]) r.body b3 := by
 obtain ⟨x1, x2, x3, b1, b2, b3, e, h1, h2, h3, h4, h5, h6⟩ := h
 simp only [Value.agg.injEq, Array.mk.injEq, List.cons.injEq, and_true, true_and] at e
 obtain ⟨rfl, rfl, rfl⟩ := e
 exact ⟨b1, b2, b3, h3, h1, h2, h4, h5, h6⟩
def totN (l : List ByteArray) : Nat := (l.map (·.size)).sum
def ssTot (xs : List ByteArray) : Nat := xs.length + totN xs
def ruTot (r : Ru) : Nat := r.name.size + (r.con.size + (ssTot r.vars + (ssTot r.params + exTot r.body)))
def rusTot : List Ru → Nat
 | [] => 0
 | r :: l => ruTot r + 1 + rusTot l
theorem rusTot_ge : ∀ l : List Ru, l.length ≤ rusTot l := by
 intro l
 induction l with
 | nil => simp
 | cons e r ih => rw [rusTot, lC]; omega
theorem rusTot_app : ∀ (a b : List Ru), rusTot (a ++ b) = rusTot a + rusTot b := by
 intro a
 induction a with
 | nil => intro b; simp [rusTot]
 | cons x r ih => intro b; rw [List.cons_append, rusTot, rusTot, ih]; omega
theorem take_ru (l : List Ru) (k : Nat) (e : Ru) (h : l[k]? = some e) : l.take (k + 1) = l.take k ++ [e] := by
 obtain ⟨h1, h2⟩ := List.getElem?_eq_some_iff.1 h
 rw [List.take_succ_eq_append_getElem h1, h2]
theorem rusTot_mem : ∀ {l : List Ru} {e : Ru}, e ∈ l → ruTot e + 1 ≤ rusTot l := by
 intro l
 induction l with
 | nil => intro e h; cases h
 | cons x r ih =>
  intro e h
  rw [rusTot]
  rcases List.mem_cons.1 h with rfl | h
  · omega
  have := ih h; omega
def Box7 (W : World) (B : Nat) (T : TypeId) (x0 x1 x2 x3 x4 x5 x6 : Value) : Prop := W.heap[B]? = some (.cells #[x0, x1, x2, x3, x4, x5, x6] T (0, 0))
theorem Box7.cells {W : World} {B : Nat} {T : TypeId} {x0 x1 x2 x3 x4 x5 x6 : Value} (h : Box7 W B T x0 x1 x2 x3 x4 x5 x6) :
 W.cell? ⟨B, 0, none⟩ = some x0 ∧ W.cell? ⟨B, 1, none⟩ = some x1 ∧ W.cell? ⟨B, 2, none⟩ = some x2 ∧ W.cell? ⟨B, 3, none⟩ = some x3 ∧ W.cell? ⟨B, 4, none⟩ = some x4 ∧ W.cell? ⟨B, 5, none⟩ = some x5 ∧ W.cell? ⟨B, 6, none⟩ = some x6 := by
 unfold Box7 at h
 refine ⟨?_, ?_, ?_, ?_, ?_, ?_, ?_⟩ <;> (rw [World.cell?, h]; rfl)
theorem Box7.lt {W : World} {B : Nat} {T : TypeId} {x0 x1 x2 x3 x4 x5 x6 : Value} (h : Box7 W B T x0 x1 x2 x3 x4 x5 x6) : B < W.heap.size := (Array.getElem?_eq_some_iff.1 h).1
theorem Box7.thaw {W : World} {B : Nat} {T : TypeId} {x0 x1 x2 x3 x4 x5 x6 : Value} (h : Box7 W B T x0 x1 x2 x3 x4 x5 x6) (j : Nat) : W.frozen? ⟨B, j, none⟩ = false := by
 unfold Box7 at h
 simp [World.frozen?, h]
theorem box7_new {w W : World} {T : TypeId} {x0 x1 x2 x3 x4 x5 x6 : Value} (hb : Below (w.alloc (.cells #[x0, x1, x2, x3, x4, x5, x6] T)).heap.size (w.alloc (.cells #[x0, x1, x2, x3, x4, x5, x6] T)) W) : Box7 W w.heap.size T x0 x1 x2 x3 x4 x5 x6 :=
 (hb.block _ (by simp)).trans (by show (w.heap.push _)[w.heap.size]? = _; simp)
theorem box_low {w W : World} {o : Obj} (hb : Below (w.alloc o).heap.size (w.alloc o) W) : Below w.heap.size w W := ((wB w.heap.size w).alloc (nR _) o).trans (hb.mono (by simp))
end Go.Proofs.YtiaknfnhmoinpaaGreat
