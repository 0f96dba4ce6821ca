/- A part of the proof of the seat's statement: SpecNode. Condition: as each says. -/
import Derived.Test.YtiaknfnhmoinpaaGreatSpecArgs
set_option maxHeartbeats 8000000
namespace Go.Proofs.YtiaknfnhmoinpaaGreat
open Go Go.RowKit
def Bx (W : World) (B : Nat) (K : Int) (S : ByteArray) (u : Value) : Prop := W.heap[B]? = some (.cells #[.int .i64 K, .string S, u] 32 (0, 0))
theorem Bx.cells {W : World} {B : Nat} {K : Int} {S : ByteArray} {u : Value} (h : Bx W B K S u) : W.cell? ⟨B, 0, none⟩ = some (.int .i64 K) ∧ W.cell? ⟨B, 1, none⟩ = some (.string S) ∧ W.cell? ⟨B, 2, none⟩ = some u ∧ B < W.heap.size := by
 unfold Bx at h
 exact ⟨by simp [World.cell?, h], by simp [World.cell?, h], by simp [World.cell?, h], (Array.getElem?_eq_some_iff.1 h).1⟩
theorem Bx.thaw {W : World} {B : Nat} {K : Int} {S : ByteArray} {u : Value} (h : Bx W B K S u) (j : Nat) : W.frozen? ⟨B, j, none⟩ = false := by
 unfold Bx at h
 simp [World.frozen?, h]
theorem Bx.keep {W W2 : World} {B : Nat} {K : Int} {S : ByteArray} {u : Value} {T : List Nat} (h : Bx W B K S u) (hf : Fr T W W2) (hT : B ∉ T) : Bx W2 B K S u := (hf.block B h.cells.2.2.2 hT).trans h
theorem Bx.far {W : World} {B : Nat} {K : Int} {S : ByteArray} {u v : Value} {p : Addr} (h : Bx W B K S u) (hp : B ≠ p.block) : Bx (W.setCell p v) B K S u := (Below.heap_setCell W p v B hp).trans h
theorem Bx.set0 {W : World} {B : Nat} {K : Int} {S : ByteArray} {u : Value} (h : Bx W B K S u) (K2 : Int) : Bx (W.setCell ⟨B, 0, none⟩ (.int .i64 K2)) B K2 S u := by
 unfold Bx at h ⊢
 simp [World.setCell, Array.getElem?_modify, h]
theorem Bx.set1 {W : World} {B : Nat} {K : Int} {S : ByteArray} {u : Value} (h : Bx W B K S u) (S2 : ByteArray) : Bx (W.setCell ⟨B, 1, none⟩ (.string S2)) B K S2 u := by
 unfold Bx at h ⊢
 simp [World.setCell, Array.getElem?_modify, h]
theorem Bx.set2 {W : World} {B : Nat} {K : Int} {S : ByteArray} {u : Value} (h : Bx W B K S u) (u2 : Value) : Bx (W.setCell ⟨B, 2, none⟩ u2) B K S u2 := by
 unfold Bx at h ⊢
 simp [World.setCell, Array.getElem?_modify, h]
theorem Rd.far {w : World} {R : Nat} {s : ByteArray} {a : Nat} {b : Bool} {p : Addr} {v : Value} (h : Rd w R s a b) (hp : R ≠ p.block) : Rd (w.setCell p v) R s a b := (Below.heap_setCell w p v R hp).trans h
theorem leaf_isN (W : World) {K : Int} {S : ByteArray} (h : S.size ≤ 9223372036854775807) : ExIs W (.agg #[.int .i64 K, .string S, .slice none 0 0]) (.mk K S []) [] :=
 ⟨_, rfl, h, _, _, rfl, nR _, by omega, Or.inl ⟨rfl, rfl⟩⟩
def W0 (w : World) (R : Nat) (b : Bool) : World := (w.setCell ⟨R, 2, none⟩ (.bool b)).alloc (.cells #[.int .i64 0, .string ⟨#[]⟩, .slice none 0 0] 32)
theorem w0_facts {w : World} {R : Nat} {s : ByteArray} {a : Nat} {b0 : Bool} (h : Rd w R s a b0) (b : Bool) :
 Fr [R] w (W0 w R b) ∧ Rd (W0 w R b) R s a b ∧ Bx (W0 w R b) w.heap.size 0 ⟨#[]⟩ (.slice none 0 0) := by
 refine ⟨(Fr.set (S := [R]) w ⟨R, 2, none⟩ (.bool b) (by simp)).trans (Fr.alloc (S := [R]) _ _) (fun x hx => Or.inl hx), (h.turn b).keep (Fr.alloc (S := []) _ _), ?_⟩
 have := heap_alloc_new (w.setCell ⟨R, 2, none⟩ (.bool b)) (.cells #[.int .i64 0, .string ⟨#[]⟩, .slice none 0 0] 32)
 rw [show (w.setCell ⟨R, 2, none⟩ (.bool b)).heap.size = w.heap.size by simp [World.setCell]] at this
 exact this
theorem node_deep (R : Nat) (s : ByteArray) (a : Nat) (w : World) (h : Rd w R s a false) (ha : a ≤ s.size) :
 Calls Tryz.prog 107 #[.pointer (some ⟨R, 0, none⟩), .int .i64 25] w (NodePost 0 R s a w) := by
 have HW := zH (w0_facts h true)
 have c2 := h.cells.2.2.1
 have hf2 := h.thaw 2
 have hRw := h.cells.2.2.2
 obtain ⟨-, hr, hb⟩ := w0_facts h true
 have hr2 : (W0 w R true).cell? ⟨R, 2, none⟩ = some (.bool true) := hr.cells.2.2.1
 obtain ⟨e0, e1, e2, hBw⟩ := hb.cells
 have g0 := hb.thaw 0
 have g1 := hb.thaw 1
 have g2 := hb.thaw 2
 have HB := zH hb
 have HR := zH (h.turn true)
 clear h hr hb
 unfold W0 at hr2 e0 e1 e2 g0 g1 g2
 go_enter Tryz.func107, Tryz.ntmps107
 go_wp2_with fail
 refine bP (v := .agg #[.int .i64 4, .string ⟨#[]⟩, .slice none 0 0]) (by simp [results, Tryz.results107, go_sem]) rfl ?_
 have hf : Fr [R] w ((w.setCell ⟨R, 2, none⟩ (.bool true)).alloc (.cells #[.int .i64 4, .string ⟨#[]⟩, .slice none 0 0] 32)) := (Fr.set (S := [R]) w ⟨R, 2, none⟩ (.bool true) (by simp)).trans (Fr.alloc (S := [R]) _ _) (fun x hx => Or.inl hx)
 exact ⟨_, .mk 4 ⟨#[]⟩ [], [], a, true, rfl, leaf_isN _ (by decide), Mine.nil _ _, hf, HR.out.keep (Fr.alloc (S := []) _ _), nR _, ha, (by rw [exTot, exTots]; exact Nat.zero_le _), rfl⟩
theorem put3 {w W : World} {R B a : Nat} {s : ByteArray} {b : Bool} {K0 : Int} {S0 : ByteArray} {u0 : Value} (hf : Fr [R] w W) (hr : Rd W R s a b) (hb : Bx W B K0 S0 u0) (hB : w.heap.size ≤ B) (hR : R < w.heap.size) (K : Int) (S : ByteArray) (u : Value) :
 Fr [R] w (((W.setCell ⟨B, 0, none⟩ (.int .i64 K)).setCell ⟨B, 1, none⟩ (.string S)).setCell ⟨B, 2, none⟩ u) ∧ Rd (((W.setCell ⟨B, 0, none⟩ (.int .i64 K)).setCell ⟨B, 1, none⟩ (.string S)).setCell ⟨B, 2, none⟩ u) R s a b ∧ Bx (((W.setCell ⟨B, 0, none⟩ (.int .i64 K)).setCell ⟨B, 1, none⟩ (.string S)).setCell ⟨B, 2, none⟩ u) B K S u :=
 ⟨((hf.trans (Fr.set (S := [B]) _ ⟨B, 0, none⟩ _ (by simp)) (fun x hx => Or.inr (by simp at hx; omega))).trans (Fr.set (S := [B]) _ ⟨B, 1, none⟩ _ (by simp)) (fun x hx => Or.inr (by simp at hx; omega))).trans (Fr.set (S := [B]) _ ⟨B, 2, none⟩ _ (by simp)) (fun x hx => Or.inr (by simp at hx; omega)),
  ((hr.far (by show R ≠ B; omega)).far (by show R ≠ B; omega)).far (by show R ≠ B; omega), ((hb.set0 K).set1 S).set2 u⟩
theorem word_len (l : List UInt8) : (wordL l).length ≤ l.length := (List.takeWhile_sublist _).length_le
theorem got_plain {f a a1 : Nat} {s : ByteArray} {wl : List UInt8} (h33 : hd (rest s a) 33 = false) (hw : wordL (rest s a) = wl) (h1 : (rest s a).drop wl.length = rest s a1) (hp : hd (rest s a1) 40 = false) :
 Got (pNode (f + 1) (rest s a)) (.mk (kindW false wl) ⟨wl.toArray⟩ []) s a1 wl.isEmpty := by
 unfold Got
 rw [pNode, h33, hw, h1, hp]
 cases wl <;> simp
theorem got_parens {f a a1 a2 : Nat} {s : ByteArray} {wl : List UInt8} {l : List Ex} {b2 : Bool} (h33 : hd (rest s a) 33 = false) (hw : wordL (rest s a) = wl) (h1 : (rest s a).drop wl.length = rest s a1) (hp : hd (rest s a1) 40 = true) (hg : Got (pArgs (pNode f) (rest s (a1 + 1))) l s a2 b2) :
 Got (pNode (f + 1) (rest s a)) (.mk (kindW true wl) ⟨wl.toArray⟩ l) s a2 (b2 || wl.isEmpty) := by
 unfold Got at hg ⊢
 rw [pNode, h33, hw, h1, hp, rest_drop s a1 1, hg]
 cases b2 <;> cases wl <;> simp
theorem kind_plain {wl : List UInt8} {b : Bool} (h : nameL 97 122 wl = b) : kindW false wl = if b then 1 else 2 := by unfold kindW; rw [h]; rfl
theorem kind_parens {wl : List UInt8} {b : Bool} (h : nameL 97 122 wl = b) : kindW true wl = if b then 3 else 2 := by unfold kindW; rw [h]; rfl
theorem name_not_nil {wl : List UInt8} (h : nameL 97 122 wl = true) : wl ≠ [] := fun e => by subst e; cases h
theorem end_plain {f R a a1 : Nat} {s S : ByteArray} {wl : List UInt8} {w w3 : World} {K0 : Int} {S0 : ByteArray} {u0 : Value} (hR : R < w.heap.size) (hs : s.size ≤ 1048576) (ha1 : a1 = a + wl.length) (h1 : a1 ≤ s.size) (hS : S = ⟨wl.toArray⟩)
 (hf : Fr [R] w w3) (hr : Rd w3 R s a1 false) (hb : Bx w3 w.heap.size K0 S0 u0) (hg : Got (pNode (f + 1) (rest s a)) (.mk (kindW false wl) ⟨wl.toArray⟩ []) s a1 wl.isEmpty) (K : Int) (hK : kindW false wl = K) (b : Bool) (hb2 : wl.isEmpty = b) (W : World)
 (hW : W = ((((w3.setCell ⟨R, 2, none⟩ (.bool b)).setCell ⟨w.heap.size, 0, none⟩ (.int .i64 K)).setCell ⟨w.heap.size, 1, none⟩ (.string S)).setCell ⟨w.heap.size, 2, none⟩ (.slice none 0 0)).alloc (.cells #[.int .i64 K, .string S, .slice none 0 0] 32)) :
 NodePost (f + 1) R s a w (.returned (.agg #[.int .i64 K, .string S, .slice none 0 0])) W ∧ Bx W w.heap.size K S (.slice none 0 0) := by
 obtain ⟨z1, z2, z3⟩ := put3 (w := w) (B := w.heap.size) (hf.trans (Fr.set (S := [R]) w3 ⟨R, 2, none⟩ (.bool b) (by simp)) (fun x hx => Or.inl hx)) (hr.turn b) (hb.far (by show w.heap.size ≠ R; omega)) (nR _) hR K S (.slice none 0 0)
 have hSs : S.size = wl.length := by rw [hS]; show (List.toArray _).size = _; simp
 rw [hK, hb2, ← hS] at hg
 rw [hW]
 refine ⟨⟨_, .mk K S [], [], a1, b, rfl, leaf_isN _ (by omega), Mine.nil _ _, z1.trans (Fr.alloc (S := []) _ _) (by simp), z2.keep (Fr.alloc (S := []) _ _), by omega, h1, ?_, hg⟩, z3.keep (Fr.alloc (S := []) _ _) (by simp)⟩
 rw [exTot, exTots]
 omega
theorem end_parens {f R B1 C a a1 a2 : Nat} {s S : ByteArray} {wl : List UInt8} {l : List Ex} {b5 : List Nat} {A5 : Option Addr} {q c5 : Nat} {b2 : Bool} {w w5 V : World} {K0 : Int} {S0 : ByteArray} {u0 : Value} (hR : R < w.heap.size) (hs : s.size ≤ 1048576) (ha1 : a1 = a + wl.length) (hS : S = ⟨wl.toArray⟩) (h1 : w.heap.size < B1) (hC : B1 < C)
 (hf : Fr [R] w w5) (hr : Rd w5 R s a2 b2) (hb : Bx w5 w.heap.size K0 S0 u0) (hV : Fr [B1] w5 V) (h5 : SlIs w5 (.slice A5 q c5) l b5 ∧ Mine w5 C b5 ∧ a1 + 1 ≤ a2 ∧ a2 ≤ s.size ∧ exTots l ≤ a2 - (a1 + 1) + 1 ∧ Got (pArgs (pNode f) (rest s (a1 + 1))) l s a2 b2)
 (hg : Got (pNode (f + 1) (rest s a)) (.mk (kindW true wl) ⟨wl.toArray⟩ l) s a2 (b2 || wl.isEmpty)) (K : Int) (hK : kindW true wl = K) (b : Bool) (hb2 : (b2 || wl.isEmpty) = b) (W : World)
 (hW : W = (((V.setCell ⟨R, 2, none⟩ (.bool b)).setCell ⟨w.heap.size, 0, none⟩ (.int .i64 K)).setCell ⟨w.heap.size, 1, none⟩ (.string S)).setCell ⟨w.heap.size, 2, none⟩ (.slice A5 q c5)) :
 ∃ W2, W2 = W ∧ NodePost (f + 1) R s a w (.returned (.agg #[.int .i64 K, .string S, .slice A5 q c5])) W2 ∧ Bx W2 w.heap.size K S (.slice A5 q c5) := by
 refine ⟨W, rfl, ?_⟩
 obtain ⟨hsl, hm, hle, hhi, htot, -⟩ := h5
 have hrV : Rd V R s a2 b2 := (hV.block R hr.cells.2.2.2 (by simp; omega)).trans hr
 have hbV : Bx V w.heap.size K0 S0 u0 := hb.keep hV (by simp; omega)
 have hfV : Fr [R] w V := hf.trans hV (fun x hx => Or.inr (by simp at hx; omega))
 obtain ⟨z1, z2, z3⟩ := put3 (w := w) (B := w.heap.size) (hfV.trans (Fr.set (S := [R]) V ⟨R, 2, none⟩ (.bool b) (by simp)) (fun x hx => Or.inl hx)) (hrV.turn b) (hbV.far (by show w.heap.size ≠ R; omega)) (nR _) hR K S (.slice A5 q c5)
 have hk : Fr [B1, R, w.heap.size] w5 W := by
  rw [hW]
  refine ((((hV.mono (T := [B1, R, w.heap.size]) (fun x hx => Or.inl (by simp at hx ⊢; omega))).trans (Fr.set (S := [B1, R, w.heap.size]) V ⟨R, 2, none⟩ (.bool b) (by simp)) (fun x hx => Or.inl hx)).trans (Fr.set (S := [B1, R, w.heap.size]) _ ⟨w.heap.size, 0, none⟩ _ (by simp)) (fun x hx => Or.inl hx)).trans (Fr.set (S := [B1, R, w.heap.size]) _ ⟨w.heap.size, 1, none⟩ _ (by simp)) (fun x hx => Or.inl hx)).trans (Fr.set (S := [B1, R, w.heap.size]) _ ⟨w.heap.size, 2, none⟩ _ (by simp)) (fun x hx => Or.inl hx)
 have hkeep : Keeps w5 W b5 := ⟨hk.size, fun x hx hlt => hk.block x hlt (by have := (hm.range x hx).1; simp; omega)⟩
 have hSs : S.size = wl.length := by rw [hS]; show (List.toArray _).size = _; simp
 rw [hK, hb2, ← hS] at hg
 rw [hW] at hkeep ⊢
 refine ⟨⟨_, .mk K S l, b5, a2, b, rfl, ⟨_, rfl, by show S.size ≤ _; omega, hsl.keeps hkeep⟩, (hm.keeps hkeep).mono (by omega), z1, z2, by omega, hhi, ?_, hg⟩, z3⟩
 rw [exTot]
 omega
theorem node_step (f R : Nat) (s : ByteArray) (d : Nat) (hs : s.size ≤ 1048576) (hd0 : 1 ≤ d) (hd1 : d ≤ 24)
 (ih : ∀ (a : Nat) (w : World), Rd w R s a false → a ≤ s.size → Calls Tryz.prog 112 #[.pointer (some ⟨R, 0, none⟩), .int .i64 ((d : Int) + 1)] w (ArgsPost f R s a w))
 (a : Nat) (w : World) (h : Rd w R s a false) (ha : a ≤ s.size) :
 Calls Tryz.prog 107 #[.pointer (some ⟨R, 0, none⟩), .int .i64 (d : Int)] w (NodePost (f + 1) R s a w) := by
 have HIH := zH ih
 have HD := zH (aI hd0 hd1)
 have c2 := h.cells.2.2.1
 have hf2 := h.thaw 2
 have hRw := h.cells.2.2.2
 obtain ⟨hf, hr, hb⟩ := w0_facts h false
 have hr2 : (W0 w R false).cell? ⟨R, 2, none⟩ = some (.bool false) := hr.cells.2.2.1
 have HB := zH hb
 have HR := zH hr
 have HF := zH hf
 have HT := zH (take_any R s a false 33 _ hr ha hs)
 have hdd : decide (24 < (d : Int)) = false := by simp; omega
 have hdi : (d : Int) ≤ 24 := by omega
 have hdw : IntKind.i64.wrap ((d : Int) + 1) = (d : Int) + 1 := IntWalk.i64_in _ (by omega)
 clear h hr hb hf ih hd0 hd1
 unfold W0 at hr2
 go_enter Tryz.func107, Tryz.ntmps107
 go_wp2_with fail
 go_at_call 110
 refine HT.out.mono ?_
 rintro r w1 ⟨rfl, hf1, hr1⟩
 rw [Bool.not_false, Bool.true_and, isAt_hd] at *
 have HF1 := zH (HF.out.trans hf1 (fun x hx => Or.inl hx))
 have hb1 := HB.out.keep hf1 (by simp; omega)
 obtain ⟨e0, e1, e2, hBw⟩ := hb1.cells
 have g0 := hb1.thaw 0
 have g1 := hb1.thaw 1
 have g2 := hb1.thaw 2
 have HB1 := zH hb1
 clear hb1 hf1 HB HR HT HF hr2 c2 hf2
 cases h33 : hd (rest s a) 33
 · rw [h33] at hr1
   have HR1 := zH (show Rd w1 R s a false from hr1)
   have H33 := zH h33
   clear hr1 h33
   have HW := zH (word_any R s a false w1 HR1.out ha hs)
   go_wp2_with fail
   go_at_call 111
   refine HW.out.mono ?_
   rintro r w2 ⟨rfl, hf2, hr2⟩
   obtain ⟨wl, hwl⟩ : ∃ wl, wl = wordL (s.data.toList.drop a) := ⟨_, rfl⟩
   rw [← hwl] at hr2 ⊢
   have hwl2 : wl.length ≤ s.size - a := by rw [hwl, ← rest_len]; exact word_len _
   have HWL := zH (show wordL (rest s a) = wl from hwl.symm)
   obtain ⟨S, hS⟩ : ∃ S : ByteArray, S = ⟨wl.toArray⟩ := ⟨_, rfl⟩
   rw [← hS]
   have hSs : S.size = wl.length := by rw [hS]; show (List.toArray _).size = _; simp
   obtain ⟨a1, ha1⟩ : ∃ a1, a1 = a + wl.length := ⟨_, rfl⟩
   rw [← ha1] at hr2
   have HA1 := zH (show (rest s a).drop wl.length = rest s a1 by rw [rest_drop, ha1])
   have ha1s : a1 ≤ s.size := by omega
   have HT2 := zH (take_any R s a1 false 40 w2 hr2 ha1s hs)
   have HF2 := zH (HF1.out.trans hf2 (fun x hx => Or.inl hx))
   have HB2 := zH (HB1.out.keep hf2 (by simp; omega))
   have HN := zH (fun (W : World) => isname_any S W (by omega))
   have HNL := zH (show nameL 97 122 S.data.toList = nameL 97 122 wl by rw [hS])
   have HSS := zH hS
   clear e0 e1 e2 hBw g0 g1 g2 hf2 hr2 HW HB1 HF1 HR1 hwl hS
   rw [HNL.out] at HN
   go_wp2_with fail
   go_at_call 110
   refine HT2.out.mono ?_
   rintro r w3 ⟨rfl, hf3, hr3⟩
   rw [Bool.not_false, Bool.true_and, isAt_hd] at *
   have HF3 := zH (HF2.out.trans hf3 (fun x hx => Or.inl hx))
   have hb3 := HB2.out.keep hf3 (by simp; omega)
   obtain ⟨e0, e1, e2, hBw⟩ := hb3.cells
   have g0 := hb3.thaw 0
   have g1 := hb3.thaw 1
   have g2 := hb3.thaw 2
   have HB3 := zH hb3
   clear hb3 hf3 HB2 HT2 HF2
   have hne : R ≠ w.heap.size := by omega
   cases hp : hd (rest s a1) 40
   · rw [hp] at hr3
     have HR3 := zH (show Rd w3 R s a1 false from hr3)
     obtain ⟨-, -, c2, hRl⟩ := HR3.out.cells
     have f2 := HR3.out.thaw 2
     have HP := zH hp
     clear hr3 hp
     cases hn : nameL 97 122 wl
     · have HNM := zH hn
       rw [hn] at HN
       clear hn
       cases hem : wl.isEmpty
       · have HEM := zH hem
         have hE1 : (S.toList == []) = false := by rw [ByteArray.toList_eq, HSS.out]; cases wl <;> simp_all
         clear hem
         go_wp2_with (first | (go_at_call 75; refine (HN.out _).mono ?_; rintro r w' ⟨rfl, rfl⟩) | (go_at_call 45; refine (bit_any false _).mono ?_; rintro r w' ⟨z0, rfl, rfl, -, -, hz0⟩; obtain rfl : z0 = 0 := hz0))
         obtain ⟨hpost, hbx⟩ := end_plain (f := f) (a := a) hRw hs ha1 ha1s HSS.out HF3.out HR3.out HB3.out (got_plain H33.out HWL.out HA1.out HP.out) 2 (kind_plain HNM.out) false HEM.out _ rfl
         obtain ⟨y0, y1, y2, -⟩ := hbx.cells
         refine bP (v := .agg #[.int .i64 2, .string S, .slice none 0 0]) (by simp [results, Tryz.results107, go_sem, y0, y1, y2]) rfl ?_
         exact hpost
       have HEM := zH hem
       have hE1 : (S.toList == []) = true := by rw [ByteArray.toList_eq, HSS.out]; cases wl <;> simp_all
       clear hem
       go_wp2_with (first | (go_at_call 75; refine (HN.out _).mono ?_; rintro r w' ⟨rfl, rfl⟩) | (go_at_call 45; refine (bit_any false _).mono ?_; rintro r w' ⟨z0, rfl, rfl, -, -, hz0⟩; obtain rfl : z0 = 0 := hz0))
       obtain ⟨hpost, hbx⟩ := end_plain (f := f) (a := a) hRw hs ha1 ha1s HSS.out HF3.out HR3.out HB3.out (got_plain H33.out HWL.out HA1.out HP.out) 2 (kind_plain HNM.out) true HEM.out _ rfl
       obtain ⟨y0, y1, y2, -⟩ := hbx.cells
       refine bP (v := .agg #[.int .i64 2, .string S, .slice none 0 0]) (by simp [results, Tryz.results107, go_sem, y0, y1, y2]) rfl ?_
       exact hpost
     have HNM := zH hn
     have hem : wl.isEmpty = false := by have := name_not_nil hn; cases wl <;> simp_all
     rw [hn] at HN
     have HEM := zH hem
     have hE1 : (S.toList == []) = false := by rw [ByteArray.toList_eq, HSS.out]; cases wl <;> simp_all
     clear hem hn
     go_wp2_with (first | (go_at_call 75; refine (HN.out _).mono ?_; rintro r w' ⟨rfl, rfl⟩) | (go_at_call 45; refine (bit_any false _).mono ?_; rintro r w' ⟨z0, rfl, rfl, -, -, hz0⟩; obtain rfl : z0 = 0 := hz0))
     obtain ⟨hpost, hbx⟩ := end_plain (f := f) (a := a) hRw hs ha1 ha1s HSS.out HF3.out HR3.out HB3.out (got_plain H33.out HWL.out HA1.out HP.out) 1 (kind_plain HNM.out) false HEM.out _ rfl
     obtain ⟨y0, y1, y2, -⟩ := hbx.cells
     refine bP (v := .agg #[.int .i64 1, .string S, .slice none 0 0]) (by simp [results, Tryz.results107, go_sem, y0, y1, y2]) rfl ?_
     exact hpost
   rw [hp] at hr3
   have HR3 := zH (show Rd w3 R s (a1 + 1) false from hr3)
   have HP := zH hp
   have hlt : a1 + 1 ≤ s.size := by
    apply Decidable.byContradiction
    intro hh
    have : rest s a1 = [] := List.eq_nil_of_length_eq_zero (by rw [rest_len]; omega)
    rw [this] at hp
    cases hp
   have HF4 := zH (show Fr [R] w (w3.alloc (.cells #[.int .i64 2, .string S, .slice none 0 0] 32)) from HF3.out.trans (Fr.alloc (S := [R]) _ _) (fun x hx => Or.inl hx))
   have HB4 := zH (HB3.out.keep (Fr.alloc (S := []) w3 (.cells #[.int .i64 2, .string S, .slice none 0 0] 32)) (by simp))
   have HC4 := zH (show Bx (w3.alloc (.cells #[.int .i64 2, .string S, .slice none 0 0] 32)) w3.heap.size 2 S (.slice none 0 0) from heap_alloc_new _ _)
   have HCALL := zH (HIH.out (a1 + 1) _ (HR3.out.keep (Fr.alloc (S := []) w3 (.cells #[.int .i64 2, .string S, .slice none 0 0] 32))) hlt)
   clear hr3 hp e0 e1 e2 g0 g1 g2 HR3 HF3 HB3 HIH
   go_wp2_with fail
   go_at_call 112
   refine HCALL.out.mono ?_
   rintro r w5 ⟨v5, l, b5, a2, b2, rfl, hsl, hm5, hf5, hr5, hle, hhi, htot, hg5⟩
   obtain ⟨A5, c5, rfl, -⟩ := id hsl
   obtain ⟨q, hq⟩ : ∃ q, q = l.length := ⟨_, rfl⟩
   rw [← hq] at hsl ⊢
   have HF5 := zH (HF4.out.trans hf5 (fun x hx => Or.inl hx))
   have hne1 : R ≠ w3.heap.size := by omega
   have hne2 : w.heap.size ≠ w3.heap.size := by omega
   have hb5 := HB4.out.keep hf5 (by simp; omega)
   have hc5 := HC4.out.keep hf5 (by simp; omega)
   obtain ⟨e0, e1, e2, hBw5⟩ := hb5.cells
   have g0 := hb5.thaw 0
   have g1 := hb5.thaw 1
   have g2 := hb5.thaw 2
   obtain ⟨k0, k1, k2, hBx5⟩ := hc5.cells
   have l0 := hc5.thaw 0
   have l1 := hc5.thaw 1
   have l2 := hc5.thaw 2
   obtain ⟨-, -, c2, hRl⟩ := hr5.cells
   have f2 := hr5.thaw 2
   have HB5 := zH hb5
   have HC5 := zH hc5
   have HR5 := zH hr5
   have HS5 := zH (aI hsl (aI hm5 (aI hle (aI hhi (aI htot hg5)))))
   clear hb5 hc5 hr5 hf5 hsl hm5 hle hhi htot hg5 HF4 HB4 HC4 HCALL hq
   cases b2
   · cases hn : nameL 97 122 wl
     · have HNM := zH hn
       rw [hn] at HN
       clear hn
       cases hem : wl.isEmpty
       · have HEM := zH hem
         have hE1 : (S.toList == []) = false := by rw [ByteArray.toList_eq, HSS.out]; cases wl <;> simp_all
         clear hem
         go_wp2_with (first | (go_at_call 75; refine (HN.out _).mono ?_; rintro r w' ⟨rfl, rfl⟩) | (go_at_call 45; refine (bit_any true _).mono ?_; rintro r w' ⟨z0, rfl, rfl, -, -, hz0⟩; obtain rfl : z0 = 1 := hz0))
         obtain ⟨W2, hW2, hpost, hbx⟩ := end_parens (f := f) (a := a) (B1 := w3.heap.size) (C := (w3.alloc (.cells #[.int .i64 2, .string S, .slice none 0 0] 32)).heap.size) hRw hs ha1 HSS.out hBw (by simp) HF5.out HR5.out HB5.out (Fr.set (S := [w3.heap.size]) w5 ⟨w3.heap.size, 2, none⟩ (.slice A5 q c5) (by simp)) HS5.out (got_parens H33.out HWL.out HA1.out HP.out HS5.out.2.2.2.2.2) 2 (kind_parens HNM.out) false HEM.out _ rfl
         rw [← hW2]
         obtain ⟨y0, y1, y2, -⟩ := hbx.cells
         refine bP (v := .agg #[.int .i64 2, .string S, .slice A5 q c5]) (by simp [results, Tryz.results107, go_sem, y0, y1, y2]) rfl ?_
         exact hpost
       have HEM := zH hem
       have hE1 : (S.toList == []) = true := by rw [ByteArray.toList_eq, HSS.out]; cases wl <;> simp_all
       clear hem
       go_wp2_with (first | (go_at_call 75; refine (HN.out _).mono ?_; rintro r w' ⟨rfl, rfl⟩) | (go_at_call 45; refine (bit_any true _).mono ?_; rintro r w' ⟨z0, rfl, rfl, -, -, hz0⟩; obtain rfl : z0 = 1 := hz0))
       obtain ⟨W2, hW2, hpost, hbx⟩ := end_parens (f := f) (a := a) (B1 := w3.heap.size) (C := (w3.alloc (.cells #[.int .i64 2, .string S, .slice none 0 0] 32)).heap.size) hRw hs ha1 HSS.out hBw (by simp) HF5.out HR5.out HB5.out (Fr.set (S := [w3.heap.size]) w5 ⟨w3.heap.size, 2, none⟩ (.slice A5 q c5) (by simp)) HS5.out (got_parens H33.out HWL.out HA1.out HP.out HS5.out.2.2.2.2.2) 2 (kind_parens HNM.out) true HEM.out _ rfl
       rw [← hW2]
       obtain ⟨y0, y1, y2, -⟩ := hbx.cells
       refine bP (v := .agg #[.int .i64 2, .string S, .slice A5 q c5]) (by simp [results, Tryz.results107, go_sem, y0, y1, y2]) rfl ?_
       exact hpost
     have HNM := zH hn
     have hem : wl.isEmpty = false := by have := name_not_nil hn; cases wl <;> simp_all
     rw [hn] at HN
     have HEM := zH hem
     have hE1 : (S.toList == []) = false := by rw [ByteArray.toList_eq, HSS.out]; cases wl <;> simp_all
     clear hem hn
     go_wp2_with (first | (go_at_call 75; refine (HN.out _).mono ?_; rintro r w' ⟨rfl, rfl⟩) | (go_at_call 45; refine (bit_any true _).mono ?_; rintro r w' ⟨z0, rfl, rfl, -, -, hz0⟩; obtain rfl : z0 = 1 := hz0))
     obtain ⟨W2, hW2, hpost, hbx⟩ := end_parens (f := f) (a := a) (B1 := w3.heap.size) (C := (w3.alloc (.cells #[.int .i64 2, .string S, .slice none 0 0] 32)).heap.size) hRw hs ha1 HSS.out hBw (by simp) HF5.out HR5.out HB5.out ((Fr.set (S := [w3.heap.size]) w5 ⟨w3.heap.size, 2, none⟩ (.slice A5 q c5) (by simp)).trans (Fr.set (S := [w3.heap.size]) _ ⟨w3.heap.size, 0, none⟩ (.int .i64 3) (by simp)) (fun x hx => Or.inl hx)) HS5.out (got_parens H33.out HWL.out HA1.out HP.out HS5.out.2.2.2.2.2) 3 (kind_parens HNM.out) false HEM.out _ rfl
     rw [← hW2]
     obtain ⟨y0, y1, y2, -⟩ := hbx.cells
     refine bP (v := .agg #[.int .i64 3, .string S, .slice A5 q c5]) (by simp [results, Tryz.results107, go_sem, y0, y1, y2]) rfl ?_
     exact hpost
   cases hn : nameL 97 122 wl
   · have HNM := zH hn
     rw [hn] at HN
     clear hn
     go_wp2_with (first | (go_at_call 75; refine (HN.out _).mono ?_; rintro r w' ⟨rfl, rfl⟩) | (go_at_call 45; refine (bit_any true _).mono ?_; rintro r w' ⟨z0, rfl, rfl, -, -, hz0⟩; obtain rfl : z0 = 1 := hz0))
     obtain ⟨W2, hW2, hpost, hbx⟩ := end_parens (f := f) (a := a) (B1 := w3.heap.size) (C := (w3.alloc (.cells #[.int .i64 2, .string S, .slice none 0 0] 32)).heap.size) hRw hs ha1 HSS.out hBw (by simp) HF5.out HR5.out HB5.out (Fr.set (S := [w3.heap.size]) w5 ⟨w3.heap.size, 2, none⟩ (.slice A5 q c5) (by simp)) HS5.out (got_parens H33.out HWL.out HA1.out HP.out HS5.out.2.2.2.2.2) 2 (kind_parens HNM.out) true rfl _ rfl
     rw [← hW2]
     obtain ⟨y0, y1, y2, -⟩ := hbx.cells
     refine bP (v := .agg #[.int .i64 2, .string S, .slice A5 q c5]) (by simp [results, Tryz.results107, go_sem, y0, y1, y2]) rfl ?_
     exact hpost
   have HNM := zH hn
   rw [hn] at HN
   clear hn
   go_wp2_with (first | (go_at_call 75; refine (HN.out _).mono ?_; rintro r w' ⟨rfl, rfl⟩) | (go_at_call 45; refine (bit_any true _).mono ?_; rintro r w' ⟨z0, rfl, rfl, -, -, hz0⟩; obtain rfl : z0 = 1 := hz0))
   obtain ⟨W2, hW2, hpost, hbx⟩ := end_parens (f := f) (a := a) (B1 := w3.heap.size) (C := (w3.alloc (.cells #[.int .i64 2, .string S, .slice none 0 0] 32)).heap.size) hRw hs ha1 HSS.out hBw (by simp) HF5.out HR5.out HB5.out ((Fr.set (S := [w3.heap.size]) w5 ⟨w3.heap.size, 2, none⟩ (.slice A5 q c5) (by simp)).trans (Fr.set (S := [w3.heap.size]) _ ⟨w3.heap.size, 0, none⟩ (.int .i64 3) (by simp)) (fun x hx => Or.inl hx)) HS5.out (got_parens H33.out HWL.out HA1.out HP.out HS5.out.2.2.2.2.2) 3 (kind_parens HNM.out) true rfl _ rfl
   rw [← hW2]
   obtain ⟨y0, y1, y2, -⟩ := hbx.cells
   refine bP (v := .agg #[.int .i64 3, .string S, .slice A5 q c5]) (by simp [results, Tryz.results107, go_sem, y0, y1, y2]) rfl ?_
   exact hpost
 rw [h33] at hr1
 have HR1 := zH (show Rd w1 R s (a + 1) false from hr1)
 have HG := zH (show Got (pNode (f + 1) (rest s a)) (.mk 4 ⟨#[]⟩ []) s (a + 1) false by unfold Got; rw [pNode, h33, ← rest_drop]; rfl)
 have hlt : a + 1 ≤ s.size := by
  apply Decidable.byContradiction
  intro hh
  have : rest s a = [] := List.eq_nil_of_length_eq_zero (by rw [rest_len]; omega)
  rw [this] at h33
  cases h33
 clear hr1 h33
 go_wp2_with fail
 obtain ⟨z1, z2, z3⟩ := put3 HF1.out HR1.out HB1.out (nR _) hRw 4 ⟨#[]⟩ (.slice none 0 0)
 obtain ⟨y0, y1, y2, -⟩ := z3.cells
 refine bP (v := .agg #[.int .i64 4, .string ⟨#[]⟩, .slice none 0 0]) (by simp [results, Tryz.results107, go_sem, y0, y1, y2]) rfl ?_
 exact ⟨_, .mk 4 ⟨#[]⟩ [], [], a + 1, false, rfl, leaf_isN _ (by decide), Mine.nil _ _, z1, z2, by omega, hlt, (by rw [exTot, exTots]; exact Nat.zero_le _), HG.out⟩
end Go.Proofs.YtiaknfnhmoinpaaGreat
