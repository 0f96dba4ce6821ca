/- A part of the proof of the seat's statement: SpecArgs. Condition: as each says. -/
import Derived.Test.YtiaknfnhmoinpaaGreatSpecSizes
import Derived.Test.YtiaknfnhmoinpaaGreatKids
set_option maxHeartbeats 8000000
namespace Go.Proofs.YtiaknfnhmoinpaaGreat
open Go Go.RowKit
def hd (l : List UInt8) (c : UInt8) : Bool := l.head? == some c
def rest (s : ByteArray) (a : Nat) : List UInt8 := s.data.toList.drop a
theorem isAt_hd (s : ByteArray) (a : Nat) (c : UInt8) : isAt s a c = hd (rest s a) c := by
 unfold isAt hd rest
 rw [List.head?_drop]
theorem rest_drop (s : ByteArray) (a k : Nat) : (rest s a).drop k = rest s (a + k) := by unfold rest; rw [List.drop_drop]
theorem rest_len (s : ByteArray) (a : Nat) : (rest s a).length = s.size - a := by unfold rest; rw [List.length_drop, sizeN]
def kindW (p : Bool) (w : List UInt8) : Int := if nameL 97 122 w then (if p then 3 else 1) else 2
def pList (pN : List UInt8 → Option (Ex × List UInt8)) : Nat → List UInt8 → Option (List Ex × List UInt8)
 | 0, _ => none
 | n + 1, l => match pN l with
  | none => none
  | some (e, r) => if hd r 44 then (pList pN n (r.drop 1)).map (fun x => (e :: x.1, x.2)) else if hd r 41 then some ([e], r.drop 1) else none
def pArgs (pN : List UInt8 → Option (Ex × List UInt8)) (l : List UInt8) : Option (List Ex × List UInt8) := if hd l 41 then some ([], l.drop 1) else pList pN (l.length + 1) l
def pNode : Nat → List UInt8 → Option (Ex × List UInt8)
 | 0, _ => none
 | f + 1, l =>
  if hd l 33 then some (.mk 4 ⟨#[]⟩ [], l.drop 1)
  else if hd (l.drop (wordL l).length) 40 then
   match pArgs (pNode f) ((l.drop (wordL l).length).drop 1) with
   | none => none
   | some (xs, r) => if wordL l = [] then none else some (.mk (kindW true (wordL l)) ⟨(wordL l).toArray⟩ xs, r)
  else if wordL l = [] then none else some (.mk (kindW false (wordL l)) ⟨(wordL l).toArray⟩ [], l.drop (wordL l).length)
def Pin (pN : List UInt8 → Option (Ex × List UInt8)) (N : Nat) (l0 : List UInt8) (out : List Ex) (n : Nat) (l : List UInt8) : Prop :=
 pList pN N l0 = (pList pN n l).map (fun x => (out ++ x.1, x.2))
section
variable {pN : List UInt8 → Option (Ex × List UInt8)} {N n : Nat} {l0 l r : List UInt8} {out : List Ex} {e : Ex}
theorem Pin.start : Pin pN N l0 [] N l0 := by
 unfold Pin
 simp
theorem Pin.none_ (h : Pin pN N l0 out n l) (h1 : pN l = none) : pList pN N l0 = none := by
 unfold Pin at h
 rw [h]
 cases n with
 | zero => rfl
 | succ n => rw [pList, h1]; rfl
theorem Pin.comma (h : Pin pN N l0 out (n + 1) l) (h1 : pN l = some (e, r)) (h2 : hd r 44 = true) : Pin pN N l0 (out ++ [e]) n (r.drop 1) := by
 unfold Pin at h ⊢
 rw [h, pList, h1]
 simp only [h2, if_true, Option.map_map]
 congr 1
 funext x
 simp
theorem Pin.paren (h : Pin pN N l0 out (n + 1) l) (h1 : pN l = some (e, r)) (h2 : hd r 44 = false) (h3 : hd r 41 = true) : pList pN N l0 = some (out ++ [e], r.drop 1) := by
 unfold Pin at h
 rw [h, pList, h1]
 simp [h2, h3]
theorem Pin.stop (h : Pin pN N l0 out (n + 1) l) (h1 : pN l = some (e, r)) (h2 : hd r 44 = false) (h3 : hd r 41 = false) : pList pN N l0 = none := by
 unfold Pin at h
 rw [h, pList, h1]
 simp [h2, h3]
end
def Got {α : Type} (o : Option (α × List UInt8)) (x : α) (s : ByteArray) (a : Nat) (b : Bool) : Prop := o = if b then none else some (x, rest s a)
def NodePost (f R : Nat) (s : ByteArray) (a : Nat) (w : World) (r : Ending) (w2 : World) : Prop :=
 ∃ v e bs a2 b2, r = .returned v ∧ ExIs w2 v e bs ∧ Mine w2 w.heap.size bs ∧ Fr [R] w w2 ∧ Rd w2 R s a2 b2 ∧ a ≤ a2 ∧ a2 ≤ s.size ∧ exTot e ≤ a2 - a ∧ Got (pNode f (rest s a)) e s a2 b2
def ArgsPost (f R : Nat) (s : ByteArray) (a : Nat) (w : World) (r : Ending) (w2 : World) : Prop :=
 ∃ v l bs a2 b2, r = .returned v ∧ SlIs w2 v l bs ∧ Mine w2 w.heap.size bs ∧ Fr [R] w w2 ∧ Rd w2 R s a2 b2 ∧ a ≤ a2 ∧ a2 ≤ s.size ∧ exTots l ≤ a2 - a + 1 ∧ Got (pArgs (pNode f) (rest s a)) l s a2 b2
structure Al4 (f R : Nat) (s : ByteArray) (a0 : Nat) (w : World) (v : Value) (out : List Ex) (bs : List Nat) (a : Nat) (W : World) : Prop where
 kids : Kids w.heap.size W v out bs
 rd : Rd W R s a false
 fr : Fr [R] w W
 lo : a0 ≤ a
 hi : a ≤ s.size
 tot : exTots out ≤ a - a0
 pin : ∃ n, s.size - a < n ∧ Pin (pNode f) (s.size - a0 + 1) (rest s a0) out n (rest s a)
theorem size_kids {l : List Ex} : l.length ≤ exTots l := tots_ge l
theorem tots_app : ∀ (a b : List Ex), exTots (a ++ b) = exTots a + exTots b := by
 intro a
 induction a with
 | nil => intro b; simp [exTots]
 | cons x r ih => intro b; rw [List.cons_append, exTots, exTots, ih]; omega
structure Al5 (f R : Nat) (s : ByteArray) (a0 : Nat) (w : World) (v : Value) (out : List Ex) (e : Ex) (bs : List Nat) (a a2 : Nat) (b2 : Bool) (W : World) : Prop where
 kids : Kids w.heap.size W v (out ++ [e]) bs
 rd : Rd W R s a2 b2
 fr : Fr [R] w W
 lo : a0 ≤ a ∧ a ≤ a2
 hi : a2 ≤ s.size
 tot : exTots (out ++ [e]) ≤ a2 - a0 + 1
 pin : ∃ n, s.size - a < n ∧ Pin (pNode f) (s.size - a0 + 1) (rest s a0) out n (rest s a)
 got : Got (pNode f (rest s a)) e s a2 b2
theorem Al4.push {f R : Nat} {s : ByteArray} {a0 a a2 : Nat} {b2 : Bool} {w wr w2 w3 : World} {v u : Value} {out : List Ex} {e : Ex} {bs b1 : List Nat} {vs : List Value} {o : Obj} {g cap : Nat} (hR : R < w.heap.size)
 (h : Al4 f R s a0 w v out bs a wr) (he : ExIs w2 (.agg #[.int .i64 e.kind, .string e.name, u]) e b1) (hm : Mine w2 wr.heap.size b1) (hf : Fr [R] wr w2) (hr : Rd w2 R s a2 b2) (h1 : a ≤ a2) (h2 : a2 ≤ s.size) (h3 : exTot e ≤ a2 - a) (hg : Got (pNode f (rest s a)) e s a2 b2)
 (hvs : w2.ownsRow w.heap.size 32 3 v out.length vs ∧ CellsOf w2 out vs bs)
 (ho : w3.ownsRow w.heap.size 32 3 (.slice (some ⟨g, 0, none⟩) (out.length + 1) cap) (out.length + 1) (vs ++ [.int .i64 e.kind, .string e.name, u])) (hw : (w2.alloc o).grownBy w3 v.ownBlock) (hat : v.ownBlock = some g ∨ g = (w2.alloc o).heap.size) :
 ∃ bs3, Al5 f R s a0 w (.slice (some ⟨g, 0, none⟩) (out.length + 1) cap) out e bs3 a a2 b2 w3 := by
 have hk2 : Kids w.heap.size w2 v out bs := h.kids.keep hf (by simpa using hR)
 have hrow : ∀ k, v.ownBlock = some k → w.heap.size ≤ k ∧ k < wr.heap.size := fun k hk => by
  obtain ⟨vs2, hr2, -⟩ := h.kids.row
  exact hr2.lt k hk
 have hK := hk2.push (o := o) (C := wr.heap.size) h.fr.size (fun x hx => by
  rcases hx with hx | hx
  · exact (h.kids.mine.range x hx).2
  exact (hrow x hx).2) hvs he hm ho hw hat
 have hF3 : Fr v.ownBlock.toList (w2.alloc o) w3 := Fr.grown hw (fun k hk => by simp [hk])
 have hF : Fr v.ownBlock.toList w2 w3 := (Fr.alloc w2 o).trans hF3 (fun x hx => Or.inl hx)
 refine ⟨_, hK, ?_, ?_, ⟨h.lo, h1⟩, h2, ?_, h.pin, hg⟩
 · exact (hF.block R hr.cells.2.2.2 (fun hx => by
    have := (hrow R (by simpa using hx)).1
    omega)).trans hr
 · refine (h.fr.trans hf (fun x hx => Or.inl hx)).trans hF (fun x hx => Or.inr (hrow x (by simpa using hx)).1)
 rw [tots_app]
 have := h.tot
 have := h.lo
 simp only [exTots]
 omega
theorem Al5.comma {f R : Nat} {s : ByteArray} {a0 a a2 : Nat} {w W W2 : World} {v : Value} {out : List Ex} {e : Ex} {bs : List Nat} (hR : R < w.heap.size) (h : Al5 f R s a0 w v out e bs a a2 false W) (hc : hd (rest s a2) 44 = true) (hf : Fr [R] W W2) (hr : Rd W2 R s (a2 + 1) false) :
 Al4 f R s a0 w v (out ++ [e]) bs (a2 + 1) W2 := by
 have hlt : a2 + 1 ≤ s.size := by
  apply Decidable.byContradiction
  intro hh
  have : rest s a2 = [] := List.eq_nil_of_length_eq_zero (by rw [rest_len]; omega)
  rw [this] at hc
  cases hc
 have hl := h.lo
 obtain ⟨n, hn, hp⟩ := h.pin
 have hg := h.got
 refine ⟨h.kids.keep hf (by simpa using hR), hr, h.fr.trans hf (fun x hx => Or.inl hx), by omega, hlt, by have := h.tot; omega, ?_⟩
 cases n with
 | zero => omega
 | succ n =>
  refine ⟨n, by omega, ?_⟩
  have h2 := hp.comma (e := e) (r := rest s a2) (by rw [hg]; rfl) hc
  rw [rest_drop] at h2
  exact h2
theorem Al5.done {f R : Nat} {s : ByteArray} {a0 a a2 : Nat} {b2 : Bool} {w W W2 : World} {v : Value} {out : List Ex} {e : Ex} {bs : List Nat} (hR : R < w.heap.size) (h : Al5 f R s a0 w v out e bs a a2 b2 W) (h41 : hd (rest s a0) 41 = false) (a3 : Nat) (b3 : Bool) (hc : b2 = true ∨ hd (rest s a2) 44 = false)
 (h3 : (b2 = true ∧ b3 = true ∧ a3 = a2) ∨ (b2 = false ∧ hd (rest s a2) 41 = true ∧ b3 = false ∧ a3 = a2 + 1) ∨ (b2 = false ∧ hd (rest s a2) 41 = false ∧ b3 = true ∧ a3 = a2)) (hf : Fr [R] W W2) (hr : Rd W2 R s a3 b3) : ArgsPost f R s a0 w (.returned v) W2 := by
 obtain ⟨bs2, k1, k2⟩ := (h.kids.keep hf (by simpa using hR)).is
 have hl := h.lo
 have hh := h.hi
 have ht := h.tot
 obtain ⟨n, hn, hp⟩ := h.pin
 have hg := h.got
 have hlt : hd (rest s a2) 41 = true → a2 + 1 ≤ s.size := fun hx => by
  apply Decidable.byContradiction
  intro hh
  have : rest s a2 = [] := List.eq_nil_of_length_eq_zero (by rw [rest_len]; omega)
  rw [this] at hx
  cases hx
 have hpa : pArgs (pNode f) (rest s a0) = pList (pNode f) (s.size - a0 + 1) (rest s a0) := by unfold pArgs; rw [h41, rest_len]; rfl
 cases n with
 | zero => omega
 | succ n =>
  refine ⟨v, _, bs2, a3, b3, rfl, k1, k2, h.fr.trans hf (fun x hx => Or.inl hx), hr, ?_, ?_, ?_, ?_⟩
  · rcases h3 with ⟨-, -, rfl⟩ | ⟨-, -, -, rfl⟩ | ⟨-, -, -, rfl⟩ <;> omega
  · rcases h3 with ⟨-, -, rfl⟩ | ⟨-, hx, -, rfl⟩ | ⟨-, -, -, rfl⟩
    · omega
    · exact hlt hx
    omega
  · rcases h3 with ⟨-, -, rfl⟩ | ⟨-, -, -, rfl⟩ | ⟨-, -, -, rfl⟩ <;> omega
  unfold Got
  rw [hpa]
  rcases h3 with ⟨rfl, rfl, rfl⟩ | ⟨rfl, hx, rfl, rfl⟩ | ⟨rfl, hx, rfl, rfl⟩
  · exact hp.none_ (by rw [hg]; rfl)
  · rw [hp.paren (e := e) (r := rest s a2) (by rw [hg]; rfl) (hc.elim (fun h => by cases h) id) hx, rest_drop]; rfl
  exact hp.stop (e := e) (r := rest s a3) (by rw [hg]; rfl) (hc.elim (fun h => by cases h) id) hx
theorem args_any4 (f R : Nat) (s : ByteArray) (d : Nat) (hs : s.size ≤ 1048576) (hd0 : d ≤ 25)
 (ih : ∀ (a : Nat) (w : World), Rd w R s a false → a ≤ s.size → Calls Tryz.prog 107 #[.pointer (some ⟨R, 0, none⟩), .int .i64 (d : Int)] w (NodePost f R s a w))
 (a0 : Nat) (w : World) (h : Rd w R s a0 false) (ha : a0 ≤ s.size) :
 Calls Tryz.prog 112 #[.pointer (some ⟨R, 0, none⟩), .int .i64 (d : Int)] w (ArgsPost f R s a0 w) := by
 obtain ⟨i0, hi, hz0, hz1, hz2⟩ := info_parts Tryz.infoEx
 have HI := zH (aI hi (aI hz0 (aI hz1 hz2)))
 clear hi hz0 hz1 hz2
 have HIH := zH ih
 have HR := zH h
 have hRw := h.cells.2.2.2
 have hd1 : (d : Int) ≤ 25 := by omega
 have hd2 : 0 ≤ (d : Int) := by omega
 clear ih h
 have HF0 := zH (Fr.alloc (S := [R]) w (.cells #[] 32))
 have HR0 := zH (HR.out.keep (Fr.alloc (S := []) w (.cells #[] 32)))
 have HT := zH (take_any R s a0 false 41 _ HR0.out ha hs)
 have HK0 := zH (Kids.made w (nR _))
 go_enter Tryz.func112, Tryz.ntmps112
 go_wp2_with fail
 go_at_call 110
 refine HT.out.mono ?_
 rintro r w1 ⟨rfl, hf1, hr1⟩
 have HF1 := zH (HF0.out.trans hf1 (by simp))
 have HK1 := zH (HK0.out.keep hf1 (by simpa using hRw))
 rw [Bool.not_false, Bool.true_and, isAt_hd] at *
 have HR1 := zH hr1
 clear hf1 hr1 HT HR0 HF0 HK0
 cases h41 : hd (rest s a0) 41
 · rw [h41] at HR1
   have H0 := zH (show Al4 f R s a0 w (.slice (some ⟨w.heap.size, 0, none⟩) 0 0) [] [] a0 w1 from ⟨HK1.out, HR1.out, HF1.out, nR _, ha, by simp [exTots], _, Nat.lt_succ_self _, Pin.start⟩)
   have HH := zH h41
   clear HR1 HK1 HF1 h41
   go_wp2_with fail
   go_loopw [5] (fun v wr => ∃ (out : List Ex) (bs : List Nat) (a : Nat), Hid (Al4 f R s a0 w v out bs a wr)) (fun _ wr => s.size + 1 - (intOf ((wr.cell? ⟨R, 1, none⟩).getD (.int .i64 0))).toNat)
   case atStart => exact ⟨[], [], a0, H0⟩
   case round =>
    clear H0
    obtain ⟨out, bs, a, HA⟩ := hrel
    obtain ⟨A, c, rfl, hqc, hcm⟩ := HA.out.kids.form
    obtain ⟨q, hq⟩ : ∃ q, q = out.length := ⟨_, rfl⟩
    rw [← hq] at HA hqc ⊢
    have hq2 : q ≤ 1048576 := by have h1 := size_kids (l := out); have h2 := HA.out.tot; have h3 := HA.out.hi; omega
    have HQ := zH hq
    have HCALL := zH (HIH.out a wr HA.out.rd HA.out.hi)
    have HME := zH (show s.size + 1 - (intOf ((wr.cell? ⟨R, 1, none⟩).getD (.int .i64 0))).toNat = s.size + 1 - a by rw [HA.out.rd.cells.2.1]; simp [intOf])
    have C1 := zH (show q + 1 ≤ maxLen by unfold maxLen; omega)
    have C2 := zH (show (q + 1) * 48 ≤ 140737488355328 by omega)
    clear hq
    go_wp2_with fail
    go_at_call 107
    refine HCALL.out.mono ?_
    rintro r w2 ⟨v2, e, b1, a2, b2, rfl, his, hm2, hf2, hr2, hle, hhi, htot, hgot⟩
    obtain ⟨u2, rfl, -, hu2⟩ := id his
    obtain ⟨A2, c2, rfl, -⟩ := id hu2
    obtain ⟨vs, hvs, hcs⟩ := (HA.out.kids.keep hf2 (by simpa using hRw)).row
    have HP := zH (fun (w3 : World) (g cap : Nat) => HA.out.push (w3 := w3) (g := g) (cap := cap) (o := .cells #[.int .i64 e.kind, .string e.name, .slice A2 e.args.length c2] 32) hRw his hm2 hf2 hr2 hle hhi htot hgot ⟨hvs, hcs⟩)
    have HVS := zH (show (w2.alloc (.cells #[.int .i64 e.kind, .string e.name, .slice A2 e.args.length c2] 32)).ownsRow w.heap.size 32 3 (.slice A q c) q vs from by
     have h1 := hvs.alloc (.cells #[.int .i64 e.kind, .string e.name, .slice A2 e.args.length c2] 32)
     rw [← HQ.out] at h1
     exact h1)
    rw [← HQ.out] at HP
    have C4 := zH (show w.heap.size ≤ (w2.alloc (.cells #[.int .i64 e.kind, .string e.name, .slice A2 e.args.length c2] 32)).heap.size by have := HA.out.fr.size; have := hf2.size; simp; omega)
    have HNW := zH (World.news_of_block (w := w2.alloc (.cells #[.int .i64 e.kind, .string e.name, .slice A2 e.args.length c2] 32)) (heap_alloc_new _ _))
    have H1C := zH (show ∀ u ∈ ([.int .i64 e.kind, .string e.name, .slice A2 e.args.length c2] : List Value), u.oneCell' = true from fun u hu => by
     simp at hu
     rcases hu with rfl | rfl | rfl <;> rfl)
    have HLE := zH hle
    clear his hm2 hf2 hr2 hhi htot hgot hvs hcs hu2 hle
    generalize e.args.length = p at *
    go_wp2_with (at_builtin; (refine wpList_append_lies _ rfl (.tmp 10) (.tmp 14) 30 rfl w.heap.size 32 i0 (.agg #[.int .i64 0, .string ⟨#[]⟩, .slice none 0 0]) 3 48 Tryz.underlying30 HI.out.1 HI.out.2.1 HI.out.2.2.1 HI.out.2.2.2 rfl (by decide) (.slice A q c) q vs rfl HVS.out ⟨w2.heap.size, 0, none⟩ 1 1 [.int .i64 e.kind, .string e.name, .slice A2 p c2] rfl rfl HNW.out H1C.out (by decide) C1.out C2.out C4.out _ rfl ?_); intro g cap w3 ho3 hg3 hat3 hlt3; obtain ⟨bs3, h5⟩ := HP.out w3 g cap ho3 hg3 hat3; have H5 := zH h5; clear ho3 hg3 hat3 h5)
    have HT2 := zH (take_any R s a2 b2 44 w3 H5.out.rd H5.out.hi hs)
    have hlo := H5.out.lo
    have hhi := H5.out.hi
    go_at_call 110
    refine HT2.out.mono ?_
    rintro r w4 ⟨rfl, hf4, hr4⟩
    cases b2
    · rw [Bool.not_false, Bool.true_and, isAt_hd] at *
      have HF4 := zH hf4
      cases h44 : hd (rest s a2) 44
      · rw [h44] at hr4
        have HR4 := zH hr4
        obtain ⟨-, -, c2', hR4⟩ := hr4.cells
        have HT3 := zH (take_any R s a2 false 41 w4 hr4 hhi hs)
        have H44 := zH h44
        clear hr4 hf4 HT2 h44
        go_wp2_with fail
        go_at_call 110
        refine HT3.out.mono ?_
        rintro r w5 ⟨rfl, hf5, hr5⟩
        have HF5 := zH (HF4.out.trans hf5 (fun x hx => Or.inl hx))
        rw [Bool.not_false, Bool.true_and, isAt_hd] at *
        cases h42 : hd (rest s a2) 41
        · rw [h42] at hr5
          have HR5 := zH hr5
          have hfz := hr5.thaw 2
          obtain ⟨-, -, c3', hR5⟩ := hr5.cells
          have H42 := zH h42
          clear hr5 hf5 HT3 h42
          go_wp2_with fail
          go_ret
          exact H5.out.done hRw HH.out a2 true (Or.inr H44.out) (Or.inr (Or.inr ⟨rfl, H42.out, rfl, rfl⟩)) (HF5.out.trans (Fr.set (S := [R]) _ _ _ (by simp)) (fun x hx => Or.inl hx)) (HR5.out.turn true)
        rw [h42] at hr5
        have HR5 := zH hr5
        have hfz := hr5.thaw 2
        obtain ⟨-, -, c3', hR5⟩ := hr5.cells
        have H42 := zH h42
        clear hr5 hf5 HT3 h42
        go_wp2_with fail
        go_ret
        exact H5.out.done hRw HH.out (a2 + 1) false (Or.inr H44.out) (Or.inr (Or.inl ⟨rfl, H42.out, rfl, rfl⟩)) (HF5.out.trans (Fr.set (S := [R]) _ _ _ (by simp)) (fun x hx => Or.inl hx)) (HR5.out.turn false)
      rw [h44] at hr4
      have HA2 := zH (H5.out.comma hRw h44 hf4 hr4)
      have HM2 := zH (show s.size + 1 - (intOf ((w4.cell? ⟨R, 1, none⟩).getD (.int .i64 0))).toNat < s.size + 1 - (intOf ((wr.cell? ⟨R, 1, none⟩).getD (.int .i64 0))).toNat by
       rw [HME.out, (Rd.cells hr4).2.1]; simp [intOf]; omega)
      clear hr4 hf4 HT2 h44
      go_wp2_with fail
      go_roundw
      case rel => exact ⟨_, _, _, HA2⟩
      case measure => exact HM2.out
    have HF4 := zH hf4
    have HR4 := zH (show Rd w4 R s a2 true from hr4)
    have hfz := HR4.out.thaw 2
    obtain ⟨-, -, c2', hR4⟩ := HR4.out.cells
    rw [Bool.not_true, Bool.false_and] at *
    clear hr4 hf4 HT2
    go_wp2_with fail
    go_ret
    exact H5.out.done hRw HH.out a2 true (Or.inl rfl) (Or.inl ⟨rfl, rfl, rfl⟩) (HF4.out.trans (Fr.set (S := [R]) _ _ _ (by simp)) (fun x hx => Or.inl hx)) (HR4.out.turn true)
 rw [h41] at HR1
 have HG := zH (show Got (pArgs (pNode f) (rest s a0)) [] s (a0 + 1) false by unfold Got pArgs; rw [h41, ← rest_drop]; rfl)
 have hlt : a0 + 1 ≤ s.size := by
  apply Decidable.byContradiction
  intro hh
  have : rest s a0 = [] := List.eq_nil_of_length_eq_zero (by rw [rest_len]; omega)
  rw [this] at h41
  cases h41
 go_wp2_with fail
 go_ret
 obtain ⟨bs2, h2, h3⟩ := HK1.out.is
 exact ⟨_, [], bs2, a0 + 1, false, rfl, h2, h3, HF1.out, HR1.out, by omega, hlt, by simp [exTots], HG.out⟩
end Go.Proofs.YtiaknfnhmoinpaaGreat
