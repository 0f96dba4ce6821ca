/- A part of the proof of the seat's statement: OwnExpr. Condition: as each says. -/
import Derived.Test.YthljhiklpopmgaaGreatDoorOwnFit
set_option maxHeartbeats 8000000
namespace Go.Proofs.YthljhiklpopmgaaGreatDoor
open Go Go.RowKit
theorem sizes_more : ∀ (a b : List Ex), exSizes (a ++ b) = exSizes a + exSizes b := by
 intro a
 induction a with
 | nil => intro b; simp [exSizes]
 | cons x r ih => intro b; rw [List.cons_append, exSizes, exSizes, ih]; omega
theorem join_two (e x : Ex) (l : List Ex) (r : List UInt8) : Lib.join (exTexts (e :: x :: l)) [44] ++ 41 :: r = exText e ++ 44 :: (Lib.join (exTexts (x :: l)) [44] ++ 41 :: r) := by
 rw [exTexts, exTexts, Lib.join_cons, Lib.join_cons]
 simp [Lib.joinTail]
theorem join_uno (e : Ex) (r : List UInt8) : Lib.join (exTexts [e]) [44] ++ 41 :: r = exText e ++ 41 :: r := by
 rw [exTexts, exTexts, Lib.join_one]
theorem rest_next {s : ByteArray} {a : Nat} {c : UInt8} {t : List UInt8} (h : rest s a = c :: t) : rest s (a + 1) = t := by
 rw [← rest_drop, h]; rfl
theorem rest_lt {s : ByteArray} {a : Nat} {c : UInt8} (h : hd (rest s a) c = true) : a + 1 ≤ s.size := by
 apply Decidable.byContradiction
 intro hh
 have : rest s a = [] := List.eq_nil_of_length_eq_zero (by rw [rest_len]; omega)
 rw [this] at h
 cases h
structure Ag (b : Nat) (s : ByteArray) (a0 n0 : Nat) (w : World) (v : Value) (out : List Ex) (bs : List Nat) (a n : Nat) (W : World) : Prop where
 kids : Kids w.heap.size W v out bs
 env : Env W b s a n
 fr : Fr [b + 1, b + 2] w W
 lo : a0 ≤ a
 hi : a ≤ s.size
 cnt : exSizes out + n0 ≤ n ∧ n ≤ 80
 pend : ∀ L t, exAllL L = true → rest s a0 = Lib.join (exTexts L) [44] ++ 41 :: t → n0 + exSizes L ≤ 80 → ∃ e0 L2, L = out ++ e0 :: L2 ∧ rest s a = Lib.join (exTexts (e0 :: L2)) [44] ++ 41 :: t ∧ n = n0 + exSizes out
structure Ah (b : Nat) (s : ByteArray) (a0 n0 : Nat) (w : World) (v : Value) (out : List Ex) (bs : List Nat) (a n : Nat) (W : World) : Prop where
 kids : Kids w.heap.size W v out bs
 env : Env W b s a n
 fr : Fr [b + 1, b + 2] w W
 lo : a0 ≤ a
 hi : a ≤ s.size
 cnt : exSizes out + n0 ≤ n ∧ n ≤ 80
 pend : ∀ L t, exAllL L = true → rest s a0 = Lib.join (exTexts L) [44] ++ 41 :: t → n0 + exSizes L ≤ 80 → ∃ L2, L = out ++ L2 ∧ n = n0 + exSizes out ∧ ((L2 = [] ∧ rest s a = 41 :: t) ∨ ∃ e1 L3, L2 = e1 :: L3 ∧ rest s a = 44 :: (Lib.join (exTexts (e1 :: L3)) [44] ++ 41 :: t))
section
variable {b : Nat} {s : ByteArray} {a0 n0 a n a2 n2 : Nat} {w wr W W2 w2 w3 : World} {v u : Value} {out : List Ex} {e : Ex} {bs b1 : List Nat}
theorem Ag.start (h : Env W b s a0 n0) (hn : n0 ≤ 80) (ha : a0 ≤ s.size) (hf : Fr [b + 1, b + 2] w W) (h41 : hd (rest s a0) 41 = false) : Ag b s a0 n0 w (.slice none 0 0) [] [] a0 n0 W := by
 refine ⟨Kids.nilled _ _, h, hf, Nat.le_refl _, ha, ⟨by simp [exSizes], hn⟩, fun L t h1 h2 h3 => ?_⟩
 cases L with
 | nil => rw [h2] at h41; exact absurd h41 (by simp [exTexts, Lib.join_nil, hd])
 | cons e r => exact ⟨e, r, rfl, h2, by simp [exSizes]⟩
theorem Ag.wants {ok : Bool} (h : Ag b s a0 n0 w v out bs a n wr) (hg : Fits s a n e a2 n2 ok) (L : List Ex) (t : List UInt8) (h1 : exAllL L = true) (h2 : rest s a0 = Lib.join (exTexts L) [44] ++ 41 :: t) (h3 : n0 + exSizes L ≤ 80) :
 ok = true ∧ ∃ L2, L = (out ++ [e]) ++ L2 ∧ n2 = n0 + exSizes (out ++ [e]) ∧ ((L2 = [] ∧ rest s a2 = 41 :: t) ∨ ∃ e1 L3, L2 = e1 :: L3 ∧ rest s a2 = 44 :: (Lib.join (exTexts (e1 :: L3)) [44] ++ 41 :: t)) := by
 obtain ⟨e0, L2, rfl, h4, h5⟩ := h.pend L t h1 h2 h3
 rw [all_app, Bool.and_eq_true] at h1
 have ha := h1.2
 rw [exAllL, Bool.and_eq_true] at ha
 rw [sizes_more, exSizes] at h3
 cases L2 with
 | nil =>
  rw [join_uno] at h4
  obtain ⟨g1, rfl, g3, g4⟩ := hg e0 (41 :: t) ha.1 h4 (Or.inr ⟨41, t, rfl, Or.inl rfl⟩) (by omega)
  refine ⟨g1, [], by simp, ?_, Or.inl ⟨rfl, g3⟩⟩
  rw [sizes_more, exSizes, exSizes]; omega
 | cons e1 L3 =>
  rw [join_two] at h4
  obtain ⟨g1, rfl, g3, g4⟩ := hg e0 _ ha.1 h4 (Or.inr ⟨44, _, rfl, Or.inr rfl⟩) (by omega)
  refine ⟨g1, e1 :: L3, by simp, ?_, Or.inr ⟨e1, L3, rfl, g3⟩⟩
  rw [sizes_more, exSizes, exSizes]; omega
theorem Ag.push {vs : List Value} {o : Obj} {g cap : Nat} (hb : b + 6 < w.heap.size)
 (h : Ag b s a0 n0 w v out bs a n wr) (he : ExIs w2 (.agg #[.int .i64 e.kind, .string e.name, u]) e b1) (hm : Mine w2 wr.heap.size b1) (hf : Fr [b + 1, b + 2] wr w2) (hr : Env w2 b s a2 n2) (h1 : a ≤ a2) (h2 : a2 ≤ s.size) (h3 : n2 ≤ 80 ∧ exSize e + n ≤ n2) (hg : Fits s a n e a2 n2 true)
 (hvs : w2.ownsRow w.heap.size 34 3 v out.length vs ∧ CellsOf w2 out vs bs)
 (ho : w3.ownsRow w.heap.size 34 3 (.slice (some ⟨g, 0, none⟩) (out.length + 1) cap) (out.length + 1) (vs ++ [.int .i64 e.kind, .string e.name, u])) (hw : (w2.alloc o).grownBy w3 v.ownBlock) (hat : v.ownBlock = some g ∨ g = (w2.alloc o).heap.size) :
 ∃ bs3, Ah b s a0 n0 w (.slice (some ⟨g, 0, none⟩) (out.length + 1) cap) (out ++ [e]) bs3 a2 n2 w3 := by
 have hk2 : Kids w.heap.size w2 v out bs := h.kids.keep hf (fun x hx => by simp at hx; omega)
 have hrow : ∀ k, v.ownBlock = some k → w.heap.size ≤ k ∧ k < wr.heap.size := fun k hk => by
  obtain ⟨vs2, hr2, -⟩ := h.kids.row
  exact hr2.lt k hk
 have hK := hk2.push (o := o) (C := wr.heap.size) h.fr.size (fun x hx => by
  rcases hx with hx | hx
  · exact (h.kids.mine.range x hx).2
  exact (hrow x hx).2) hvs he hm ho hw hat
 have hF3 : Fr v.ownBlock.toList (w2.alloc o) w3 := Fr.grown hw (fun k hk => by simp [hk])
 have hF : Fr v.ownBlock.toList w2 w3 := (Fr.alloc w2 o).trans hF3 (fun x hx => Or.inl hx)
 have hl := h.lo
 have hc := h.cnt
 refine ⟨_, hK, ?_, ?_, by omega, h2, ?_, fun L t g1 g2 g3 => (h.wants hg L t g1 g2 g3).2⟩
 · exact hr.keep hF (fun x hx => Or.inr (by have := (hrow x (by simpa using hx)).1; omega))
 · refine (h.fr.trans hf (fun x hx => Or.inl hx)).trans hF (fun x hx => Or.inr (hrow x (by simpa using hx)).1)
 rw [sizes_more, exSizes, exSizes]; omega
theorem Ah.comma (hb : b + 6 < w.heap.size) (h : Ah b s a0 n0 w v out bs a n W) (hc : hd (rest s a) 44 = true) (hf : Fr [b + 1] W W2) (hr : Env W2 b s (a + 1) n) :
 Ag b s a0 n0 w v out bs (a + 1) n W2 := by
 have hl := h.lo
 refine ⟨h.kids.keep hf (fun x hx => by simp at hx; omega), hr, h.fr.trans hf (fun x hx => Or.inl (by simp at hx; simp [hx])), by omega, rest_lt hc, h.cnt, fun L t h1 h2 h3 => ?_⟩
 obtain ⟨L2, rfl, h5, h6⟩ := h.pend L t h1 h2 h3
 rcases h6 with ⟨rfl, h6⟩ | ⟨e1, L3, rfl, h6⟩
 · rw [h6] at hc; exact absurd hc (by simp [hd])
 exact ⟨e1, L3, rfl, rest_next h6, h5⟩
theorem Ah.done (hb : b + 6 < w.heap.size) (h : Ah b s a0 n0 w v out bs a n W) (hc : hd (rest s a) 44 = false) (ok : Bool) (hk : hd (rest s a) 41 = ok) (hf : Fr [b + 1] W W2) (hr : Env W2 b s (if ok then a + 1 else a) n) :
 ArgsO b s a0 n0 w (.returned (.tuple #[v, .bool ok])) W2 := by
 obtain ⟨bs2, k1, k2⟩ := (h.kids.keep hf (fun x hx => by simp at hx; omega)).is
 have hl := h.lo
 have hh := h.hi
 refine ⟨v, out, bs2, _, n, ok, rfl, k1, k2, h.fr.trans hf (fun x hx => Or.inl (by simp at hx; simp [hx])), hr, ?_, ?_, fun _ => ⟨h.cnt.2, h.cnt.1⟩, fun L t h1 h2 h3 => ?_⟩
 · split <;> omega
 · split
   · exact rest_lt (c := 41) (by rw [hk]; assumption)
   exact hh
 obtain ⟨L2, rfl, h5, h6⟩ := h.pend L t h1 h2 h3
 rcases h6 with ⟨rfl, h6⟩ | ⟨e1, L3, rfl, h6⟩
 · have ho : ok = true := by rw [← hk, h6]; simp [hd]
   subst ho
   exact ⟨rfl, by simp, rest_next h6, by simpa using h5⟩
 rw [h6] at hc; exact absurd hc (by simp [hd])
theorem Ag.fail (h : Ag b s a0 n0 w v out bs a n wr) (hf : Fr [b + 1, b + 2] wr w2) (hr : Env w2 b s a2 n2) (h1 : a ≤ a2) (h2 : a2 ≤ s.size) (hg : Fits s a n e a2 n2 false) (o : Obj) :
 ArgsO b s a0 n0 w (.returned (.tuple #[.slice none 0 0, .bool false])) (w2.alloc o) := by
 have hl := h.lo
 refine ⟨_, [], [], a2, n2, false, rfl, ⟨_, _, rfl, Nat.le_refl _, by omega, Or.inl ⟨rfl, rfl⟩⟩, Mine.nil _ _, (h.fr.trans hf (fun x hx => Or.inl hx)).trans (Fr.alloc w2 o) (fun x hx => Or.inl hx), hr.keep (S := []) (Fr.alloc w2 o) (by simp), by omega, h2, (fun hx => by cases hx), fun L t g1 g2 g3 => ?_⟩
 exact absurd (h.wants hg L t g1 g2 g3).1 (by simp)
theorem args_none (h : Env W b s (a0 + 1) n0) (hn : n0 ≤ 80) (hf : Fr [b + 1] w W) (h41 : hd (rest s a0) 41 = true) : ArgsO b s a0 n0 w (.returned (.tuple #[.slice none 0 0, .bool true])) W := by
 refine ⟨_, [], [], a0 + 1, n0, true, rfl, ⟨_, _, rfl, Nat.le_refl _, by omega, Or.inl ⟨rfl, rfl⟩⟩, Mine.nil _ _, hf.mono (fun x hx => Or.inl (by simp at hx; simp [hx])), h, by omega, rest_lt h41, fun _ => ⟨hn, by simp [exSizes]⟩, fun L t h1 h2 h3 => ?_⟩
 cases L with
 | nil =>
  refine ⟨rfl, rfl, ?_, by simp [exSizes]⟩
  rw [exTexts, Lib.join_nil] at h2
  exact rest_next h2
 | cons e r =>
  rw [exAllL, Bool.and_eq_true] at h1
  obtain ⟨x, q, e1, e2⟩ := text_head h1.1
  rw [h2, exTexts, Lib.join_cons, e1] at h41
  exact absurd h41 (by simp [hd, e2])
end
def ExprC (b : Nat) (s : ByteArray) (k : Nat) : Prop := ∀ (a n : Nat) (W : World), Env W b s a n → a ≤ s.size → n ≤ 80 → 80 - n ≤ k →
 Calls Tryz.prog 104 #[ptr (b + 2), ptr (b + 4), ptr (b + 3), ptr (b + 6)] W (ExprO b s a n W)
theorem own_pargs (b : Nat) (s : ByteArray) (hs : s.size ≤ 1048576) (k : Nat) (ih : ExprC b s k) (a0 n0 : Nat) (w : World) (h : Env w b s a0 n0) (ha : a0 ≤ s.size) (hn : n0 ≤ 80) (hk : 80 - n0 ≤ k) :
 Calls Tryz.prog 103 #[ptr (b + 3), ptr (b + 5)] w (ArgsO b s a0 n0 w) := by
 obtain ⟨i0, hi, hz0, hz1, hz2⟩ := info_parts Tryz.infoEx
 have HI := zH (And.intro hi (And.intro hz0 (And.intro hz1 hz2)))
 clear hi hz0 hz1 hz2
 have HIH := zH ih
 have HE := zH h
 have hbw := h.lt
 have t1 := h.tb.cell
 have HT := zH (own_take b s a0 n0 41 41 rfl w h ha hs)
 clear ih h
 go_enter Tryz.func103, Tryz.ntmps103
 go_wp2_with fail
 go_at_call 100
 refine HT.out.mono ?_
 rintro r w1 ⟨rfl, hf1, hr1⟩
 have HF1 := zH hf1
 clear HT
 cases h41 : hd (rest s a0) 41
 · rw [h41] at hr1
   have H0 := zH (Ag.start (w := w) (W := w1) hr1 hn ha (HF1.out.mono (fun x hx => Or.inl (by simp at hx; simp [hx]))) h41)
   clear hf1 hr1 h41
   go_wp2_with fail
   go_loopw [4] (fun v wr => ∃ (out : List Ex) (bs : List Nat) (a n : Nat), Hid (Ag b s a0 n0 w v out bs a n wr)) (fun _ wr => s.size + 1 - (intOf ((wr.cell? ⟨b + 1, 0, none⟩).getD (.int .i64 0))).toNat)
   case atStart => exact ⟨[], [], a0, n0, H0⟩
   case round =>
    clear H0
    obtain ⟨out, bs, a, n, HA⟩ := hrel
    obtain ⟨A, c, rfl, hqc, hcm⟩ := HA.out.kids.form
    obtain ⟨q, hq⟩ : ∃ q, q = out.length := ⟨_, rfl⟩
    rw [← hq] at HA hqc ⊢
    have hq2 : q ≤ 80 := by have h1 := sizes_len out; have h2 := HA.out.cnt; omega
    have HQ := zH hq
    have HCALL := zH (HIH.out a n wr HA.out.env HA.out.hi HA.out.cnt.2 (by have := HA.out.cnt; omega))
    have HME := zH (show s.size + 1 - (intOf ((wr.cell? ⟨b + 1, 0, none⟩).getD (.int .i64 0))).toNat = s.size + 1 - a by rw [HA.out.env.pb.cell]; simp [intOf])
    have C1 := zH (show q + 1 ≤ maxLen by unfold maxLen; omega)
    have C2 := zH (show (q + 1) * 48 ≤ 140737488355328 by omega)
    have x1 := HA.out.env.eb.cell
    clear hq
    go_wp2_with fail
    go_at_call 104
    refine HCALL.out.mono ?_
    rintro r w2 ⟨v2, e, b1, a2, n2, ok, rfl, his, hm2, hf2, hr2, hle, hhi, hcnt, hfit⟩
    obtain ⟨u2, rfl, -, hu2⟩ := id his
    obtain ⟨A2, c2, rfl, -⟩ := id hu2
    cases ok
    · have HD := zH (HA.out.fail hf2 hr2 hle hhi hfit (.cells #[.int .i64 e.kind, .string e.name, .slice A2 e.args.length c2] 34))
      clear his hm2 hf2 hr2 hle hhi hcnt hfit hu2
      go_wp2_with fail
      go_ret2
      exact HD.out
    obtain ⟨-, hn2, hsz⟩ := hcnt rfl
    obtain ⟨X, hX⟩ : ∃ X, X = w2.alloc (.cells #[.int .i64 e.kind, .string e.name, .slice A2 e.args.length c2] 34) := ⟨_, rfl⟩
    have hbx : Below w2.heap.size w2 X := by rw [hX]; exact (Below.refl _ _).alloc (Nat.le_refl _) _
    have hisX := his.below hbx
    have hmX := hm2.keeps (keeps_below hbx b1)
    have hfX : Fr [b + 1, b + 2] wr X := hf2.trans (Fr.of_below (S := [b + 1, b + 2]) hbx) (fun x hx => Or.inl hx)
    have hrX := hr2.below hbx
    obtain ⟨vs, hvs, hcs⟩ := (HA.out.kids.keep hfX (fun x hx => by simp at hx; omega)).row
    have HP := zH (fun (w3 : World) (g cap : Nat) => HA.out.push (w3 := w3) (g := g) (cap := cap) (o := .cells #[.int .i64 e.kind, .string e.name, .slice A2 e.args.length c2] 34) hbw hisX hmX hfX hrX hle hhi ⟨hn2, hsz⟩ hfit ⟨hvs, hcs⟩)
    have HVS := zH (show (X.alloc (.cells #[.int .i64 e.kind, .string e.name, .slice A2 e.args.length c2] 34)).ownsRow w.heap.size 34 3 (.slice A q c) q vs from by
     have h1 := hvs.alloc (.cells #[.int .i64 e.kind, .string e.name, .slice A2 e.args.length c2] 34)
     rw [← HQ.out] at h1
     exact h1)
    rw [← HQ.out] at HP
    have C4 := zH (show w.heap.size ≤ (X.alloc (.cells #[.int .i64 e.kind, .string e.name, .slice A2 e.args.length c2] 34)).heap.size by have := HA.out.fr.size; have := hfX.size; simp; omega)
    have HNW := zH (World.news_of_block (w := X.alloc (.cells #[.int .i64 e.kind, .string e.name, .slice A2 e.args.length c2] 34)) (heap_alloc_new _ _))
    have H1C := zH (show ∀ u ∈ ([.int .i64 e.kind, .string e.name, .slice A2 e.args.length c2] : List Value), u.oneCell' = true from fun u hu => by
     simp at hu
     rcases hu with rfl | rfl | rfl <;> rfl)
    have HLE := zH hle
    subst hX
    clear his hm2 hf2 hr2 hhi hcnt hfit hvs hcs hu2 hle hbx hisX hmX hfX hrX hn2 hsz
    generalize e.args.length = p at *
    go_wp2_with (at_builtin; (refine wpList_append_lies _ rfl (.tmp 17) (.tmp 19) 32 rfl w.heap.size 34 i0 (.agg #[.int .i64 0, .string ⟨#[]⟩, .slice none 0 0]) 3 48 Tryz.underlying32 HI.out.1 HI.out.2.1 HI.out.2.2.1 HI.out.2.2.2 rfl (by decide) (.slice A q c) q vs rfl HVS.out ⟨w2.heap.size + 1, 0, none⟩ 1 1 [.int .i64 e.kind, .string e.name, .slice A2 p c2] rfl rfl (by have hh := HNW.out; simp only [World.size_alloc] at hh; exact hh) H1C.out (by decide) C1.out C2.out C4.out _ rfl ?_); intro g cap w3 ho3 hg3 hat3 hlt3; obtain ⟨bs3, h5⟩ := HP.out w3 g cap ho3 hg3 hat3; have H5 := zH h5; have t3 := h5.env.tb.cell; clear ho3 hg3 hat3 h5)
    have HT2 := zH (own_take b s a2 n2 44 44 rfl w3 H5.out.env H5.out.hi hs)
    go_at_call 100
    refine HT2.out.mono ?_
    rintro r w4 ⟨rfl, hf4, hr4⟩
    have HF4 := zH hf4
    have hhi := H5.out.hi
    cases h44 : hd (rest s a2) 44
    · rw [h44] at hr4
      have HR4 := zH hr4
      have t4 := hr4.tb.cell
      have HT3 := zH (own_take b s a2 n2 41 41 rfl w4 hr4 hhi hs)
      have H44 := zH h44
      clear hr4 hf4 HT2 h44
      go_wp2_with fail
      go_at_call 100
      refine HT3.out.mono ?_
      rintro r w5 ⟨rfl, hf5, hr5⟩
      have HD := zH (H5.out.done hbw H44.out (hd (rest s a2) 41) rfl (HF4.out.trans hf5 (fun x hx => Or.inl hx)) hr5)
      clear hf5 hr5 HT3
      go_wp2_with fail
      go_ret2
      exact HD.out
    rw [h44] at hr4
    have HA2 := zH (H5.out.comma hbw h44 hf4 hr4)
    have HM2 := zH (show s.size + 1 - (intOf ((w4.cell? ⟨b + 1, 0, none⟩).getD (.int .i64 0))).toNat < s.size + 1 - (intOf ((wr.cell? ⟨b + 1, 0, none⟩).getD (.int .i64 0))).toNat by
     rw [HME.out, (Env.pb hr4).cell]
     have h1 := HLE.out
     have h2 := rest_lt h44
     rw [show ((some (Value.int .i64 ((if true = true then a2 + 1 else a2 : Nat) : Int))).getD (.int .i64 0)) = .int .i64 ((a2 + 1 : Nat) : Int) from rfl, show intOf (.int .i64 ((a2 + 1 : Nat) : Int)) = ((a2 + 1 : Nat) : Int) from rfl, Int.toNat_natCast]
     omega)
    clear hr4 hf4 HT2 h44
    go_wp2_with fail
    go_roundw
    case rel => exact ⟨_, _, _, _, HA2⟩
    case measure => exact HM2.out
 rw [h41] at hr1
 have HD := zH (args_none hr1 hn hf1 h41)
 clear hf1 hr1 h41
 go_wp2_with fail
 go_ret2
 exact HD.out
theorem cut_le (l : List UInt8) : (wordCut l).length ≤ l.length := by
 rcases cut_any l with ⟨-, h⟩ | ⟨-, h⟩
 · rw [h]; exact Nat.le_refl _
 exact h
theorem node_args (x : ByteArray) (o : Bool) : (nodeE x o).1.args = [] := by
 unfold nodeE
 split <;> rfl
theorem node_size (x : ByteArray) (o : Bool) : (nodeE x o).1.name.size ≤ x.size := by
 unfold nodeE
 split
 · exact Nat.zero_le _
 show (if _ then _ else _ : ByteArray).size ≤ _
 split
 · exact Nat.zero_le _
 exact Nat.le_refl _
theorem node_pos {x : ByteArray} {o : Bool} (h : (nodeE x o).2 = true) : 1 ≤ x.size := by
 apply Decidable.byContradiction
 intro hh
 have h0 : x.data.toList = [] := List.eq_nil_of_length_eq_zero (by rw [sizeN]; omega)
 unfold nodeE nodeK at h
 rw [h0] at h
 cases h
def E0 (w : World) (b N : Nat) : World := (w.setCell ⟨b + 2, 0, none⟩ (.int .i64 (N : Int))).alloc (.cells #[.int .i64 0, .string ⟨#[]⟩, .slice none 0 0] 34)
theorem e0_facts {w : World} {b : Nat} {s : ByteArray} {a n : Nat} (h : Env w b s a n) (N : Nat) :
 Fr [b + 1, b + 2] w (E0 w b N) ∧ Env (E0 w b N) b s a N ∧ Bx (E0 w b N) w.heap.size 0 ⟨#[]⟩ (.slice none 0 0) ∧ (E0 w b N).heap.size = w.heap.size + 1 := by
 refine ⟨(Fr.set (S := [b + 1, b + 2]) w ⟨b + 2, 0, none⟩ _ (by simp)).trans (Fr.alloc (S := [b + 1, b + 2]) _ _) (fun x hx => Or.inl hx), (h.cnt N).keep (Fr.alloc (S := []) _ _) (by simp), ?_, by simp [E0, World.setCell]⟩
 have := heap_alloc_new (w.setCell ⟨b + 2, 0, none⟩ (.int .i64 (N : Int))) (.cells #[.int .i64 0, .string ⟨#[]⟩, .slice none 0 0] 34)
 rw [show (w.setCell ⟨b + 2, 0, none⟩ (.int .i64 (N : Int))).heap.size = w.heap.size by simp [World.setCell]] at this
 exact this
theorem nset_fr (W : World) (R : Nat) (K : Int) (S : ByteArray) (u : Value) : Fr [R] W (nset W R K S u) :=
 ((Fr.set (S := [R]) W ⟨R, 0, none⟩ _ (by simp)).trans (Fr.set (S := [R]) _ ⟨R, 1, none⟩ _ (by simp)) (fun x hx => Or.inl hx)).trans (Fr.set (S := [R]) _ ⟨R, 2, none⟩ _ (by simp)) (fun x hx => Or.inl hx)
theorem fit_at (s : ByteArray) (a : Nat) (ha : a ≤ s.size) : ∃ (X : ByteArray) (P : Nat), X = ⟨(wordCut (rest s a)).toArray⟩ ∧ P = a + (wordCut (rest s a)).length ∧ P ≤ s.size ∧ X.size = P - a ∧
 ∀ k S L t, exAll (.mk k S L) = true → rest s a = exText (.mk k S L) ++ t → Stop t → (hd (rest s P) 40 = false ∧ L = [] ∧ rest s P = t ∧ nodeE X false = (.mk k S [], true)) ∨ (hd (rest s P) 40 = true ∧ rest s (P + 1) = Lib.join (exTexts L) [44] ++ 41 :: t ∧ nodeE X true = (.mk k S [], true)) := by
 have h1 := cut_le (rest s a)
 rw [rest_len] at h1
 refine ⟨_, _, rfl, rfl, by omega, ?_, fun k S L t g1 g2 g3 => ?_⟩
 · show (List.toArray _).size = _
   simp
 rcases fit_word g1 g2 g3 with ⟨-, q1, q2, q3, q4⟩ | ⟨-, q1, q2, q3⟩
 · rw [rest_drop] at q1 q3
   exact Or.inl ⟨q1, q2, q3, q4⟩
 rw [rest_drop] at q1
 rw [rest_drop, rest_drop] at q2
 exact Or.inr ⟨q1, q2, q3⟩
section
variable {b : Nat} {s : ByteArray} {a n N P a2 : Nat} {w W w4 : World} {X S : ByteArray} {o ok : Bool} {K : Int}
structure Eg (b : Nat) (s : ByteArray) (a n : Nat) (w : World) (X : ByteArray) (P N : Nat) (o : Bool) (a2 : Nat) (w4 : World) : Prop where
 fr : Fr [b + 1, b + 2] w w4
 env : Env w4 b s a2 N
 bx : Bx w4 w.heap.size 0 ⟨#[]⟩ (.slice none 0 0)
 lo : a ≤ P
 hi : P ≤ s.size
 sz : X.size = P - a
 cnt : N = n + 1
 at_ : a2 = (if o then P + 1 else P)
 op : hd (rest s P) 40 = o
 fit : ∀ k S L t, exAll (.mk k S L) = true → rest s a = exText (.mk k S L) ++ t → Stop t → (hd (rest s P) 40 = false ∧ L = [] ∧ rest s P = t ∧ nodeE X false = (.mk k S [], true)) ∨ (hd (rest s P) 40 = true ∧ rest s (P + 1) = Lib.join (exTexts L) [44] ++ 41 :: t ∧ nodeE X true = (.mk k S [], true))
theorem Eg.le (h : Eg b s a n w X P N o a2 w4) : a ≤ a2 ∧ a2 ≤ s.size := by
 have h1 := h.lo
 have h2 := h.hi
 rw [h.at_]
 split
 · exact ⟨by omega, rest_lt (c := 40) (by rw [h.op]; assumption)⟩
 exact ⟨h1, h2⟩
theorem Eg.right (h : Eg b s a n w X P N o a2 w4) : ∀ k S L t, exAll (.mk k S L) = true → rest s a = exText (.mk k S L) ++ t → Stop t → nodeE X o = (.mk k S [], true) := fun k S L t h1 h2 h3 => by
 rcases h.fit k S L t h1 h2 h3 with ⟨q1, -, -, q2⟩ | ⟨q1, -, q2⟩
 · rw [h.op] at q1; subst q1; exact q2
 rw [h.op] at q1; subst q1; exact q2
theorem Eg.fail (hb : b + 6 < w.heap.size) (h : Eg b s a n w X P N o a2 w4) (hno : (nodeE X o).2 = false ∨ 80 < N) (ob : Obj) :
 ExprO b s a n w (.returned (.tuple #[.agg #[.int .i64 0, .string ⟨#[]⟩, .slice none 0 0], .bool false])) ((nset w4 w.heap.size 0 ⟨#[]⟩ (.slice none 0 0)).alloc ob) ∧ Bx ((nset w4 w.heap.size 0 ⟨#[]⟩ (.slice none 0 0)).alloc ob) w.heap.size 0 ⟨#[]⟩ (.slice none 0 0) := by
 have hf : Fr [w.heap.size] w4 ((nset w4 w.heap.size 0 ⟨#[]⟩ (.slice none 0 0)).alloc ob) := (nset_fr w4 w.heap.size 0 ⟨#[]⟩ (.slice none 0 0)).trans (Fr.alloc (S := [w.heap.size]) _ _) (fun x hx => Or.inl hx)
 refine ⟨⟨_, zeroEx, [], a2, N, false, rfl, leaf_isN _ (by decide), Mine.nil _ _, h.fr.trans hf (fun x hx => Or.inr (by simp at hx; omega)), h.env.keep hf (fun x hx => by simp at hx; omega), h.le.1, h.le.2, (fun hx => by cases hx), fun e0 t g1 g2 g3 g4 => ?_⟩, (nset_box h.bx 0 ⟨#[]⟩ (.slice none 0 0)).keep (Fr.alloc (S := []) _ _) (by simp)⟩
 exfalso
 cases e0 with
 | mk k S L =>
 have h1 := h.right k S L t g1 g2 g3
 rcases hno with hno | hno
 · rw [h1] at hno; cases hno
 have := exSize_pos (.mk k S L)
 have := h.cnt
 omega
theorem Eg.plain (hb : b + 6 < w.heap.size) (hs : s.size ≤ 1048576) (h : Eg b s a n w X P N false a2 w4) (hK : nodeE X false = (.mk K S [], true)) (hN : N ≤ 80) (ob : Obj) :
 ExprO b s a n w (.returned (.tuple #[.agg #[.int .i64 K, .string S, .slice none 0 0], .bool true])) ((nset w4 w.heap.size K S (.slice none 0 0)).alloc ob) ∧ Bx ((nset w4 w.heap.size K S (.slice none 0 0)).alloc ob) w.heap.size K S (.slice none 0 0) := by
 have hf : Fr [w.heap.size] w4 ((nset w4 w.heap.size K S (.slice none 0 0)).alloc ob) := (nset_fr w4 w.heap.size K S (.slice none 0 0)).trans (Fr.alloc (S := [w.heap.size]) _ _) (fun x hx => Or.inl hx)
 have h1 := node_size X false
 have h2 := node_pos (x := X) (o := false) (by rw [hK])
 rw [hK] at h1
 have h3 := h.sz
 have h4 := h.hi
 have h5 := h.cnt
 have h6 := h.at_
 simp only [Ex.name] at h1
 have h7 : a2 = P := h6
 refine ⟨⟨_, .mk K S [], [], a2, N, true, rfl, leaf_isN _ (by omega), Mine.nil _ _, h.fr.trans hf (fun x hx => Or.inr (by simp at hx; omega)), h.env.keep hf (fun x hx => by simp at hx; omega), h.le.1, h.le.2, (fun _ => ⟨by omega, hN, by simp [exSize, exSizes]; omega⟩), fun e0 t g1 g2 g3 g4 => ?_⟩, (nset_box h.bx K S (.slice none 0 0)).keep (Fr.alloc (S := []) _ _) (by simp)⟩
 cases e0 with
 | mk k S2 L =>
 rcases h.fit k S2 L t g1 g2 g3 with ⟨-, q1, q2, q3⟩ | ⟨q1, -⟩
 · rw [hK] at q3
   obtain ⟨q4, -⟩ := Prod.mk.inj q3
   subst q1
   refine ⟨rfl, q4, by rw [h7]; exact q2, ?_⟩
   simp [exSize, exSizes]
   omega
 rw [h.op] at q1; cases q1
theorem Eg.call {w6 : World} {v : Value} {l : List Ex} {bs : List Nat} {a3 n3 : Nat} (hb : b + 6 < w.heap.size) (hs : s.size ≤ 1048576) (h : Eg b s a n w X P N true a2 w4) (hK : nodeE X true = (.mk K S [], true))
 (hl : SlIs w6 v l bs) (hm : Mine w6 (w4.alloc (.cells #[.int .i64 K, .string S, .slice none 0 0] 34)).heap.size bs) (hf : Fr [b + 1, b + 2] (w4.alloc (.cells #[.int .i64 K, .string S, .slice none 0 0] 34)) w6) (he : Env w6 b s a3 n3) (h1 : a2 ≤ a3) (h2 : a3 ≤ s.size) (h3 : ok = true → n3 ≤ 80 ∧ exSizes l + N ≤ n3) (hg : FitsL s a2 N l a3 n3 ok) :
 ExprO b s a n w (.returned (.tuple #[.agg #[.int .i64 K, .string S, v], .bool ok])) (nset (w6.setCell ⟨w4.heap.size, 2, none⟩ v) w.heap.size K S v) ∧ Bx (nset (w6.setCell ⟨w4.heap.size, 2, none⟩ v) w.heap.size K S v) w.heap.size K S v := by
 have hR := h.bx.cells.2.2.2
 have hbx : Bx w6 w.heap.size 0 ⟨#[]⟩ (.slice none 0 0) := (h.bx.keep (Fr.alloc (S := []) _ _) (by simp)).keep hf (by simp; omega)
 have hf2 : Fr [w4.heap.size, w.heap.size] w6 (nset (w6.setCell ⟨w4.heap.size, 2, none⟩ v) w.heap.size K S v) :=
  (Fr.set (S := [w4.heap.size, w.heap.size]) w6 ⟨w4.heap.size, 2, none⟩ v (by simp)).trans (nset_fr _ _ _ _ _) (fun x hx => Or.inl (by simp at hx; simp [hx]))
 have hk : Keeps w6 (nset (w6.setCell ⟨w4.heap.size, 2, none⟩ v) w.heap.size K S v) bs := ⟨hf2.size, fun x hx hlt => hf2.block x hlt (fun hh => by
  have := (hm.range x hx).1
  simp at hh this
  omega)⟩
 have g1 := node_size X true
 have g2 := node_pos (x := X) (o := true) (by rw [hK])
 rw [hK] at g1
 have g3 := h.sz
 have g4 := h.hi
 have g5 := h.cnt
 have g6 := h.at_
 simp only [Ex.name] at g1
 have g7 : a2 = P + 1 := g6
 have g8 := h.lo
 refine ⟨⟨_, .mk K S l, bs, a3, n3, ok, rfl, ⟨v, rfl, by simp only [Ex.name]; omega, hl.keeps hk⟩, (hm.keeps hk).mono (by simp; omega), ((h.fr.trans (Fr.alloc (S := [b + 1, b + 2]) _ _) (fun x hx => Or.inl hx)).trans hf (fun x hx => Or.inl hx)).trans hf2 (fun x hx => Or.inr (by simp at hx; omega)), he.keep hf2 (fun x hx => by simp at hx; omega), by omega, h2, (fun hk => ⟨by omega, (h3 hk).1, by have := (h3 hk).2; rw [exSize]; omega⟩), fun e0 t q1 q2 q3 q4 => ?_⟩, ?_⟩
 · cases e0 with
   | mk k S2 L =>
   rcases h.fit k S2 L t q1 q2 q3 with ⟨r1, -⟩ | ⟨-, r1, r2⟩
   · rw [h.op] at r1; cases r1
   rw [hK] at r2
   obtain ⟨r4, -⟩ := Prod.mk.inj r2
   obtain ⟨rfl, rfl, -⟩ := Ex.mk.inj r4
   rw [exAll, Bool.and_eq_true] at q1
   rw [exSize] at q4
   obtain ⟨p1, rfl, p3, p4⟩ := hg L t q1.1 (by rw [g7]; exact r1) (by omega)
   exact ⟨p1, rfl, p3, by rw [exSize]; omega⟩
 exact nset_box (w := w) (hbx.far (p := ⟨w4.heap.size, 2, none⟩) (v := v) (by show w.heap.size ≠ w4.heap.size; omega)) K S v
end
theorem expr_step (b : Nat) (s : ByteArray) (hs : s.size ≤ 1048576) (k : Nat)
 (ih : ∀ (a n : Nat) (W : World), Env W b s a n → a ≤ s.size → n ≤ 80 → 80 - n < k → Calls Tryz.prog 103 #[ptr (b + 3), ptr (b + 5)] W (ArgsO b s a n W))
 (a n : Nat) (w : World) (h : Env w b s a n) (ha : a ≤ s.size) (hn : n ≤ 80) (hk : 80 - n ≤ k) :
 Calls Tryz.prog 104 #[ptr (b + 2), ptr (b + 4), ptr (b + 3), ptr (b + 6)] w (ExprO b s a n w) := by
 obtain ⟨N, hN⟩ : ∃ N, N = n + 1 := ⟨_, rfl⟩
 have hadd : IntKind.i64.wrap ((n : Int) + 1) = (N : Int) := by rw [hN]; exact IntWalk.i64_in _ (by omega)
 have HIH := zH ih
 have HN := zH hN
 have hbw := h.lt
 have n1 := h.nb.cell
 have n2 := h.nb.frozen
 have n3 := h.nb.lt
 obtain ⟨f0, v0, x0, z0⟩ := e0_facts h N
 have HF0 := zH f0
 have HX0 := zH x0
 have HZ0 := zH z0
 have e4 : (E0 w b N).cell? ⟨b + 4, 0, none⟩ = some _ := v0.wb.cell
 have HW := zH (own_word b s a N (E0 w b N) v0 ha hs)
 clear f0 v0 x0 z0 ih hN h
 obtain ⟨X, P, hX, hP, hPs, hXs, hfit⟩ := fit_at s a ha
 have haP : a ≤ P := by omega
 unfold WordO at HW
 rw [← hX, ← hP] at HW
 have HFIT := zH hfit
 clear hX hP hfit
 unfold E0 at e4
 go_enter Tryz.func104, Tryz.ntmps104
 go_wp2_with fail
 go_at_call 101
 refine HW.out.mono ?_
 rintro r w2 ⟨rfl, hf2, hr2⟩
 have HF2 := zH (HF0.out.trans hf2 (fun x hx => Or.inl (by simp at hx; simp [hx])))
 have HX2 := zH (HX0.out.keep hf2 (by simp; omega))
 have t2 := hr2.tb.cell
 have HT := zH (own_take b s P N 40 40 rfl w2 hr2 hPs hs)
 clear hf2 hr2 HW HF0 HX0 e4
 go_wp2_with fail
 go_at_call 100
 refine HT.out.mono ?_
 rintro r w3 ⟨rfl, hf3, hr3⟩
 have HF3 := zH (HF2.out.trans hf3 (fun x hx => Or.inl (by simp at hx; simp [hx])))
 have HX3 := zH (HX2.out.keep hf3 (by simp; omega))
 obtain ⟨o, ho⟩ : ∃ o, hd (rest s P) 40 = o := ⟨_, rfl⟩
 rw [ho] at hr3 ⊢
 have HO := zH ho
 have HR3 := zH hr3
 have HND := zH (own_node X o w3)
 clear hf3 hr3 ho HT HF2 HX2 t2
 go_wp2_with fail
 go_at_call 105
 refine HND.out.mono ?_
 rintro r w4 ⟨rfl, hb4⟩
 have HE := zH (show Eg b s a n w X P N o _ w4 from ⟨HF3.out.trans (Fr.of_below (S := [b + 1, b + 2]) hb4) (fun x hx => Or.inl hx), HR3.out.below hb4, HX3.out.keep (Fr.of_below (S := []) hb4) (by simp), haP, hPs, hXs, HN.out, rfl, HO.out, HFIT.out⟩)
 obtain ⟨q0, q1, q2, q3⟩ := HE.out.bx.cells
 have g0 := HE.out.bx.thaw 0
 have g1 := HE.out.bx.thaw 1
 have g2 := HE.out.bx.thaw 2
 have m1 := HE.out.env.nb.cell
 have m3 := HE.out.env.nb.lt
 have HNA := zH (node_args X o)
 clear hb4 HND HF3 HX3 HR3
 obtain ⟨y, hy⟩ : ∃ y, nodeE X o = y := ⟨_, rfl⟩
 rw [hy] at HNA ⊢
 have HY := zH hy
 clear hy
 obtain ⟨e1, ok⟩ := y
 cases e1 with
 | mk K S L0 =>
 obtain rfl : L0 = [] := HNA.out
 clear HNA
 simp only [Ex.kind, Ex.name]
 cases ok
 · obtain ⟨d1, d2⟩ := HE.out.fail hbw (Or.inl (by rw [HY.out])) (.cells #[.int .i64 K, .string S, .slice none 0 0] 34)
   obtain ⟨r0, r1, r2, -⟩ := d2.cells
   have HD := zH d1
   unfold nset at r0 r1 r2 HD
   clear d1 d2
   go_wp2_with fail
   refine bodyPost_ret (v := .tuple #[.agg #[.int .i64 0, .string ⟨#[]⟩, .slice none 0 0], .bool false]) (by simp [results, Tryz.results104, go_sem, r0, r1, r2]) rfl ?_
   exact HD.out
 by_cases h80 : 80 < N
 · have h80i : 80 < (N : Int) := by omega
   obtain ⟨d1, d2⟩ := HE.out.fail hbw (Or.inr h80) (.cells #[.int .i64 K, .string S, .slice none 0 0] 34)
   obtain ⟨r0, r1, r2, -⟩ := d2.cells
   have HD := zH d1
   unfold nset at r0 r1 r2 HD
   clear d1 d2
   go_wp2_with fail
   refine bodyPost_ret (v := .tuple #[.agg #[.int .i64 0, .string ⟨#[]⟩, .slice none 0 0], .bool false]) (by simp [results, Tryz.results104, go_sem, r0, r1, r2]) rfl ?_
   exact HD.out
 have h80i : ¬ 80 < (N : Int) := by omega
 have h80j : (N : Int) ≤ 80 := by omega
 cases o
 · obtain ⟨d1, d2⟩ := HE.out.plain hbw hs HY.out (by omega) (.cells #[.int .i64 K, .string S, .slice none 0 0] 34)
   obtain ⟨r0, r1, r2, -⟩ := d2.cells
   have HD := zH d1
   unfold nset at r0 r1 r2 HD
   clear d1 d2
   go_wp2_with fail
   refine bodyPost_ret (v := .tuple #[.agg #[.int .i64 K, .string S, .slice none 0 0], .bool true]) (by simp [results, Tryz.results104, go_sem, r0, r1, r2]) rfl ?_
   exact HD.out
 obtain ⟨w5, hw5⟩ : ∃ w5, w5 = w4.alloc (.cells #[.int .i64 K, .string S, .slice none 0 0] 34) := ⟨_, rfl⟩
 have a1 := HE.out.env.ab.cell
 have a3 := HE.out.env.ab.lt
 have henv5 : Env w5 b s (P + 1) N := by rw [hw5]; exact HE.out.env.keep (Fr.alloc (S := []) _ _) (by simp)
 have HCALL := zH (HIH.out (P + 1) N w5 henv5 (by have := HE.out.le.2; exact this) (by omega) (by have := HN.out; omega))
 have hbx5 : Bx w5 w4.heap.size K S (.slice none 0 0) := by rw [hw5]; exact heap_alloc_new _ _
 have HBX5 := zH hbx5
 have hRX := (HE.out.bx.keep (Fr.alloc (S := []) w4 (.cells #[.int .i64 K, .string S, .slice none 0 0] 34)) (by simp))
 rw [← hw5] at hRX
 have HRX := zH hRX
 have HW5 := zH hw5
 clear henv5 hbx5 hRX
 go_wp2_with fail
 rw [← HW5.out]
 go_at_call 103
 refine HCALL.out.mono ?_
 rintro r w6 ⟨v, l, bs, a3, n3, ok, rfl, hl, hm, hf, he, h1, h2, h3, hg⟩
 obtain ⟨A2, c2, rfl, -⟩ := id hl
 obtain ⟨d1, d2⟩ := HE.out.call hbw hs HY.out hl (by rw [← HW5.out]; exact hm) (by rw [← HW5.out]; exact hf) he h1 h2 h3 hg
 have hb6 := HBX5.out.keep hf (by have := HE.out.bx.cells.2.2.2; simp; omega)
 obtain ⟨p0, p1, p2, p3⟩ := hb6.cells
 have f2 := hb6.thaw 2
 have hr6 := HRX.out.keep hf (by simp; omega)
 obtain ⟨u0, u1, u2, u3⟩ := hr6.cells
 have v0 := hr6.thaw 0
 have v1 := hr6.thaw 1
 have v2 := hr6.thaw 2
 obtain ⟨r0, r1, r2, -⟩ := d2.cells
 have HD := zH d1
 have hne : ¬ w.heap.size = w4.heap.size := by have := HE.out.bx.cells.2.2.2; omega
 have hne2 : ¬ w4.heap.size = w.heap.size := fun hh => hne hh.symm
 unfold nset at r0 r1 r2 HD
 clear d1 d2 hl hm hf he h1 h2 h3 hg hb6 hr6 a1 a3 m1 m3 q0 q1 q2 q3 g0 g1 g2 HRX HBX5 HW5 HCALL HY HE
 generalize w4.heap.size = E at *
 generalize w.heap.size = R at *
 generalize l.length = p at *
 go_wp2_with fail
 refine bodyPost_ret (v := .tuple #[.agg #[.int .i64 K, .string S, .slice A2 p c2], .bool ok]) (by simp [results, Tryz.results104, go_sem, r0, r1, r2]) rfl ?_
 exact HD.out
theorem expr_all (b : Nat) (s : ByteArray) (hs : s.size ≤ 1048576) : ∀ k, ExprC b s k := by
 intro k
 induction k with
 | zero => exact fun a n W h ha hn hk => expr_step b s hs 0 (fun _ _ _ _ _ _ hlt => absurd hlt (Nat.not_lt_zero _)) a n W h ha hn hk
 | succ k ih => exact fun a n W h ha hn hk => expr_step b s hs (k + 1) (fun a n W h ha hn hlt => own_pargs b s hs k ih a n W h ha hn (by omega)) a n W h ha hn hk
end Go.Proofs.YthljhiklpopmgaaGreatDoor
