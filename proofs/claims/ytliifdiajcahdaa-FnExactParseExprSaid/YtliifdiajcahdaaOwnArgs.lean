/- The contract of the program's own args (the parser of expressions), from that of its expr. Condition: a text of at most 1048576 bytes. -/
import Derived.Test.YtliifdiajcahdaaOwnFit
namespace Go.Proofs.Ytliifdiajcahdaa
open Go Go.RowKit

theorem sizes_more : ∀ (a b : List Ex), exSizes (a ++ b) = exSizes a + exSizes b := by
  intro a
  induction a with
  | nil => intro b; simp [exSizes]
  | cons x r ih => intro b; rw [List.cons_append, exSizes, exSizes, ih]; omega
theorem join_two (e x : Ex) (l : List Ex) (r : List UInt8) : Lib.join (exTexts (e :: x :: l)) [44] ++ 41 :: r = exText e ++ 44 :: (Lib.join (exTexts (x :: l)) [44] ++ 41 :: r) := by
  rw [exTexts, exTexts, Lib.join_cons, Lib.join_cons]
  simp [Lib.joinTail]
theorem join_uno (e : Ex) (r : List UInt8) : Lib.join (exTexts [e]) [44] ++ 41 :: r = exText e ++ 41 :: r := by
  rw [exTexts, exTexts, Lib.join_one]
theorem rest_next {s : ByteArray} {a : Nat} {c : UInt8} {t : List UInt8} (h : rest s a = c :: t) : rest s (a + 1) = t := by
  rw [← rest_drop, h]; rfl
theorem rest_lt {s : ByteArray} {a : Nat} {c : UInt8} (h : hd (rest s a) c = true) : a + 1 ≤ s.size := by
  apply Decidable.byContradiction
  intro hh
  have : rest s a = [] := List.eq_nil_of_length_eq_zero (by rw [rest_len]; omega)
  rw [this] at h
  cases h

/-- What the loop of args holds. -/
structure Ag (b : Nat) (s : ByteArray) (a0 n0 : Nat) (w : World) (v : Value) (out : List Ex) (bs : List Nat) (a n : Nat) (W : World) : Prop where
  kids : Kids w.heap.size W v out bs
  env : Env W b s a n
  fr : Fr [b + 1, b + 2] w W
  lo : a0 ≤ a
  hi : a ≤ s.size
  cnt : exSizes out + n0 ≤ n ∧ n ≤ 80
  pend : ∀ L t, exAllL L = true → rest s a0 = Lib.join (exTexts L) [44] ++ 41 :: t → n0 + exSizes L ≤ 80 → ∃ e0 L2, L = out ++ e0 :: L2 ∧ rest s a = Lib.join (exTexts (e0 :: L2)) [44] ++ 41 :: t ∧ n = n0 + exSizes out
/-- The same behind an element more, before what follows it is looked at. -/
structure Ah (b : Nat) (s : ByteArray) (a0 n0 : Nat) (w : World) (v : Value) (out : List Ex) (bs : List Nat) (a n : Nat) (W : World) : Prop where
  kids : Kids w.heap.size W v out bs
  env : Env W b s a n
  fr : Fr [b + 1, b + 2] w W
  lo : a0 ≤ a
  hi : a ≤ s.size
  cnt : exSizes out + n0 ≤ n ∧ n ≤ 80
  pend : ∀ L t, exAllL L = true → rest s a0 = Lib.join (exTexts L) [44] ++ 41 :: t → n0 + exSizes L ≤ 80 → ∃ L2, L = out ++ L2 ∧ n = n0 + exSizes out ∧ ((L2 = [] ∧ rest s a = 41 :: t) ∨ ∃ e1 L3, L2 = e1 :: L3 ∧ rest s a = 44 :: (Lib.join (exTexts (e1 :: L3)) [44] ++ 41 :: t))
section
variable {b : Nat} {s : ByteArray} {a0 n0 a n a2 n2 : Nat} {w wr W W2 w2 w3 : World} {v u : Value} {out : List Ex} {e : Ex} {bs b1 : List Nat}
theorem Ag.start (h : Env W b s a0 n0) (hn : n0 ≤ 80) (ha : a0 ≤ s.size) (hf : Fr [b + 1, b + 2] w W) (h41 : hd (rest s a0) 41 = false) : Ag b s a0 n0 w (.slice none 0 0) [] [] a0 n0 W := by
  refine ⟨Kids.nilled _ _, h, hf, Nat.le_refl _, ha, ⟨by simp [exSizes], hn⟩, fun L t h1 h2 h3 => ?_⟩
  cases L with
  | nil => rw [h2] at h41; exact absurd h41 (by simp [exTexts, Lib.join_nil, hd])
  | cons e r => exact ⟨e, r, rfl, h2, by simp [exSizes]⟩
/-- The expression that a right list asks for at this place. -/
theorem Ag.wants {ok : Bool} (h : Ag b s a0 n0 w v out bs a n wr) (hg : Fits s a n e a2 n2 ok) (L : List Ex) (t : List UInt8) (h1 : exAllL L = true) (h2 : rest s a0 = Lib.join (exTexts L) [44] ++ 41 :: t) (h3 : n0 + exSizes L ≤ 80) :
    ok = true ∧ ∃ L2, L = (out ++ [e]) ++ L2 ∧ n2 = n0 + exSizes (out ++ [e]) ∧ ((L2 = [] ∧ rest s a2 = 41 :: t) ∨ ∃ e1 L3, L2 = e1 :: L3 ∧ rest s a2 = 44 :: (Lib.join (exTexts (e1 :: L3)) [44] ++ 41 :: t)) := by
  obtain ⟨e0, L2, rfl, h4, h5⟩ := h.pend L t h1 h2 h3
  rw [all_app, Bool.and_eq_true] at h1
  have ha := h1.2
  rw [exAllL, Bool.and_eq_true] at ha
  rw [sizes_more, exSizes] at h3
  cases L2 with
  | nil =>
    rw [join_uno] at h4
    obtain ⟨g1, rfl, g3, g4⟩ := hg e0 (41 :: t) ha.1 h4 (Or.inr ⟨41, t, rfl, Or.inl rfl⟩) (by omega)
    refine ⟨g1, [], by simp, ?_, Or.inl ⟨rfl, g3⟩⟩
    rw [sizes_more, exSizes, exSizes]; omega
  | cons e1 L3 =>
    rw [join_two] at h4
    obtain ⟨g1, rfl, g3, g4⟩ := hg e0 _ ha.1 h4 (Or.inr ⟨44, _, rfl, Or.inr rfl⟩) (by omega)
    refine ⟨g1, e1 :: L3, by simp, ?_, Or.inr ⟨e1, L3, rfl, g3⟩⟩
    rw [sizes_more, exSizes, exSizes]; omega
theorem Ag.push {vs : List Value} {o : Obj} {g cap : Nat} (hb : b + 6 < w.heap.size)
    (h : Ag b s a0 n0 w v out bs a n wr) (he : ExIs w2 (.agg #[.int .i64 e.kind, .string e.name, u]) e b1) (hm : Mine w2 wr.heap.size b1) (hf : Fr [b + 1, b + 2] wr w2) (hr : Env w2 b s a2 n2) (h1 : a ≤ a2) (h2 : a2 ≤ s.size) (h3 : n2 ≤ 80 ∧ exSize e + n ≤ n2) (hg : Fits s a n e a2 n2 true)
    (hvs : w2.ownsRow w.heap.size 26 3 v out.length vs ∧ CellsOf w2 out vs bs)
    (ho : w3.ownsRow w.heap.size 26 3 (.slice (some ⟨g, 0, none⟩) (out.length + 1) cap) (out.length + 1) (vs ++ [.int .i64 e.kind, .string e.name, u])) (hw : (w2.alloc o).grownBy w3 v.ownBlock) (hat : v.ownBlock = some g ∨ g = (w2.alloc o).heap.size) :
    ∃ bs3, Ah b s a0 n0 w (.slice (some ⟨g, 0, none⟩) (out.length + 1) cap) (out ++ [e]) bs3 a2 n2 w3 := by
  have hk2 : Kids w.heap.size w2 v out bs := h.kids.keep hf (fun x hx => by simp at hx; omega)
  have hrow : ∀ k, v.ownBlock = some k → w.heap.size ≤ k ∧ k < wr.heap.size := fun k hk => by
    obtain ⟨vs2, hr2, -⟩ := h.kids.row
    exact hr2.lt k hk
  have hK := hk2.push (o := o) (C := wr.heap.size) h.fr.size (fun x hx => by
    rcases hx with hx | hx
    · exact (h.kids.mine.range x hx).2
    · exact (hrow x hx).2) hvs he hm ho hw hat
  have hF3 : Fr v.ownBlock.toList (w2.alloc o) w3 := Fr.grown hw (fun k hk => by simp [hk])
  have hF : Fr v.ownBlock.toList w2 w3 := (Fr.alloc w2 o).trans hF3 (fun x hx => Or.inl hx)
  have hl := h.lo
  have hc := h.cnt
  refine ⟨_, hK, ?_, ?_, by omega, h2, ?_, fun L t g1 g2 g3 => (h.wants hg L t g1 g2 g3).2⟩
  · exact hr.keep hF (fun x hx => Or.inr (by have := (hrow x (by simpa using hx)).1; omega))
  · refine (h.fr.trans hf (fun x hx => Or.inl hx)).trans hF (fun x hx => Or.inr (hrow x (by simpa using hx)).1)
  · rw [sizes_more, exSizes, exSizes]; omega
/-- A comma follows: the list goes on. -/
theorem Ah.comma (hb : b + 6 < w.heap.size) (h : Ah b s a0 n0 w v out bs a n W) (hc : hd (rest s a) 44 = true) (hf : Fr [b + 1] W W2) (hr : Env W2 b s (a + 1) n) :
    Ag b s a0 n0 w v out bs (a + 1) n W2 := by
  have hl := h.lo
  refine ⟨h.kids.keep hf (fun x hx => by simp at hx; omega), hr, h.fr.trans hf (fun x hx => Or.inl (by simp at hx; simp [hx])), by omega, rest_lt hc, h.cnt, fun L t h1 h2 h3 => ?_⟩
  obtain ⟨L2, rfl, h5, h6⟩ := h.pend L t h1 h2 h3
  rcases h6 with ⟨rfl, h6⟩ | ⟨e1, L3, rfl, h6⟩
  · rw [h6] at hc; exact absurd hc (by simp [hd])
  · exact ⟨e1, L3, rfl, rest_next h6, h5⟩
/-- No comma follows: what has been read. -/
theorem Ah.done (hb : b + 6 < w.heap.size) (h : Ah b s a0 n0 w v out bs a n W) (hc : hd (rest s a) 44 = false) (ok : Bool) (hk : hd (rest s a) 41 = ok) (hf : Fr [b + 1] W W2) (hr : Env W2 b s (if ok then a + 1 else a) n) :
    ArgsO b s a0 n0 w (.returned (.tuple #[v, .bool ok])) W2 := by
  obtain ⟨bs2, k1, k2⟩ := (h.kids.keep hf (fun x hx => by simp at hx; omega)).is
  have hl := h.lo
  have hh := h.hi
  refine ⟨v, out, bs2, _, n, ok, rfl, k1, k2, h.fr.trans hf (fun x hx => Or.inl (by simp at hx; simp [hx])), hr, ?_, ?_, fun _ => ⟨h.cnt.2, h.cnt.1⟩, fun L t h1 h2 h3 => ?_⟩
  · split <;> omega
  · split
    · exact rest_lt (c := 41) (by rw [hk]; assumption)
    · exact hh
  · obtain ⟨L2, rfl, h5, h6⟩ := h.pend L t h1 h2 h3
    rcases h6 with ⟨rfl, h6⟩ | ⟨e1, L3, rfl, h6⟩
    · have ho : ok = true := by rw [← hk, h6]; simp [hd]
      subst ho
      exact ⟨rfl, by simp, rest_next h6, by simpa using h5⟩
    · rw [h6] at hc; exact absurd hc (by simp [hd])
/-- A part is none. -/
theorem Ag.fail (h : Ag b s a0 n0 w v out bs a n wr) (hf : Fr [b + 1, b + 2] wr w2) (hr : Env w2 b s a2 n2) (h1 : a ≤ a2) (h2 : a2 ≤ s.size) (hg : Fits s a n e a2 n2 false) (o : Obj) :
    ArgsO b s a0 n0 w (.returned (.tuple #[.slice none 0 0, .bool false])) (w2.alloc o) := by
  have hl := h.lo
  refine ⟨_, [], [], a2, n2, false, rfl, ⟨_, _, rfl, Nat.le_refl _, by omega, Or.inl ⟨rfl, rfl⟩⟩, Mine.nil _ _, (h.fr.trans hf (fun x hx => Or.inl hx)).trans (Fr.alloc w2 o) (fun x hx => Or.inl hx), hr.keep (S := []) (Fr.alloc w2 o) (by simp), by omega, h2, (fun hx => by cases hx), fun L t g1 g2 g3 => ?_⟩
  exact absurd (h.wants hg L t g1 g2 g3).1 (by simp)
/-- No argument. -/
theorem args_none (h : Env W b s (a0 + 1) n0) (hn : n0 ≤ 80) (hf : Fr [b + 1] w W) (h41 : hd (rest s a0) 41 = true) : ArgsO b s a0 n0 w (.returned (.tuple #[.slice none 0 0, .bool true])) W := by
  refine ⟨_, [], [], a0 + 1, n0, true, rfl, ⟨_, _, rfl, Nat.le_refl _, by omega, Or.inl ⟨rfl, rfl⟩⟩, Mine.nil _ _, hf.mono (fun x hx => Or.inl (by simp at hx; simp [hx])), h, by omega, rest_lt h41, fun _ => ⟨hn, by simp [exSizes]⟩, fun L t h1 h2 h3 => ?_⟩
  cases L with
  | nil =>
    refine ⟨rfl, rfl, ?_, by simp [exSizes]⟩
    rw [exTexts, Lib.join_nil] at h2
    exact rest_next h2
  | cons e r =>
    rw [exAllL, Bool.and_eq_true] at h1
    obtain ⟨x, q, e1, e2⟩ := text_head h1.1
    rw [h2, exTexts, Lib.join_cons, e1] at h41
    exact absurd h41 (by simp [hd, e2])
end

/-- What is asked of expr: k nodes may still be counted. -/
def ExprC (b : Nat) (s : ByteArray) (k : Nat) : Prop := ∀ (a n : Nat) (W : World), Env W b s a n → a ≤ s.size → n ≤ 80 → 80 - n ≤ k →
  Calls Try.prog 76 #[ptr (b + 2), ptr (b + 4), ptr (b + 3), ptr (b + 6)] W (ExprO b s a n W)

set_option maxHeartbeats 4000000 in
theorem own_pargs (b : Nat) (s : ByteArray) (hs : s.size ≤ 1048576) (k : Nat) (ih : ExprC b s k) (a0 n0 : Nat) (w : World) (h : Env w b s a0 n0) (ha : a0 ≤ s.size) (hn : n0 ≤ 80) (hk : 80 - n0 ≤ k) :
    Calls Try.prog 75 #[ptr (b + 3), ptr (b + 5)] w (ArgsO b s a0 n0 w) := by
  obtain ⟨i0, hi, hz0, hz1, hz2⟩ := info_parts Try.infoEx
  have HI := Lib.hid (And.intro hi (And.intro hz0 (And.intro hz1 hz2)))
  clear hi hz0 hz1 hz2
  have HIH := Lib.hid ih
  have HE := Lib.hid h
  have hbw := h.lt
  have t1 := h.tb.cell
  have HT := Lib.hid (own_take b s a0 n0 41 41 rfl w h ha hs)
  clear ih h
  go_enter Try.func75, Try.ntmps75
  go_wp2_with fail
  go_at_call 72
  refine HT.out.mono ?_
  rintro r w1 ⟨rfl, hf1, hr1⟩
  have HF1 := Lib.hid hf1
  clear HT
  cases h41 : hd (rest s a0) 41
  · rw [h41] at hr1
    have H0 := Lib.hid (Ag.start (w := w) (W := w1) hr1 hn ha (HF1.out.mono (fun x hx => Or.inl (by simp at hx; simp [hx]))) h41)
    clear hf1 hr1 h41
    go_wp2_with fail
    go_loopw [4] (fun v wr => ∃ (out : List Ex) (bs : List Nat) (a n : Nat), Hid (Ag b s a0 n0 w v out bs a n wr)) (fun _ wr => s.size + 1 - (intOf ((wr.cell? ⟨b + 1, 0, none⟩).getD (.int .i64 0))).toNat)
    case atStart => exact ⟨[], [], a0, n0, H0⟩
    case round =>
      clear H0
      obtain ⟨out, bs, a, n, HA⟩ := hrel
      obtain ⟨A, c, rfl, hqc, hcm⟩ := HA.out.kids.form
      obtain ⟨q, hq⟩ : ∃ q, q = out.length := ⟨_, rfl⟩
      rw [← hq] at HA hqc ⊢
      have hq2 : q ≤ 80 := by have h1 := sizes_len out; have h2 := HA.out.cnt; omega
      have HQ := Lib.hid hq
      have HCALL := Lib.hid (HIH.out a n wr HA.out.env HA.out.hi HA.out.cnt.2 (by have := HA.out.cnt; omega))
      have HME := Lib.hid (show s.size + 1 - (intOf ((wr.cell? ⟨b + 1, 0, none⟩).getD (.int .i64 0))).toNat = s.size + 1 - a by rw [HA.out.env.pb.cell]; simp [intOf])
      have C1 := Lib.hid (show q + 1 ≤ maxLen by unfold maxLen; omega)
      have C2 := Lib.hid (show (q + 1) * 48 ≤ 140737488355328 by omega)
      have x1 := HA.out.env.eb.cell
      clear hq
      go_wp2_with fail
      go_at_call 76
      refine HCALL.out.mono ?_
      rintro r w2 ⟨v2, e, b1, a2, n2, ok, rfl, his, hm2, hf2, hr2, hle, hhi, hcnt, hfit⟩
      obtain ⟨u2, rfl, -, hu2⟩ := id his
      obtain ⟨A2, c2, rfl, -⟩ := id hu2
      cases ok
      · have HD := Lib.hid (HA.out.fail hf2 hr2 hle hhi hfit (.cells #[.int .i64 e.kind, .string e.name, .slice A2 e.args.length c2] 26))
        clear his hm2 hf2 hr2 hle hhi hcnt hfit hu2
        go_wp2_with fail
        go_ret2
        exact HD.out
      · obtain ⟨-, hn2, hsz⟩ := hcnt rfl
        obtain ⟨X, hX⟩ : ∃ X, X = w2.alloc (.cells #[.int .i64 e.kind, .string e.name, .slice A2 e.args.length c2] 26) := ⟨_, rfl⟩
        have hbx : Below w2.heap.size w2 X := by rw [hX]; exact (Below.refl _ _).alloc (Nat.le_refl _) _
        have hisX := his.below hbx
        have hmX := hm2.keeps (keeps_below hbx b1)
        have hfX : Fr [b + 1, b + 2] wr X := hf2.trans (Fr.of_below (S := [b + 1, b + 2]) hbx) (fun x hx => Or.inl hx)
        have hrX := hr2.below hbx
        obtain ⟨vs, hvs, hcs⟩ := (HA.out.kids.keep hfX (fun x hx => by simp at hx; omega)).row
        have HP := Lib.hid (fun (w3 : World) (g cap : Nat) => HA.out.push (w3 := w3) (g := g) (cap := cap) (o := .cells #[.int .i64 e.kind, .string e.name, .slice A2 e.args.length c2] 26) hbw hisX hmX hfX hrX hle hhi ⟨hn2, hsz⟩ hfit ⟨hvs, hcs⟩)
        have HVS := Lib.hid (show (X.alloc (.cells #[.int .i64 e.kind, .string e.name, .slice A2 e.args.length c2] 26)).ownsRow w.heap.size 26 3 (.slice A q c) q vs from by
          have h1 := hvs.alloc (.cells #[.int .i64 e.kind, .string e.name, .slice A2 e.args.length c2] 26)
          rw [← HQ.out] at h1
          exact h1)
        rw [← HQ.out] at HP
        have C4 := Lib.hid (show w.heap.size ≤ (X.alloc (.cells #[.int .i64 e.kind, .string e.name, .slice A2 e.args.length c2] 26)).heap.size by have := HA.out.fr.size; have := hfX.size; simp; omega)
        have HNW := Lib.hid (World.news_of_block (w := X.alloc (.cells #[.int .i64 e.kind, .string e.name, .slice A2 e.args.length c2] 26)) (heap_alloc_new _ _))
        have H1C := Lib.hid (show ∀ u ∈ ([.int .i64 e.kind, .string e.name, .slice A2 e.args.length c2] : List Value), u.oneCell' = true from fun u hu => by
          simp at hu
          rcases hu with rfl | rfl | rfl <;> rfl)
        have HLE := Lib.hid hle
        subst hX
        clear his hm2 hf2 hr2 hhi hcnt hfit hvs hcs hu2 hle hbx hisX hmX hfX hrX hn2 hsz
        generalize e.args.length = p at *
        go_wp2_with (at_builtin; (refine wpList_append_lies _ rfl (.tmp 17) (.tmp 19) 24 rfl w.heap.size 26 i0 (.agg #[.int .i64 0, .string ⟨#[]⟩, .slice none 0 0]) 3 48 Try.underlying24 HI.out.1 HI.out.2.1 HI.out.2.2.1 HI.out.2.2.2 rfl (by decide) (.slice A q c) q vs rfl HVS.out ⟨w2.heap.size + 1, 0, none⟩ 1 1 [.int .i64 e.kind, .string e.name, .slice A2 p c2] rfl rfl (by have hh := HNW.out; simp only [World.size_alloc] at hh; exact hh) H1C.out (by decide) C1.out C2.out C4.out _ rfl ?_); intro g cap w3 ho3 hg3 hat3 hlt3; obtain ⟨bs3, h5⟩ := HP.out w3 g cap ho3 hg3 hat3; have H5 := Lib.hid h5; have t3 := h5.env.tb.cell; clear ho3 hg3 hat3 h5)
        have HT2 := Lib.hid (own_take b s a2 n2 44 44 rfl w3 H5.out.env H5.out.hi hs)
        go_at_call 72
        refine HT2.out.mono ?_
        rintro r w4 ⟨rfl, hf4, hr4⟩
        have HF4 := Lib.hid hf4
        have hhi := H5.out.hi
        cases h44 : hd (rest s a2) 44
        · rw [h44] at hr4
          have HR4 := Lib.hid hr4
          have t4 := hr4.tb.cell
          have HT3 := Lib.hid (own_take b s a2 n2 41 41 rfl w4 hr4 hhi hs)
          have H44 := Lib.hid h44
          clear hr4 hf4 HT2 h44
          go_wp2_with fail
          go_at_call 72
          refine HT3.out.mono ?_
          rintro r w5 ⟨rfl, hf5, hr5⟩
          have HD := Lib.hid (H5.out.done hbw H44.out (hd (rest s a2) 41) rfl (HF4.out.trans hf5 (fun x hx => Or.inl hx)) hr5)
          clear hf5 hr5 HT3
          go_wp2_with fail
          go_ret2
          exact HD.out
        · rw [h44] at hr4
          have HA2 := Lib.hid (H5.out.comma hbw h44 hf4 hr4)
          have HM2 := Lib.hid (show s.size + 1 - (intOf ((w4.cell? ⟨b + 1, 0, none⟩).getD (.int .i64 0))).toNat < s.size + 1 - (intOf ((wr.cell? ⟨b + 1, 0, none⟩).getD (.int .i64 0))).toNat by
            rw [HME.out, (Env.pb hr4).cell]
            have h1 := HLE.out
            have h2 := rest_lt h44
            rw [show ((some (Value.int .i64 ((if true = true then a2 + 1 else a2 : Nat) : Int))).getD (.int .i64 0)) = .int .i64 ((a2 + 1 : Nat) : Int) from rfl, show intOf (.int .i64 ((a2 + 1 : Nat) : Int)) = ((a2 + 1 : Nat) : Int) from rfl, Int.toNat_natCast]
            omega)
          clear hr4 hf4 HT2 h44
          go_wp2_with fail
          go_roundw
          case rel => exact ⟨_, _, _, _, HA2⟩
          case measure => exact HM2.out
  · rw [h41] at hr1
    have HD := Lib.hid (args_none hr1 hn hf1 h41)
    clear hf1 hr1 h41
    go_wp2_with fail
    go_ret2
    exact HD.out
end Go.Proofs.Ytliifdiajcahdaa
