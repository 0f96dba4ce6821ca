/- The contracts of the library's slices.EqualFunc on bindings, of the program's function literal in EqualBindings, and of its own EqualBindings. Conditions: fewer than 2^20 values; no string shares the memory of the arguments. -/
import Derived.Test.YtmndlhbgacgnlaaOwnEqual
import Derived.Test.YtmndlhbgacgnlaaBiEqual
namespace Go.Proofs.Ytmndlhbgacgnlaa
open Go Go.RowKit

theorem BlIs.get2 {w : World} {A : Option Addr} {n c : Nat} {l : List Bi} {bs : List Nat} (h : BlIs w (.slice A n c) l bs) (k : Nat) (hk : k < l.length) : ∃ g o r u b, BindAt w A l k g o r u b ∧ ∀ x ∈ b, x ∈ bs := by
  obtain ⟨A', c', e, h1, h2, h4⟩ := h
  cases e
  rcases h4 with ⟨rfl, -⟩ | ⟨g, o, bs', rfl, h5, rfl, h6⟩
  · simp at hk
  · have hg : l[k]? = some l[k] := List.getElem?_eq_getElem hk
    obtain ⟨b1, ⟨u, h7, h8⟩, h9⟩ := h6.get l 0 bs' k _ hg
    rw [Nat.zero_add] at h7
    exact ⟨g, o, l[k], u, b1, ⟨rfl, h5, hg, List.getElem_mem hk, h7, h8⟩, fun x hx => List.mem_cons_of_mem _ (h9 x hx)⟩
theorem bisAt_low {w : World} {g o : Nat} : ∀ (l : List Bi) (j : Nat) (bs : List Nat), BisAt w g o j l bs → ∀ x ∈ bs, x < w.heap.size := by
  intro l
  induction l with
  | nil => intro j bs h x hx; rw [show bs = [] from h] at hx; cases hx
  | cons e r ih =>
    intro j bs h x hx
    obtain ⟨b1, b2, rfl, ⟨u, -, h8⟩, h2⟩ := h
    rcases List.mem_append.1 hx with hx | hx
    · obtain ⟨u', e1, -, h3⟩ := h8
      exact ru_lt h3 x hx
    · exact ih (j + 1) b2 h2 x hx
theorem bl_low {w : World} {v : Value} {l : List Bi} {bs : List Nat} (h : BlIs w v l bs) : ∀ x ∈ bs, x < w.heap.size := by
  obtain ⟨A, c, -, -, -, h4⟩ := h
  intro x hx
  rcases h4 with ⟨-, rfl⟩ | ⟨g, o, bs', -, h5, rfl, h6⟩
  · cases hx
  · rcases List.mem_cons.1 hx with rfl | hx
    · exact h5
    · exact bisAt_low l 0 bs' h6 x hx

/-- The nodes of a list of bindings. -/
def bisNodes : List Bi → Nat
  | [] => 0
  | r :: l => exSize r.val + bisNodes l
theorem bisNodes_app : ∀ a b : List Bi, bisNodes (a ++ b) = bisNodes a + bisNodes b := by
  intro a
  induction a with
  | nil => intro b; simp [bisNodes]
  | cons x r ih => intro b; rw [List.cons_append, bisNodes, bisNodes, ih]; omega
theorem bisNodes_snoc (l : List Bi) (k : Nat) (e : Bi) (h : l[k]? = some e) : bisNodes (l.take (k + 1)) = bisNodes (l.take k) + exSize e.val := by
  rw [take_bi l k e h, bisNodes_app]; simp [bisNodes]
theorem bisNodes_take (l : List Bi) (k : Nat) : bisNodes (l.take k) ≤ bisNodes l := by
  have h : bisNodes l = bisNodes (l.take k) + bisNodes (l.drop k) := by rw [← bisNodes_app, List.take_append_drop]
  omega
theorem bisNodes_tot : ∀ l : List Bi, bisNodes l ≤ bisTot l := by
  intro l
  induction l with
  | nil => simp [bisNodes, bisTot]
  | cons e r ih =>
    have h2 := (tot_size (exSize e.val)).1 e.val (Nat.le_refl _)
    rw [bisNodes, bisTot, biTot]
    omega

def BiPost {wo : World} {G : List Nat} (r s : Bi) (kq N : Nat) (mo : Option Nat) (w : World) (e : Ending) (w2 : World) : Prop :=
  ∃ (N2 : Nat) (mo2 : Option Nat), e = .returned (.bool (biEq r s)) ∧ Fr (kq :: mo.toList) w w2 ∧ (biEq r s = true → EqSt (wo := wo) (G := G) [] kq N2 mo2 w2 ∧ N2 ≤ N + exSize r.val)

set_option maxRecDepth 100000 in
set_option maxHeartbeats 4000000 in
theorem own_bieq {wo : World} {G : List Nat} (r s : Bi) (v v2 : Value) (b b2 : List Nat) (kq N : Nat) (mo : Option Nat) (w : World) (hv : BiIs wo v r b) (hv2 : BiIs wo v2 s b2) (hG : ∀ z ∈ b ++ b2, z ∈ G) (hGl : ∀ z ∈ G, z < wo.heap.size) (hst : EqSt (wo := wo) (G := G) [] kq N mo w) (hlow : Below wo.heap.size wo w) (hkq : wo.heap.size ≤ kq) (hb : N + exSize r.val ≤ 2199023255552) (hfr : ∀ p : Pl wo G, FreeB wo p.adr.block) :
    Calls Try.prog 97 #[v, v2, .pointer (some ⟨kq, 0, none⟩)] w (BiPost (wo := wo) (G := G) r s kq N mo w) := by
  obtain ⟨u, rfl, -, h3⟩ := hv
  obtain ⟨y, rfl, -, g3⟩ := hv2
  have HC := Lib.hid (fun (W : World) (hbw : Below w.heap.size w W) => own_include r.val s.val _ _ b b2 kq N mo W h3 g3 hG hGl (hst.below hbw) (hlow.trans (hbw.mono hlow.size)) hkq hb hfr)
  have HST := Lib.hid hst
  have HRE := Lib.hid (show biEq r s = (decide (r.name = s.name) && exEq r.val s.val) from rfl)
  obtain ⟨X3, n3, i3, rfl⟩ := bi_slice h3
  obtain ⟨X6, n6, i6, rfl⟩ := bi_slice g3
  clear h3 g3 hG hGl hst hlow hkq hb hfr
  generalize r.name = N1 at *
  generalize r.val.kind = K1 at *
  generalize r.val.name = S1 at *
  generalize s.name = N2 at *
  generalize s.val.kind = K2 at *
  generalize s.val.name = S2 at *
  have HB0 := Lib.hid (((Below.refl w.heap.size w).alloc (Nat.le_refl _) (.cells #[.string N1, .int .i64 K1, .string S1, .slice X3 n3 i3] 135)).alloc (by simp) (.cells #[.string N2, .int .i64 K2, .string S2, .slice X6 n6 i6] 135))
  go_enter Try.func97, Try.ntmps97
  by_cases hx : N1 = N2
  · have hbe := beq_yes hx
    rw [decide_eq_true hx] at HRE
    clear hx
    go_wp2_with fail
    go_at_call 69
    refine (HC.out _ HB0.out).mono ?_
    rintro e w2 ⟨M2, mo2, rfl, hf2, hst2⟩
    have HF := Lib.hid ((Fr.of_below (S := kq :: mo.toList) HB0.out).trans hf2 (fun x hx => Or.inl hx))
    have HS2 := Lib.hid hst2
    clear hf2 hst2
    go_wp2_with fail
    go_ret
    exact ⟨M2, mo2, by rw [HRE.out]; simp, HF.out, fun h => by
      rw [HRE.out, Bool.true_and] at h
      exact ⟨(HS2.out h).1, (HS2.out h).2.1⟩⟩
  · have hbe := beq_no hx
    rw [decide_eq_false hx] at HRE
    clear hx
    go_wp2_with fail
    go_ret
    exact ⟨N, mo, by rw [HRE.out]; rfl, Fr.of_below HB0.out, fun h => by rw [HRE.out] at h; cases h⟩

set_option maxRecDepth 100000 in
set_option maxHeartbeats 8000000 in
theorem own_eqfuncb {wo : World} {G : List Nat} (l m : List Bi) (v v2 : Value) (bs b2 : List Nat) (kq : Nat) (w : World) (hv : BlIs wo v l bs) (hv2 : BlIs wo v2 m b2) (hG : ∀ z ∈ bs ++ b2, z ∈ G) (hGl : ∀ z ∈ G, z < wo.heap.size) (hst : EqSt (wo := wo) (G := G) [] kq 0 none w) (hlow : Below wo.heap.size wo w) (hkq : wo.heap.size ≤ kq) (hb : bisTot l ≤ 1048576) (hfr : ∀ p : Pl wo G, FreeB wo p.adr.block) :
    Calls Try.prog 96 #[v, v2, .func (.func 97) #[] #[.pointer (some ⟨kq, 0, none⟩)]] w (fun e w2 => e = .returned (.bool (eqBl l m)) ∧ Below wo.heap.size wo w2) := by
  obtain ⟨A, c, rfl, hc1, hc2, -⟩ := id hv
  obtain ⟨A2, c2, rfl, hc3, hc4, -⟩ := id hv2
  obtain ⟨n, hn⟩ : ∃ n, n = l.length := ⟨_, rfl⟩
  obtain ⟨q, hq⟩ : ∃ q, q = m.length := ⟨_, rfl⟩
  rw [← hn] at hc1 hv ⊢
  rw [← hq] at hc3 hv2 ⊢
  have HU := Lib.hid hv
  have HU2 := Lib.hid hv2
  have HN := Lib.hid hn
  have HM := Lib.hid hq
  have HGG := Lib.hid hG
  have HGL := Lib.hid hGl
  have HST := Lib.hid hst
  have HLOW := Lib.hid hlow
  have HKQ := Lib.hid hkq
  have HBD := Lib.hid (show bisNodes l ≤ 1048576 from Nat.le_trans (bisNodes_tot l) hb)
  have HFR := Lib.hid hfr
  clear hv hv2 hn hq hb hfr hG hGl hst hlow hkq
  by_cases hne : n = q
  · subst hne
    have HE := Lib.hid (show eqBl l m = eqBl (l.drop 0) (m.drop 0) from rfl)
    go_enter Try.func96, Try.ntmps96
    go_wp2_with fail
    go_loopw [17] (fun i wr => ∃ (k N : Nat) (mo : Option Nat), k ≤ n ∧ i = .int .i64 (k : Int) ∧ Hid (eqBl l m = eqBl (l.drop k) (m.drop k)) ∧ Hid (N ≤ bisNodes (l.take k)) ∧ Hid (EqSt (wo := wo) (G := G) [] kq N mo wr) ∧ Hid (Below wo.heap.size wo wr)) (fun i _ => n - (intOf i).toNat)
    case atStart => exact ⟨0, 0, none, Nat.zero_le _, rfl, HE, Lib.hid (Nat.zero_le _), HST, HLOW⟩
    case round =>
      obtain ⟨k, N, mo, hk, rfl, HK, HSZ, HS, HB⟩ := hrel
      by_cases hlt : k < n
      · obtain ⟨g, o, r, u, b1, hA, hsub⟩ := HU.out.get2 k (by rw [← HN.out]; exact hlt)
        obtain ⟨h, p, s, y, b3, hA2, hsub2⟩ := HU2.out.get2 k (by rw [← HM.out]; exact hlt)
        obtain rfl := hA.eq
        obtain rfl := hA2.eq
        have HG := Lib.hid (show eqBl (l.drop k) (m.drop k) = (biEq r s && eqBl (l.drop (k + 1)) (m.drop (k + 1))) from eqBl_here hA.get hA2.get)
        obtain ⟨c0, c1, c2', c3⟩ := hA.cells.of (w' := wr) (fun mm _ _ => HB.out.cell (p := ⟨g, mm, none⟩) hA.lt)
        obtain ⟨k0, k1, k2, k3⟩ := hA2.cells.of (w' := wr) (fun mm _ _ => HB.out.cell (p := ⟨h, mm, none⟩) hA2.lt)
        have hwz := HB.out.size
        have hgl : g < wr.heap.size := Nat.lt_of_lt_of_le hA.lt hwz
        have hhl : h < wr.heap.size := Nat.lt_of_lt_of_le hA2.lt hwz
        have hnn : bisNodes (l.take (k + 1)) = bisNodes (l.take k) + exSize r.val := bisNodes_snoc l k r hA.get
        have HNN := Lib.hid hnn
        have hbn : N + exSize r.val ≤ 2199023255552 := by
          have h1 := HSZ.out
          have h2 := bisNodes_take l (k + 1)
          have h3 := HBD.out
          omega
        have HCL := Lib.hid (fun (W : World) (hbw : Below wr.heap.size wr W) => own_bieq (wo := wo) (G := G) r s _ _ b1 b3 kq N mo W hA.is hA2.is (fun z hz => HGG.out z (by
            rcases List.mem_append.1 hz with hz | hz
            · exact List.mem_append_left _ (hsub z hz)
            · exact List.mem_append_right _ (hsub2 z hz))) HGL.out (HS.out.below hbw) (HB.out.trans (hbw.mono HB.out.size)) HKQ.out hbn HFR.out)
        obtain ⟨u', e1, -, hs3⟩ := hA.is
        simp only [Value.agg.injEq, Array.mk.injEq, List.cons.injEq, and_true, true_and] at e1
        subst e1
        obtain ⟨y', e2, -, ht3⟩ := hA2.is
        simp only [Value.agg.injEq, Array.mk.injEq, List.cons.injEq, and_true, true_and] at e2
        subst e2
        obtain ⟨X3, n3, i3, rfl⟩ := bi_slice hs3
        obtain ⟨X6, n6, i6, rfl⟩ := bi_slice ht3
        clear hs3 ht3 hA hA2 hsub hsub2 hwz hnn hbn
        have hk0 : (0 : Int) ≤ (k : Int) := by omega
        have hkn : (k : Int) < (n : Int) := by omega
        have HBB := Lib.hid (((Below.refl wr.heap.size wr).alloc (Nat.le_refl _) (.cells #[.string r.name, .int .i64 r.val.kind, .string r.val.name, .slice X3 n3 i3] 135)).alloc (by simp) (.cells #[.string s.name, .int .i64 s.val.kind, .string s.val.name, .slice X6 n6 i6] 135))
        have HDN := Lib.hid (fun (W w2 : World) (hbw : Below wr.heap.size wr W) (hf : Fr (kq :: mo.toList) W w2) => show Below wo.heap.size wo w2 from
          (HB.out.trans (hbw.mono HB.out.size)).trans (hf.below (fun x hx => by
            rcases List.mem_cons.1 hx with rfl | hx
            · exact HKQ.out
            · exact (HS.out.map x (by simpa [eq_comm] using hx)).1) (Nat.le_trans HB.out.size hbw.size)))
        cases hre : biEq r s
        · have HE2 := Lib.hid (show eqBl l m = false by rw [HK.out, HG.out, hre, Bool.false_and])
          unfold BiPost at HCL
          rw [hre] at HCL
          clear hre
          go_wp2_with fail
          go_at_call 97
          refine (HCL.out _ HBB.out).mono ?_
          rintro e w1 ⟨N2, mo2, rfl, hf1, -⟩
          have HL1 := Lib.hid (HDN.out _ _ HBB.out hf1)
          clear hf1
          go_wp2_with fail
          go_ret
          exact ⟨by rw [HE2.out]; rfl, HL1.out⟩
        · have HE2 := Lib.hid (show eqBl l m = eqBl (l.drop (k + 1)) (m.drop (k + 1)) by rw [HK.out, HG.out, hre, Bool.true_and])
          unfold BiPost at HCL
          rw [hre] at HCL
          clear hre
          go_wp2_with fail
          go_at_call 97
          refine (HCL.out _ HBB.out).mono ?_
          rintro e w1 ⟨N2, mo2, rfl, hf1, hs1⟩
          have HL1 := Lib.hid (HDN.out _ _ HBB.out hf1)
          have HS1 := Lib.hid (hs1 (by trivial)).1
          have HZ1 := Lib.hid (show N2 ≤ bisNodes (l.take (k + 1)) by have h1 := (hs1 (by trivial)).2; have h2 := HNN.out; have h3 := HSZ.out; omega)
          clear hf1 hs1
          go_wp2_with fail
          go_roundw
          case rel => exact ⟨k + 1, N2, mo2, by omega, by go_num, HE2, HZ1, HS1, HL1⟩
          case measure => simp [intOf]; omega
      · have HE2 := Lib.hid (show eqBl l m = true by rw [HK.out, List.drop_eq_nil_of_le (by rw [← HN.out]; omega), List.drop_eq_nil_of_le (by rw [← HM.out]; omega)]; rfl)
        go_wp2_with fail
        go_ret
        exact ⟨by rw [HE2.out]; rfl, HB.out⟩
  · have HE := Lib.hid (show eqBl l m = false from eqBl_len l m (by rw [← HN.out, ← HM.out]; exact hne))
    have hne2 : ((n : Int) != (q : Int)) = true := by simp; omega
    clear hne
    go_enter Try.func96, Try.ntmps96
    go_wp2_with fail
    go_ret
    exact ⟨by rw [HE.out]; rfl, HLOW.out⟩

set_option maxHeartbeats 1000000 in
theorem own_equalb (l m : List Bi) (v v2 : Value) (bs b2 : List Nat) (w : World) (hv : BlIs w v l bs) (hv2 : BlIs w v2 m b2) (hb : bisTot l ≤ 1048576) (hfr : ∀ x ∈ bs ++ b2, ∀ o, w.frozen? ⟨x, o, none⟩ = false) :
    Calls Try.prog 51 #[v, v2] w (RetPost (.bool (eqBl l m)) w) := by
  obtain ⟨A, c, rfl, hc1, hc2, -⟩ := id hv
  obtain ⟨A2, c2, rfl, hc3, hc4, -⟩ := id hv2
  have HC := Lib.hid (fun (X : World) (hq : EqBox X w.heap.size 0 none) (hlow : Below w.heap.size w X) => own_eqfuncb (wo := w) (G := bs ++ b2) l m _ _ bs b2 w.heap.size X hv hv2 (fun z h => h) (fun z hz => (List.mem_append.1 hz).elim (bl_low hv z) (bl_low hv2 z)) (eq_fresh hq) hlow (Nat.le_refl _) hb (pl_free hfr))
  clear hv hv2 hfr hb
  generalize l.length = n at *
  generalize m.length = q at *
  go_enter Try.func51, Try.ntmps51
  go_wp2_with fail
  go_at_call 96
  refine (HC.out _ (World.alloc_heap_new w _) ((Below.refl _ w).alloc (Nat.le_refl _) _)).mono ?_
  rintro e w1 ⟨rfl, hb1⟩
  have HB1 := Lib.hid hb1
  clear hb1
  go_wp2_with fail
  go_ret
  exact ⟨rfl, HB1.out⟩
end Go.Proofs.Ytmndlhbgacgnlaa
