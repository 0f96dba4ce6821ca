/- The contract of the program's own join: it tells whether two places were known to hold the same, and joins them if not. Conditions: no string shares the memory of the first place, nor of any when more than 80 nodes were counted. -/
import Derived.Test.YtmndlhbgacgnlaaOwnEnd
import Derived.WalkSpells
import Derived.Deep.RegionLaw
namespace Go.Proofs.Ytmndlhbgacgnlaa
open Go Go.RowKit

section
variable {wo : World} {G : List Nat}
/-- What is known of what is equal, at a box with a count and a map. -/
structure EqSt (E : List (Pl wo G × Pl wo G)) (kq N : Nat) (mo : Option Nat) (W : World) : Prop where
  q : EqBox W kq (N : Int) mo
  map : ∀ mb, mo = some mb → wo.heap.size ≤ mb ∧ ∃ M, MapSt W mb M ∧ Ent E M ∧ Forest M
theorem EqSt.more {E E2 : List (Pl wo G × Pl wo G)} {kq N : Nat} {mo : Option Nat} {W : World} (h : EqSt E kq N mo W) (hE : ∀ p ∈ E, p ∈ E2) : EqSt E2 kq N mo W :=
  ⟨h.q, fun mb e => by obtain ⟨h1, M, h2, h3, h4⟩ := h.map mb e; exact ⟨h1, M, h2, h3.more hE, h4⟩⟩
theorem EqSt.on {E : List (Pl wo G × Pl wo G)} {kq N : Nat} {mo : Option Nat} {W W2 : World} (h : EqSt E kq N mo W) (hk : ∀ j ∈ kq :: mo.toList, W2.heap[j]? = W.heap[j]?) : EqSt E kq N mo W2 :=
  ⟨h.q.on (hk _ (by simp)), fun mb e => by obtain ⟨h1, M, h2, h3, h4⟩ := h.map mb e; exact ⟨h1, M, h2.on (hk _ (by simp [e])), h3, h4⟩⟩
theorem EqSt.lt {E : List (Pl wo G × Pl wo G)} {kq N : Nat} {mo : Option Nat} {W : World} (h : EqSt E kq N mo W) : ∀ j ∈ kq :: mo.toList, j < W.heap.size := fun j hj => by
  rcases List.mem_cons.1 hj with rfl | hj
  · exact h.q.lt
  · obtain ⟨-, M, h2, -⟩ := h.map j (by simpa [eq_comm] using hj)
    exact h2.is.lt
theorem Pl.cell (p : Pl wo G) : ∃ v, wo.cell? ⟨p.adr.block, p.adr.off, none⟩ = some v := by
  obtain ⟨⟨g, o, l, bs⟩, h1, h2, h3, h4⟩ := p
  cases l with
  | nil => exact absurd rfl h4
  | cons e r =>
    simp only at h1
    rw [ExsAt] at h1
    obtain ⟨b1, b2, -, h5, -⟩ := h1
    obtain ⟨u, h6, -⟩ := h5.is
    exact ⟨_, by simpa [Pl.adr] using h6⟩
/-- What join leaves. -/
def JoinedPost (E : List (Pl wo G × Pl wo G)) (A B : Pl wo G) (kq N : Nat) (mo : Option Nat) (w : World) (e : Ending) (w2 : World) : Prop :=
  ∃ (r : Bool) (mo2 : Option Nat), e = .returned (.bool r) ∧ (r = true → Conn E A B ∧ EqSt E kq (N + A.exs.length) mo2 w2) ∧ (r = false → EqSt (E ++ [(A, B)]) kq (N + A.exs.length) mo2 w2) ∧
    Fr (kq :: mo.toList) w w2 ∧ (∀ j ∈ mo2.toList, j ∈ mo.toList ∨ w.heap.size ≤ j)
end
theorem jbox {w : World} {u v u2 v2 : Value} : PlBox ((w.alloc (.cells #[u, v] 159)).alloc (.cells #[u2, v2] 159)) w.heap.size u v ∧ PlBox ((w.alloc (.cells #[u, v] 159)).alloc (.cells #[u2, v2] 159)) (w.heap.size + 1) u2 v2 := by
  refine ⟨(Below.heap_alloc _ _ _ (by simp)).trans (World.alloc_heap_new w _), ?_⟩
  have := World.alloc_heap_new (w.alloc (.cells #[u, v] 159)) (.cells #[u2, v2] 159)
  rw [World.size_alloc] at this
  exact this
theorem EqBox.put {W : World} {kq : Nat} {N : Int} {mo : Option Nat} (h : EqBox W kq N mo) (N2 : Int) : EqBox (W.setCell ⟨kq, 0, none⟩ (.int .i64 N2)) kq N2 mo := by
  unfold EqBox at h ⊢
  simp [World.setCell, Array.getElem?_modify, h]
theorem EqBox.putMap {W : World} {kq : Nat} {N : Int} {mo : Option Nat} (h : EqBox W kq N mo) (mo2 : Option Nat) : EqBox (W.setCell ⟨kq, 1, none⟩ (.map mo2)) kq N mo2 := by
  unfold EqBox at h ⊢
  simp [World.setCell, Array.getElem?_modify, h]
theorem own_end2 {wo : World} {G : List Nat} (E : List (Pl wo G × Pl wo G)) (P : Pl wo G) (PA : Addr) (PL : Nat) (hA : PA = P.adr) (hL : PL = P.exs.length) (kq mb : Nat) (N : Int) (M : List (Value × Value)) (w : World) (hq : EqBox w kq N (some mb)) (hm : MapSt w mb M) (he : Ent E M) (hF : Forest M) (hlow : Below wo.heap.size wo w) (hmb : wo.heap.size ≤ mb) (hfr : ∀ p : Pl wo G, FreeB wo p.adr.block) :
    Calls Try.prog 147 #[.pointer (some ⟨kq, 0, none⟩), .agg #[.pointer (some PA), .int .i64 (PL : Int)]] w fun r w2 => ∃ (RA : Addr) (RL : Nat) (R : Pl wo G) (M2 : List (Value × Value)), r = .returned (.agg #[.pointer (some RA), .int .i64 (RL : Int)]) ∧
      (RA = R.adr ∧ RL = R.exs.length ∧ Conn E P R ∧ MapSt w2 mb M2 ∧ Ent E M2 ∧ Forest M2 ∧ (∀ x ∈ M2, x.1 ≠ R.key) ∧ (∀ k, (∀ x ∈ M, x.1 ≠ k) → ∀ x ∈ M2, x.1 ≠ k)) ∧ Fr [mb] w w2 := by
  subst hA; subst hL
  refine (own_end E P kq mb N M w hq hm he hF hlow hmb hfr).mono ?_
  rintro r w2 ⟨R, M2, rfl, h1, h2, h3, h4, h5, h6, h7⟩
  exact ⟨R.adr, R.exs.length, R, M2, rfl, ⟨rfl, rfl, h1, h2, h3, h4, h5, h6⟩, h7⟩
/-- Behind both calls of endOf. -/
structure JoinMid {wo : World} {G : List Nat} (E : List (Pl wo G × Pl wo G)) (A B : Pl wo G) (kq mb N AL : Nat) (w Wy : World) (RA TA : Addr) (RL TL : Nat) (R T : Pl wo G) (M6 : List (Value × Value)) (W : World) : Prop where
  q : EqBox W kq ((N : Int) + (AL : Int)) (some mb)
  ab : PlBox W w.heap.size (.pointer (some RA)) (.int .i64 (RL : Int))
  bb : PlBox W (w.heap.size + 1) (.pointer (some TA)) (.int .i64 (TL : Int))
  map : MapSt W mb M6
  ent : Ent E M6
  forest : Forest M6
  noR : ∀ x ∈ M6, x.1 ≠ R.key
  noT : ∀ x ∈ M6, x.1 ≠ T.key
  ca : Conn E A R
  cb : Conn E B T
  ra : RA = R.adr
  rl : RL = R.exs.length
  ta : TA = T.adr
  tl : TL = T.exs.length
  low : Below wo.heap.size wo W
  fr : Fr [mb, w.heap.size, w.heap.size + 1] Wy W
section
variable {wo : World} {G : List Nat} {E : List (Pl wo G × Pl wo G)} {A B : Pl wo G} {kq mb N AL : Nat} {w Wy : World} {RA TA : Addr} {RL TL : Nat} {R T : Pl wo G} {M M5 M6 : List (Value × Value)} {W w5 w6 : World}
theorem join_mid {u0 u1 u2 u3 : Value} (hq : EqBox Wy kq ((N : Int) + (AL : Int)) (some mb)) (ha : PlBox Wy w.heap.size u0 u1) (hb : PlBox Wy (w.heap.size + 1) u2 u3) (hlow : Below wo.heap.size wo Wy) (hmb : wo.heap.size ≤ mb) (hkm : kq ≠ mb) (hmn : w.heap.size ≠ mb ∧ w.heap.size + 1 ≠ mb) (hkl : kq < w.heap.size) (hws : wo.heap.size ≤ w.heap.size)
    (h1 : RA = R.adr ∧ RL = R.exs.length ∧ Conn E A R ∧ MapSt w5 mb M5 ∧ Ent E M5 ∧ Forest M5 ∧ (∀ x ∈ M5, x.1 ≠ R.key) ∧ (∀ k, (∀ x ∈ M, x.1 ≠ k) → ∀ x ∈ M5, x.1 ≠ k)) (hf1 : Fr [mb] Wy.drew w5)
    (h2 : TA = T.adr ∧ TL = T.exs.length ∧ Conn E B T ∧ MapSt w6 mb M6 ∧ Ent E M6 ∧ Forest M6 ∧ (∀ x ∈ M6, x.1 ≠ T.key) ∧ (∀ k, (∀ x ∈ M5, x.1 ≠ k) → ∀ x ∈ M6, x.1 ≠ k)) (hf2 : Fr [mb] w5 w6) :
    JoinMid E A B kq mb N AL w Wy RA TA RL TL R T M6 ((((w6.setCell ⟨w.heap.size, 0, none⟩ (.pointer (some RA))).setCell ⟨w.heap.size, 1, none⟩ (.int .i64 (RL : Int))).setCell ⟨w.heap.size + 1, 0, none⟩ (.pointer (some TA))).setCell ⟨w.heap.size + 1, 1, none⟩ (.int .i64 (TL : Int))) := by
  have hf : Fr [mb] Wy w6 := (((Fr.refl [mb] Wy).drew.trans hf1 (fun x h => Or.inl h))).trans hf2 (fun x h => Or.inl h)
  have a6 := ha.on (hf.block _ ha.lt (by simpa using hmn.1))
  have b6 := hb.on (hf.block _ hb.lt (by simpa using hmn.2))
  obtain ⟨W7, hW7⟩ : ∃ z, z = (w6.setCell ⟨w.heap.size, 0, none⟩ (.pointer (some RA))).setCell ⟨w.heap.size, 1, none⟩ (.int .i64 (RL : Int)) := ⟨_, rfl⟩
  obtain ⟨W8, hW8⟩ : ∃ z, z = (W7.setCell ⟨w.heap.size + 1, 0, none⟩ (.pointer (some TA))).setCell ⟨w.heap.size + 1, 1, none⟩ (.int .i64 (TL : Int)) := ⟨_, rfl⟩
  have a7 := a6.set (.pointer (some RA)) (.int .i64 (RL : Int))
  rw [← hW7] at a7 ⊢
  rw [← hW8]
  have k7 : ∀ j, j ≠ w.heap.size → W7.heap[j]? = w6.heap[j]? := fun j h => by rw [hW7, Below.heap_setCell _ _ _ _ h, Below.heap_setCell _ _ _ _ h]
  have k8 : ∀ j, j ≠ w.heap.size + 1 → W8.heap[j]? = W7.heap[j]? := fun j h => by rw [hW8, Below.heap_setCell _ _ _ _ h, Below.heap_setCell _ _ _ _ h]
  have b8 := (b6.on (k7 _ (by omega))).set (.pointer (some TA)) (.int .i64 (TL : Int))
  rw [← hW8] at b8
  have hfr : Fr [w.heap.size, w.heap.size + 1] w6 W8 := by
    rw [hW8, hW7]
    exact (((Fr.set _ _ _ (by simp)).trans (Fr.set (S := [w.heap.size, w.heap.size + 1]) _ _ _ (by simp)) (fun x h => Or.inl h)).trans (Fr.set (S := [w.heap.size, w.heap.size + 1]) _ _ _ (by simp)) (fun x h => Or.inl h)).trans (Fr.set (S := [w.heap.size, w.heap.size + 1]) _ _ _ (by simp)) (fun x h => Or.inl h)
  have hall : Fr [mb, w.heap.size, w.heap.size + 1] Wy W8 := (hf.mono (T := [mb, w.heap.size, w.heap.size + 1]) (fun x h => Or.inl (by simp at h; simp [h]))).trans hfr (fun x h => Or.inl (by simp at h; rcases h with h | h <;> simp [h]))
  refine ⟨hq.on ((k8 _ (by omega)).trans ((k7 _ (by omega)).trans (hf.block _ hq.lt (by simpa using hkm)))), a7.on (k8 _ (by omega)), b8, h2.2.2.2.1.on ((k8 _ (fun e => hmn.2 e.symm)).trans (k7 _ (fun e => hmn.1 e.symm))), h2.2.2.2.2.1, h2.2.2.2.2.2.1, h2.2.2.2.2.2.2.2 _ h1.2.2.2.2.2.2.1, h2.2.2.2.2.2.2.1, h1.2.2.1, h2.2.2.1, h1.1, h1.2.1, h2.1, h2.2.1, ?_, hall⟩
  exact hlow.trans (hall.below (fun x h => by simp at h; omega) hlow.size)
variable (h : JoinMid E A B kq mb N AL w Wy RA TA RL TL R T M6 W)
include h
theorem JoinMid.keyR : R.key = .agg #[.pointer (some RA), .int .i64 (RL : Int)] := by rw [h.ra, h.rl]; rfl
theorem JoinMid.keyT : T.key = .agg #[.pointer (some TA), .int .i64 (TL : Int)] := by rw [h.ta, h.tl]; rfl
theorem JoinMid.same (h1 : RA = TA) (h2 : RL = TL) : Conn E A B :=
  (h.ca.trans (Conn.same (Pl.det (by rw [h.keyR, h.keyT, h1, h2])))).trans h.cb.symm
theorem JoinMid.diff (h1 : RA ≠ TA ∨ RL ≠ TL) : R.key ≠ T.key := fun e => by
  rw [h.keyR, h.keyT] at e
  simp only [Value.agg.injEq, Array.mk.injEq, List.cons.injEq, Value.pointer.injEq, Option.some.injEq, Value.int.injEq, and_true, true_and] at e
  rcases h1 with h1 | h1
  · exact h1 e.1
  · exact h1 (by omega)
theorem JoinMid.st (hmb : wo.heap.size ≤ mb) : EqSt E kq (N + AL) (some mb) W := ⟨by have := h.q; simpa using this, fun m e => by cases e; exact ⟨hmb, M6, h.map, h.ent, h.forest⟩⟩
theorem JoinMid.upd (hmb : wo.heap.size ≤ mb) (hfr : ∀ p : Pl wo G, FreeB W p.adr.block) (hne : R.key ≠ T.key) : ∃ W5, (Instr.mapUpdate 95 (.map (some mb)) (.agg #[.pointer (some RA), .int .i64 (RL : Int)]) (.agg #[.pointer (some TA), .int .i64 (TL : Int)])).run Try.prog W.drew = .ok () W5 ∧ EqSt (E ++ [(A, B)]) kq (N + AL) (some mb) W5 ∧ Fr [mb] W W5 := by
  have hfd : ∀ p : Pl wo G, FreeB W.drew p.adr.block := fun p => (hfr p).on rfl
  have hmd : MapSt W.drew mb M6 := h.map.on rfl
  obtain ⟨W5, L2, h1, h2, h3, h4⟩ := hmd.update (val := T.key) (placeT W.drew) Try.underlying95 (key := R.key) ⟨R.adr, _, rfl, hfd R⟩ (h.ent.keys hfd)
  have hf : Fr [mb] W W5 := (Fr.refl [mb] W).drew.trans (Fr.grown h4 (fun k e => by cases e; simp)) (fun x h => Or.inl h)
  refine ⟨W5, by rw [← h.keyR, ← h.keyT]; exact h1, ⟨?_, fun m e => ?_⟩, hf⟩
  · have hkm : kq ≠ mb := fun e => by
      have h1 := h.q
      obtain ⟨es, clock, h2, -⟩ := h.map.is
      unfold EqBox at h1
      rw [e, h2] at h1
      cases h1
    have := h.q.on (hf.block _ h.q.lt (by simpa using hkm))
    simpa using this
  · cases e
    have hE : ∀ p ∈ E, p ∈ E ++ [(A, B)] := fun p hp => List.mem_append_left _ hp
    exact ⟨hmb, L2, h2, (h.ent.more hE).put h.map.nodup (((h.ca.more hE).symm.trans (Conn.link (Or.inl (by simp)))).trans (h.cb.more hE)) h3, forest_unite h.map.nodup h.noR h.noT hne h3 h.forest⟩
end
set_option maxRecDepth 100000 in
set_option maxHeartbeats 4000000 in
theorem own_joined {wo : World} {G : List Nat} (E : List (Pl wo G × Pl wo G)) (A B : Pl wo G) (kq N : Nat) (mo : Option Nat) (w : World) (hst : EqSt E kq N mo w) (hlow : Below wo.heap.size wo w) (hkq : wo.heap.size ≤ kq) (hN : N + A.exs.length ≤ 2199023255552)
    (hone : FreeB wo A.adr.block) (hall : 80 < N + A.exs.length → ∀ p : Pl wo G, FreeB wo p.adr.block) :
    Calls Try.prog 110 #[.pointer (some ⟨kq, 0, none⟩), A.key, B.key] w (JoinedPost E A B kq N mo w) := by
  obtain ⟨AA, hAA⟩ : ∃ z, z = A.adr := ⟨_, rfl⟩
  obtain ⟨AL, hAL⟩ : ∃ z, z = A.exs.length := ⟨_, rfl⟩
  obtain ⟨BA, hBA⟩ : ∃ z, z = B.adr := ⟨_, rfl⟩
  obtain ⟨BL, hBL⟩ : ∃ z, z = B.exs.length := ⟨_, rfl⟩
  have hkA : A.key = .agg #[.pointer (some AA), .int .i64 (AL : Int)] := by rw [hAA, hAL]; rfl
  have hkB : B.key = .agg #[.pointer (some BA), .int .i64 (BL : Int)] := by rw [hBA, hBL]; rfl
  have HSIZE := Lib.hid (show A.exs.length = AL from hAL.symm)
  rw [← hAL] at hN hall
  have HAADR := Lib.hid hAA
  have HBADR := Lib.hid hBA
  have HKA := Lib.hid hkA
  have HKB := Lib.hid hkB
  have HBLEN := Lib.hid hBL
  rw [hkA, hkB]
  have hql := hst.q.lt
  obtain ⟨q0, q1, qf⟩ := hst.q.cells
  obtain ⟨w1, hw1⟩ : ∃ w1, w1 = (w.alloc (.cells #[.pointer (some AA), .int .i64 (AL : Int)] 159)).alloc (.cells #[.pointer (some BA), .int .i64 (BL : Int)] 159) := ⟨_, rfl⟩
  have hb1 : Below w.heap.size w w1 := by rw [hw1]; exact ((Below.refl _ w).alloc (Nat.le_refl _) _).alloc (by simp) _
  have hj := jbox (w := w) (u := .pointer (some AA)) (v := .int .i64 (AL : Int)) (u2 := .pointer (some BA)) (v2 := .int .i64 (BL : Int))
  rw [← hw1] at hj
  have HST := Lib.hid (hst.on (W2 := w1) (fun j hj => hb1.block j (hst.lt j hj)))
  have HLT := Lib.hid hst.lt
  have HLOW := Lib.hid (hlow.trans (hb1.mono hlow.size))
  have HB1 := Lib.hid hb1
  have HKQ := Lib.hid hkq
  have HONE := Lib.hid hone
  have HALL := Lib.hid hall
  have HJ := Lib.hid hj
  have HWS := Lib.hid hlow.size
  have HKL := Lib.hid hql
  obtain ⟨p0, p1, pf⟩ := (HST.out).q.cells
  have hNA : (0 : Int) ≤ (N : Int) + (AL : Int) := by omega
  have hNB : (N : Int) + (AL : Int) ≤ 2199023255552 := by omega
  have hwr : IntKind.i64.wrap ((N : Int) + (AL : Int)) = (N : Int) + (AL : Int) := IntWalk.i64_in _ (by omega)
  have hplt := HST.out.q.lt
  obtain ⟨a0, a1, af⟩ := hj.1.cells
  obtain ⟨b0, b1, bf⟩ := hj.2.cells
  have halt := hj.1.lt
  have hblt := hj.2.lt
  have hEB := HST.out.q.put ((N : Int) + (AL : Int))
  have HEB := Lib.hid hEB
  clear hst hlow hkq hN hone hall hAA hAL hBA hBL hkA hkB hb1 hj hEB q0 q1 qf hql
  go_enter Try.func110, Try.ntmps110
  go_wp2_with fail
  rw [← hw1]
  clear hw1
  refine cut_reg (fun a W => a = { tmps := #[.pointer (some ⟨kq, 0, none⟩), .agg #[.pointer (some AA), .int .i64 (AL : Int)], .agg #[.pointer (some BA), .int .i64 (BL : Int)], undef, .pointer (some ⟨w.heap.size, 0, none⟩), .pointer (some ⟨w.heap.size + 1, 0, none⟩), .bool false, .pointer (some ⟨kq, 0, none⟩), .pointer (some ⟨kq, 0, none⟩), .pointer (some ⟨kq, 0, none⟩), .int .i64 (N : Int), .pointer (some ⟨w.heap.size, 1, none⟩), .int .i64 (AL : Int), .int .i64 ((N : Int) + (AL : Int)), .pointer (some ⟨kq, 0, none⟩), .pointer (some ⟨kq, 0, none⟩), undef, undef, undef, undef, undef, undef, undef, undef, undef, undef, undef, undef, undef, undef, undef, undef, undef, undef, undef, undef, undef, undef, undef, undef, undef, undef, undef, undef, undef, undef, undef, undef], defers := [] } ∧ W = (w1.setCell ⟨kq, 0, none⟩ (.int .i64 ((N : Int) + (AL : Int)))).drew) ?_ ?_
  · go_region
    all_goals exact ⟨rfl, rfl⟩
  rintro _ _ ⟨rfl, rfl⟩
  obtain ⟨W1, hW1⟩ : ∃ W, W = (w1.setCell ⟨kq, 0, none⟩ (.int .i64 ((N : Int) + (AL : Int)))).drew := ⟨_, rfl⟩
  rw [← hW1]
  have HQ1 := Lib.hid (show EqBox W1 kq ((N : Int) + (AL : Int)) mo by rw [hW1]; exact HEB.out)
  have hf1 : Fr [kq] w1 W1 := by rw [hW1]; exact (Fr.set w1 _ _ (by simp)).drew
  have HF1 := Lib.hid hf1
  have hj1 := HJ.out.1.on (hf1.block _ HJ.out.1.lt (by have := HKL.out; simp; omega))
  have hj2 := HJ.out.2.on (hf1.block _ HJ.out.2.lt (by have := HKL.out; simp; omega))
  have HJ1 := Lib.hid hj1
  have HJ2 := Lib.hid hj2
  have HE1 := Lib.hid (show EqSt E kq (N + AL) mo W1 from ⟨by have := HQ1.out; simpa using this, fun mb e => by
    obtain ⟨h1, M, h2, h3, h4⟩ := HST.out.map mb e
    refine ⟨h1, M, h2.on (hf1.block _ h2.is.lt ?_), h3, h4⟩
    intro e2
    rw [List.mem_singleton] at e2
    have h5 := HST.out.q
    obtain ⟨es, clock, h6, -⟩ := h2.is
    unfold EqBox at h5
    rw [← e2, h6] at h5
    cases h5⟩)
  have HL1 := Lib.hid (show Below wo.heap.size wo W1 from HLOW.out.trans (hf1.below (fun x h => by have := HKQ.out; simp at h; omega) HLOW.out.size))
  have HFR1 := Lib.hid (show Fr (kq :: mo.toList) w W1 from (Fr.of_below HB1.out).trans (hf1.mono (T := kq :: mo.toList) (fun x h => Or.inl (by simp at h; simp [h]))) (fun x h => Or.inl h))
  clear hW1 hf1 p0 p1 pf hplt a0 a1 af b0 b1 bf halt hblt
  obtain ⟨p0, p1, pf⟩ := HQ1.out.cells
  have hplt := HQ1.out.lt
  obtain ⟨a0, a1, af⟩ := hj1.cells
  obtain ⟨b0, b1, bf⟩ := hj2.cells
  have halt := hj1.lt
  have hblt := hj2.lt
  clear hj1 hj2
  by_cases h80 : (N : Int) + (AL : Int) ≤ 80
  · obtain ⟨i0, hi, -, hz, -⟩ := info_parts Try.infoEx
    have hz : i0.size ≠ 0 := by omega
    have he1 : (Op.equalIn 9999 154 (.pointer (some AA)) (.pointer (some BA))).run Try.prog W1 = .ok (decide (AA = BA)) W1 := by
      obtain ⟨v, hv⟩ := Pl.cell B
      rw [← HBADR.out] at hv
      refine eq_ptr_half (P := Try.prog) (v := v) Try.underlying154 hi hz ?_ ((HL1.out.cell (p := ⟨BA.block, BA.off, none⟩) (World.block_lt_of_cell? wo _ hv)).trans hv) 9998
      rw [HAADR.out]
      exact HONE.out.on (HL1.out.block _ HONE.out.lt)
    have HYES := Lib.hid (show A.key = B.key → JoinedPost E A B kq N mo w (.returned (.bool true)) W1 from fun h => ⟨true, mo, rfl, fun _ => ⟨Conn.same (Pl.det h), by rw [HSIZE.out]; exact HE1.out⟩, (fun h => by cases h), HFR1.out, fun j hj => Or.inl hj⟩)
    have HNO := Lib.hid (show JoinedPost E A B kq N mo w (.returned (.bool false)) W1 from ⟨false, mo, rfl, fun h => (by cases h), fun _ => by rw [HSIZE.out]; exact HE1.out.more (fun p hp => List.mem_append_left _ hp), HFR1.out, fun j hj => Or.inl hj⟩)
    have HKK := Lib.hid (show AA = BA → AL = BL → A.key = B.key from fun h1 h2 => by rw [HKA.out, HKB.out, h1, h2])
    by_cases hAA : AA = BA
    · rw [decide_eq_true hAA] at he1
      by_cases hLL : (AL : Int) = (BL : Int)
      · have HF := Lib.hid (HYES.out (HKK.out hAA (by omega)))
        clear hAA hi hz
        go_wp2_with fail
        go_ret
        exact HF.out
      · clear hAA hi hz
        go_wp2_with fail
        go_ret
        exact HNO.out
    · rw [decide_eq_false hAA] at he1
      clear hAA hi hz
      by_cases hLL : (AL : Int) = (BL : Int)
      · go_wp2_with fail
        go_ret
        exact HNO.out
      · go_wp2_with fail
        go_ret
        exact HNO.out
  · have HALL2 := Lib.hid (HALL.out (by omega))
    have hmk : ∀ w : World, (Instr.makeMap 95 none).run Try.prog w = .ok (.map (some w.heap.size)) (w.alloc (.map #[] 0)) := fun w => by simp [Instr.makeMap]
    have hmn : ∀ (w : World) (r : Option Nat), (binOp .eql 95 (.map r) (.map none)).run Try.prog w = .ok (.bool r.isNone) w := fun w r => run_eql_map_nil w _ _ _ r Try.underlying95
    cases mo with
    | none =>
      go_wp2_with fail
      obtain ⟨mb, hmbe⟩ : ∃ z, z = W1.heap.size := ⟨_, rfl⟩
      obtain ⟨Wy, hWy⟩ : ∃ W, W = ((W1.setCell ⟨kq, 1, none⟩ (.map (some W1.heap.size))).alloc (.map #[] 0)) := ⟨_, rfl⟩
      rw [← hWy, ← hmbe]
      rw [← hmbe] at hWy
      have hsz : (W1.setCell ⟨kq, 1, none⟩ (.map (some mb))).heap.size = mb := by rw [hmbe]; simp [World.setCell]
      have hbk : ∀ j, j < W1.heap.size → j ≠ kq → Wy.heap[j]? = W1.heap[j]? := fun j h1 h2 => by rw [hWy, Below.heap_alloc _ _ _ (by rw [hsz, hmbe]; exact h1), Below.heap_setCell _ _ _ _ h2]
      have hfy : Fr [kq] W1 Wy := by rw [hWy]; exact (Fr.set (S := [kq]) W1 _ _ (by simp)).trans (Fr.alloc (S := [kq]) _ _) (fun x h => Or.inl h)
      have hkl9 := HKL.out
      have HQY := Lib.hid (show EqBox Wy kq ((N : Int) + (AL : Int)) (some mb) from by
        have h := HQ1.out.putMap (some mb)
        rw [hWy]
        exact (Below.heap_alloc _ _ _ (by rw [hsz, hmbe]; exact hplt)).trans h)
      have HJA := Lib.hid (HJ1.out.on (hbk _ HJ1.out.lt (by omega)))
      have HJB := Lib.hid (HJ2.out.on (hbk _ HJ2.out.lt (by omega)))
      obtain ⟨M, hM⟩ : ∃ M : List (Value × Value), M = [] := ⟨_, rfl⟩
      have HMY := Lib.hid (show MapSt Wy mb M from by
        have h := MapSt.made (W1.setCell ⟨kq, 1, none⟩ (.map (some mb)))
        rw [hsz, ← hWy] at h
        rw [hM]; exact h)
      have HEY := Lib.hid (show Ent E M from fun x hx => by rw [hM] at hx; cases hx)
      have HFY := Lib.hid (show Forest M by rw [hM]; exact forest_nil)
      have HMB := Lib.hid (show wo.heap.size ≤ mb by rw [hmbe]; exact HL1.out.size)
      have HLY := Lib.hid (show Below wo.heap.size wo Wy from HL1.out.trans (hfy.below (fun x h => by have := HKQ.out; simp at h; omega) HL1.out.size))
      have HFRY := Lib.hid (show Fr (kq :: (none : Option Nat).toList) w Wy from HFR1.out.trans (hfy.mono (T := kq :: (none : Option Nat).toList) (fun x h => Or.inl (by simp at h; simp [h]))) (fun x h => Or.inl h))
      have HNEW := Lib.hid (show mb ∈ (none : Option Nat).toList ∨ w.heap.size ≤ mb from Or.inr (by rw [hmbe]; omega))
      have HKM := Lib.hid (show kq ≠ mb by rw [hmbe]; omega)
      have HMN := Lib.hid (show w.heap.size ≠ mb ∧ w.heap.size + 1 ≠ mb by rw [hmbe]; omega)
      clear hWy hsz hbk hfy hM hmbe hkl9 a0 a1 af b0 b1 bf p0 p1 pf hplt halt hblt
      have hw0 := HKL.out
      have HC1 := Lib.hid (own_end2 E A AA AL HAADR.out HSIZE.out.symm kq mb ((N : Int) + (AL : Int)) M Wy.drew HQY.out HMY.out HEY.out HFY.out HLY.out.drew HMB.out HALL2.out)
      have HC2 := Lib.hid (fun (w5 : World) (M5 : List (Value × Value)) (hf : Fr [mb] Wy.drew w5) (hm : MapSt w5 mb M5) (he : Ent E M5) (hF : Forest M5) => own_end2 E B BA BL HBADR.out HBLEN.out kq mb ((N : Int) + (AL : Int)) M5 w5 (HQY.out.on (hf.block _ HQY.out.lt (by simpa using HKM.out))) hm he hF (HLY.out.drew.trans (hf.below (fun x h => by have := HMB.out; simp at h; omega) HLY.out.size)) HMB.out HALL2.out)
      have HBX := Lib.hid (show ∀ (w5 : World), Fr [mb] Wy.drew w5 → PlBox w5 w.heap.size (.pointer (some AA)) (.int .i64 (AL : Int)) ∧ PlBox w5 (w.heap.size + 1) (.pointer (some BA)) (.int .i64 (BL : Int)) from fun w5 hf => ⟨HJA.out.on (hf.block _ HJA.out.lt (by simpa using HMN.out.1)), HJB.out.on (hf.block _ HJB.out.lt (by simpa using HMN.out.2))⟩)
      obtain ⟨a0, a1, af⟩ := HJA.out.cells
      obtain ⟨b0, b1, bf⟩ := HJB.out.cells
      have HFIN := Lib.hid (show ∀ (w5 w6 : World) (RA TA : Addr) (RL TL : Nat) (R T : Pl wo G) (M5 M6 : List (Value × Value)), RA = R.adr ∧ RL = R.exs.length ∧ Conn E A R ∧ MapSt w5 mb M5 ∧ Ent E M5 ∧ Forest M5 ∧ (∀ x ∈ M5, x.1 ≠ R.key) ∧ (∀ k, (∀ x ∈ M, x.1 ≠ k) → ∀ x ∈ M5, x.1 ≠ k) → Fr [mb] Wy.drew w5 →
          TA = T.adr ∧ TL = T.exs.length ∧ Conn E B T ∧ MapSt w6 mb M6 ∧ Ent E M6 ∧ Forest M6 ∧ (∀ x ∈ M6, x.1 ≠ T.key) ∧ (∀ k, (∀ x ∈ M5, x.1 ≠ k) → ∀ x ∈ M6, x.1 ≠ k) → Fr [mb] w5 w6 →
          JoinMid E A B kq mb N AL w Wy RA TA RL TL R T M6 ((((w6.setCell ⟨w.heap.size, 0, none⟩ (.pointer (some RA))).setCell ⟨w.heap.size, 1, none⟩ (.int .i64 (RL : Int))).setCell ⟨w.heap.size + 1, 0, none⟩ (.pointer (some TA))).setCell ⟨w.heap.size + 1, 1, none⟩ (.int .i64 (TL : Int))) from fun w5 w6 RA TA RL TL R T M5 M6 h1 hf1 h2 hf2 =>
        join_mid HQY.out HJA.out HJB.out HLY.out HMB.out HKM.out HMN.out HKL.out HWS.out h1 hf1 h2 hf2)
      refine cut_reg (fun a W => ∃ (RA TA : Addr) (RL TL : Nat) (R T : Pl wo G) (M6 : List (Value × Value)), a = { tmps := #[.pointer (some ⟨kq, 0, none⟩), .agg #[.pointer (some AA), .int .i64 (AL : Int)], .agg #[.pointer (some BA), .int .i64 (BL : Int)], undef, .pointer (some ⟨w.heap.size, 0, none⟩), .pointer (some ⟨w.heap.size + 1, 0, none⟩), .bool false, .pointer (some ⟨kq, 0, none⟩), .pointer (some ⟨kq, 0, none⟩), .pointer (some ⟨kq, 0, none⟩), .int .i64 (N : Int), .pointer (some ⟨w.heap.size, 1, none⟩), .int .i64 (AL : Int), .int .i64 ((N : Int) + (AL : Int)), .pointer (some ⟨kq, 0, none⟩), .pointer (some ⟨kq, 0, none⟩), .pointer (some ⟨kq, 0, none⟩), .pointer (some ⟨kq, 0, none⟩), .pointer (some ⟨kq, 0, none⟩), .int .i64 ((N : Int) + (AL : Int)), .bool false, undef, undef, undef, .pointer (some ⟨kq, 0, none⟩), .pointer (some ⟨kq, 0, none⟩), .pointer (some ⟨kq, 1, none⟩), .map none, .bool true, .pointer (some ⟨kq, 0, none⟩), .map (some mb), .pointer (some ⟨kq, 0, none⟩), .pointer (some ⟨kq, 1, none⟩), .pointer (some ⟨kq, 0, none⟩), .agg #[.pointer (some AA), .int .i64 (AL : Int)], .agg #[.pointer (some RA), .int .i64 (RL : Int)], .pointer (some ⟨kq, 0, none⟩), .agg #[.pointer (some BA), .int .i64 (BL : Int)], .agg #[.pointer (some TA), .int .i64 (TL : Int)], undef, undef, undef, undef, undef, undef, undef, undef, undef], defers := [] } ∧ JoinMid E A B kq mb N AL w Wy RA TA RL TL R T M6 W) ?_ ?_
      · go_region_law (first
          | (go_simp; go_at_call 147; with_reducible refine Calls.mono HC1.out ?_; rintro r w5 ⟨RA, RL, R, M5, rfl, hr5, hf5⟩; have HR5 := Lib.hid hr5; have HF5 := Lib.hid hf5; obtain ⟨hbxa, hbxb⟩ := HBX.out w5 hf5; obtain ⟨b2, b3, bf2⟩ := hbxb.cells; have HC3 := Lib.hid (HC2.out w5 M5 hf5 hr5.2.2.2.1 hr5.2.2.2.2.1 hr5.2.2.2.2.2.1); clear hr5 hf5 hbxa hbxb)
          | (go_simp; go_at_call 147; with_reducible refine Calls.mono HC3.out ?_; rintro r w6 ⟨TA, TL, T, M6, rfl, hr6, hf6⟩; have HR6 := Lib.hid hr6; have HF6 := Lib.hid hf6; obtain ⟨hbxa, hbxb⟩ := HBX.out w6 (HF5.out.trans hf6 (fun x h => Or.inl h)); obtain ⟨c0, c1, cf⟩ := hbxa.cells; obtain ⟨d0, d1, df⟩ := hbxb.cells; have halt6 := hbxa.lt; have hblt6 := hbxb.lt; clear hr6 hf6 hbxa hbxb))
        all_goals exact ⟨RA, TA, RL, TL, R, T, M6, rfl, HFIN.out w5 w6 RA TA RL TL R T M5 M6 HR5.out HF5.out HR6.out HF6.out⟩
      rintro _ Wz ⟨RA, TA, RL, TL, R, T, M6, rfl, hmid⟩
      have HMID := Lib.hid hmid
      obtain ⟨e0, e1, ef⟩ := hmid.ab.cells
      obtain ⟨g0, g1, gf⟩ := hmid.bb.cells
      obtain ⟨q0, q1, qf⟩ := hmid.q.cells
      have hqlt := hmid.q.lt
      have halt := hmid.ab.lt
      have hblt := hmid.bb.lt
      clear hmid a0 a1 af b0 b1 bf
      obtain ⟨i0, hi, -, hz, -⟩ := info_parts Try.infoEx
      have hz : i0.size ≠ 0 := by omega
      have hfZ : ∀ p : Pl wo G, FreeB Wz p.adr.block := Pl.free HALL2.out HMID.out.low
      have HFZ := Lib.hid hfZ
      have he1 : (Op.equalIn 9999 154 (.pointer (some RA)) (.pointer (some TA))).run Try.prog Wz = .ok (decide (RA = TA)) Wz := eq_ptr (P := Try.prog) Try.underlying154 hi hz (by rw [HMID.out.ra]; exact hfZ R) (by rw [HMID.out.ta]; exact hfZ T) 9998
      have HYES := Lib.hid (show RA = TA → RL = TL → JoinedPost E A B kq N none w (.returned (.bool true)) Wz from fun h1 h2 => ⟨true, some mb, rfl, fun _ => ⟨HMID.out.same h1 h2, by rw [HSIZE.out]; exact HMID.out.st HMB.out⟩, (fun h => by cases h), (HFRY.out.trans (HMID.out.fr) (fun x h => by simp at h; rcases h with rfl | rfl | rfl; exact HNEW.out.elim (fun h => Or.inl (List.mem_cons_of_mem _ h)) Or.inr; exact Or.inr (Nat.le_refl _); exact Or.inr (Nat.le_succ _))), fun j hj => by simp at hj; subst hj; exact HNEW.out⟩)
      clear hi hz hfZ
      have HUPD := Lib.hid (HMID.out.upd HMB.out HFZ.out)
      by_cases hAA : RA = TA
      · rw [decide_eq_true hAA] at he1
        by_cases hLL : (RL : Int) = (TL : Int)
        · have HF := Lib.hid (HYES.out hAA (by omega))
          clear hAA
          go_wp2_with fail
          go_ret
          exact HF.out
        · have HNK := Lib.hid (show R.key ≠ T.key from HMID.out.diff (Or.inr (by omega)))
          clear hAA
          obtain ⟨W5, hrun, hst5, hf5⟩ := HUPD.out HNK.out
          have HS5 := Lib.hid (show JoinedPost E A B kq N none w (.returned (.bool false)) W5 from ⟨false, some mb, rfl, (fun h => by cases h), (fun _ => by rw [HSIZE.out]; exact hst5), (HFRY.out.trans (HMID.out.fr) (fun x h => by simp at h; rcases h with rfl | rfl | rfl; exact HNEW.out.elim (fun h => Or.inl (List.mem_cons_of_mem _ h)) Or.inr; exact Or.inr (Nat.le_refl _); exact Or.inr (Nat.le_succ _))).trans hf5 (fun x h => by simp at h; subst h; exact HNEW.out.elim (fun h => Or.inl (List.mem_cons_of_mem _ h)) Or.inr), fun j hj => by simp at hj; subst hj; exact HNEW.out⟩)
          have HBZ := Lib.hid (show Wz.drew.cell? ⟨kq, 1, none⟩ = some (.map (some mb)) ∧ Wz.drew.cell? ⟨w.heap.size, 0, none⟩ = some (.pointer (some RA)) ∧ Wz.drew.cell? ⟨w.heap.size, 1, none⟩ = some (.int .i64 (RL : Int)) ∧ Wz.drew.cell? ⟨w.heap.size + 1, 0, none⟩ = some (.pointer (some TA)) ∧ Wz.drew.cell? ⟨w.heap.size + 1, 1, none⟩ = some (.int .i64 (TL : Int)) from ⟨q1, e0, e1, g0, g1⟩)
          have k5 : ∀ j o, j < Wz.heap.size → j ≠ mb → W5.cell? ⟨j, o, none⟩ = Wz.cell? ⟨j, o, none⟩ := fun j o h1 h2 => World.cell?_of_block (w := Wz) (hf5.block j h1 (by simpa using h2))
          have HBZ5 := Lib.hid (show W5.cell? ⟨kq, 1, none⟩ = some (.map (some mb)) ∧ W5.cell? ⟨w.heap.size, 0, none⟩ = some (.pointer (some RA)) ∧ W5.cell? ⟨w.heap.size, 1, none⟩ = some (.int .i64 (RL : Int)) ∧ W5.cell? ⟨w.heap.size + 1, 0, none⟩ = some (.pointer (some TA)) ∧ W5.cell? ⟨w.heap.size + 1, 1, none⟩ = some (.int .i64 (TL : Int)) from ⟨(k5 _ _ hqlt HKM.out).trans q1, (k5 _ _ halt HMN.out.1).trans e0, (k5 _ _ halt HMN.out.1).trans e1, (k5 _ _ hblt HMN.out.2).trans g0, (k5 _ _ hblt HMN.out.2).trans g1⟩)
          clear hst5 hf5 k5
          go_wp2_with fail
          go_region_held3 (fun X => X.cell? ⟨kq, 1, none⟩ = some (.map (some mb)) ∧ X.cell? ⟨w.heap.size, 0, none⟩ = some (.pointer (some RA)) ∧ X.cell? ⟨w.heap.size, 1, none⟩ = some (.int .i64 (RL : Int)) ∧ X.cell? ⟨w.heap.size + 1, 0, none⟩ = some (.pointer (some TA)) ∧ X.cell? ⟨w.heap.size + 1, 1, none⟩ = some (.int .i64 (TL : Int)))
            (first
            | exact HBZ.out
            | exact HBZ5.out)
            (fail)
          all_goals
            clear ‹_ ∧ _›
            go_wp2_with fail
            go_ret
            exact HS5.out
      · rw [decide_eq_false hAA] at he1
        have HNK := Lib.hid (show R.key ≠ T.key from HMID.out.diff (Or.inl hAA))
        clear hAA
        obtain ⟨W5, hrun, hst5, hf5⟩ := HUPD.out HNK.out
        have HS5 := Lib.hid (show JoinedPost E A B kq N none w (.returned (.bool false)) W5 from ⟨false, some mb, rfl, (fun h => by cases h), (fun _ => by rw [HSIZE.out]; exact hst5), (HFRY.out.trans (HMID.out.fr) (fun x h => by simp at h; rcases h with rfl | rfl | rfl; exact HNEW.out.elim (fun h => Or.inl (List.mem_cons_of_mem _ h)) Or.inr; exact Or.inr (Nat.le_refl _); exact Or.inr (Nat.le_succ _))).trans hf5 (fun x h => by simp at h; subst h; exact HNEW.out.elim (fun h => Or.inl (List.mem_cons_of_mem _ h)) Or.inr), fun j hj => by simp at hj; subst hj; exact HNEW.out⟩)
        have HBZ := Lib.hid (show Wz.drew.cell? ⟨kq, 1, none⟩ = some (.map (some mb)) ∧ Wz.drew.cell? ⟨w.heap.size, 0, none⟩ = some (.pointer (some RA)) ∧ Wz.drew.cell? ⟨w.heap.size, 1, none⟩ = some (.int .i64 (RL : Int)) ∧ Wz.drew.cell? ⟨w.heap.size + 1, 0, none⟩ = some (.pointer (some TA)) ∧ Wz.drew.cell? ⟨w.heap.size + 1, 1, none⟩ = some (.int .i64 (TL : Int)) from ⟨q1, e0, e1, g0, g1⟩)
        have k5 : ∀ j o, j < Wz.heap.size → j ≠ mb → W5.cell? ⟨j, o, none⟩ = Wz.cell? ⟨j, o, none⟩ := fun j o h1 h2 => World.cell?_of_block (w := Wz) (hf5.block j h1 (by simpa using h2))
        have HBZ5 := Lib.hid (show W5.cell? ⟨kq, 1, none⟩ = some (.map (some mb)) ∧ W5.cell? ⟨w.heap.size, 0, none⟩ = some (.pointer (some RA)) ∧ W5.cell? ⟨w.heap.size, 1, none⟩ = some (.int .i64 (RL : Int)) ∧ W5.cell? ⟨w.heap.size + 1, 0, none⟩ = some (.pointer (some TA)) ∧ W5.cell? ⟨w.heap.size + 1, 1, none⟩ = some (.int .i64 (TL : Int)) from ⟨(k5 _ _ hqlt HKM.out).trans q1, (k5 _ _ halt HMN.out.1).trans e0, (k5 _ _ halt HMN.out.1).trans e1, (k5 _ _ hblt HMN.out.2).trans g0, (k5 _ _ hblt HMN.out.2).trans g1⟩)
        clear hst5 hf5 k5
        go_wp2_with fail
        go_region_held3 (fun X => X.cell? ⟨kq, 1, none⟩ = some (.map (some mb)) ∧ X.cell? ⟨w.heap.size, 0, none⟩ = some (.pointer (some RA)) ∧ X.cell? ⟨w.heap.size, 1, none⟩ = some (.int .i64 (RL : Int)) ∧ X.cell? ⟨w.heap.size + 1, 0, none⟩ = some (.pointer (some TA)) ∧ X.cell? ⟨w.heap.size + 1, 1, none⟩ = some (.int .i64 (TL : Int)))
          (first
          | exact HBZ.out
          | exact HBZ5.out)
          (fail)
        all_goals
          clear ‹_ ∧ _›
          go_wp2_with fail
          go_ret
          exact HS5.out
    | some mb =>
      obtain ⟨hmb9, M, hmy, hey, hfy⟩ := HE1.out.map mb rfl
      have hml9 := HLT.out mb (by simp)
      have HMY := Lib.hid hmy
      have HEY := Lib.hid hey
      have HFY := Lib.hid hfy
      have HMB := Lib.hid hmb9
      have HKM := Lib.hid (show kq ≠ mb from fun e => by
        have h1 := HQ1.out
        obtain ⟨es, clock, h2, -⟩ := hmy.is
        unfold EqBox at h1
        rw [e, h2] at h1
        cases h1)
      have HMN := Lib.hid (show w.heap.size ≠ mb ∧ w.heap.size + 1 ≠ mb by omega)
      have HNEW := Lib.hid (show mb ∈ (some mb : Option Nat).toList ∨ w.heap.size ≤ mb from Or.inl (by simp))
      have HQY := HQ1
      have HJA := HJ1
      have HJB := HJ2
      have HLY := HL1
      have HFRY := HFR1
      clear hmy hey hfy hmb9 hml9
      go_wp2_with fail
      clear a0 a1 af b0 b1 bf p0 p1 pf hplt halt hblt
      have hw0 := HKL.out
      have HC1 := Lib.hid (own_end2 E A AA AL HAADR.out HSIZE.out.symm kq mb ((N : Int) + (AL : Int)) M W1.drew HQY.out HMY.out HEY.out HFY.out HLY.out.drew HMB.out HALL2.out)
      have HC2 := Lib.hid (fun (w5 : World) (M5 : List (Value × Value)) (hf : Fr [mb] W1.drew w5) (hm : MapSt w5 mb M5) (he : Ent E M5) (hF : Forest M5) => own_end2 E B BA BL HBADR.out HBLEN.out kq mb ((N : Int) + (AL : Int)) M5 w5 (HQY.out.on (hf.block _ HQY.out.lt (by simpa using HKM.out))) hm he hF (HLY.out.drew.trans (hf.below (fun x h => by have := HMB.out; simp at h; omega) HLY.out.size)) HMB.out HALL2.out)
      have HBX := Lib.hid (show ∀ (w5 : World), Fr [mb] W1.drew w5 → PlBox w5 w.heap.size (.pointer (some AA)) (.int .i64 (AL : Int)) ∧ PlBox w5 (w.heap.size + 1) (.pointer (some BA)) (.int .i64 (BL : Int)) from fun w5 hf => ⟨HJA.out.on (hf.block _ HJA.out.lt (by simpa using HMN.out.1)), HJB.out.on (hf.block _ HJB.out.lt (by simpa using HMN.out.2))⟩)
      obtain ⟨a0, a1, af⟩ := HJA.out.cells
      obtain ⟨b0, b1, bf⟩ := HJB.out.cells
      have HFIN := Lib.hid (show ∀ (w5 w6 : World) (RA TA : Addr) (RL TL : Nat) (R T : Pl wo G) (M5 M6 : List (Value × Value)), RA = R.adr ∧ RL = R.exs.length ∧ Conn E A R ∧ MapSt w5 mb M5 ∧ Ent E M5 ∧ Forest M5 ∧ (∀ x ∈ M5, x.1 ≠ R.key) ∧ (∀ k, (∀ x ∈ M, x.1 ≠ k) → ∀ x ∈ M5, x.1 ≠ k) → Fr [mb] W1.drew w5 →
          TA = T.adr ∧ TL = T.exs.length ∧ Conn E B T ∧ MapSt w6 mb M6 ∧ Ent E M6 ∧ Forest M6 ∧ (∀ x ∈ M6, x.1 ≠ T.key) ∧ (∀ k, (∀ x ∈ M5, x.1 ≠ k) → ∀ x ∈ M6, x.1 ≠ k) → Fr [mb] w5 w6 →
          JoinMid E A B kq mb N AL w W1 RA TA RL TL R T M6 ((((w6.setCell ⟨w.heap.size, 0, none⟩ (.pointer (some RA))).setCell ⟨w.heap.size, 1, none⟩ (.int .i64 (RL : Int))).setCell ⟨w.heap.size + 1, 0, none⟩ (.pointer (some TA))).setCell ⟨w.heap.size + 1, 1, none⟩ (.int .i64 (TL : Int))) from fun w5 w6 RA TA RL TL R T M5 M6 h1 hf1 h2 hf2 =>
        join_mid HQY.out HJA.out HJB.out HLY.out HMB.out HKM.out HMN.out HKL.out HWS.out h1 hf1 h2 hf2)
      refine cut_reg (fun a W => ∃ (RA TA : Addr) (RL TL : Nat) (R T : Pl wo G) (M6 : List (Value × Value)), a = { tmps := #[.pointer (some ⟨kq, 0, none⟩), .agg #[.pointer (some AA), .int .i64 (AL : Int)], .agg #[.pointer (some BA), .int .i64 (BL : Int)], undef, .pointer (some ⟨w.heap.size, 0, none⟩), .pointer (some ⟨w.heap.size + 1, 0, none⟩), .bool false, .pointer (some ⟨kq, 0, none⟩), .pointer (some ⟨kq, 0, none⟩), .pointer (some ⟨kq, 0, none⟩), .int .i64 (N : Int), .pointer (some ⟨w.heap.size, 1, none⟩), .int .i64 (AL : Int), .int .i64 ((N : Int) + (AL : Int)), .pointer (some ⟨kq, 0, none⟩), .pointer (some ⟨kq, 0, none⟩), .pointer (some ⟨kq, 0, none⟩), .pointer (some ⟨kq, 0, none⟩), .pointer (some ⟨kq, 0, none⟩), .int .i64 ((N : Int) + (AL : Int)), .bool false, undef, undef, undef, .pointer (some ⟨kq, 0, none⟩), .pointer (some ⟨kq, 0, none⟩), .pointer (some ⟨kq, 1, none⟩), .map (some mb), .bool false, undef, undef, undef, undef, .pointer (some ⟨kq, 0, none⟩), .agg #[.pointer (some AA), .int .i64 (AL : Int)], .agg #[.pointer (some RA), .int .i64 (RL : Int)], .pointer (some ⟨kq, 0, none⟩), .agg #[.pointer (some BA), .int .i64 (BL : Int)], .agg #[.pointer (some TA), .int .i64 (TL : Int)], undef, undef, undef, undef, undef, undef, undef, undef, undef], defers := [] } ∧ JoinMid E A B kq mb N AL w W1 RA TA RL TL R T M6 W) ?_ ?_
      · go_region_law (first
          | (go_simp; go_at_call 147; with_reducible refine Calls.mono HC1.out ?_; rintro r w5 ⟨RA, RL, R, M5, rfl, hr5, hf5⟩; have HR5 := Lib.hid hr5; have HF5 := Lib.hid hf5; obtain ⟨hbxa, hbxb⟩ := HBX.out w5 hf5; obtain ⟨b2, b3, bf2⟩ := hbxb.cells; have HC3 := Lib.hid (HC2.out w5 M5 hf5 hr5.2.2.2.1 hr5.2.2.2.2.1 hr5.2.2.2.2.2.1); clear hr5 hf5 hbxa hbxb)
          | (go_simp; go_at_call 147; with_reducible refine Calls.mono HC3.out ?_; rintro r w6 ⟨TA, TL, T, M6, rfl, hr6, hf6⟩; have HR6 := Lib.hid hr6; have HF6 := Lib.hid hf6; obtain ⟨hbxa, hbxb⟩ := HBX.out w6 (HF5.out.trans hf6 (fun x h => Or.inl h)); obtain ⟨c0, c1, cf⟩ := hbxa.cells; obtain ⟨d0, d1, df⟩ := hbxb.cells; have halt6 := hbxa.lt; have hblt6 := hbxb.lt; clear hr6 hf6 hbxa hbxb))
        all_goals exact ⟨RA, TA, RL, TL, R, T, M6, rfl, HFIN.out w5 w6 RA TA RL TL R T M5 M6 HR5.out HF5.out HR6.out HF6.out⟩
      rintro _ Wz ⟨RA, TA, RL, TL, R, T, M6, rfl, hmid⟩
      have HMID := Lib.hid hmid
      obtain ⟨e0, e1, ef⟩ := hmid.ab.cells
      obtain ⟨g0, g1, gf⟩ := hmid.bb.cells
      obtain ⟨q0, q1, qf⟩ := hmid.q.cells
      have hqlt := hmid.q.lt
      have halt := hmid.ab.lt
      have hblt := hmid.bb.lt
      clear hmid a0 a1 af b0 b1 bf
      obtain ⟨i0, hi, -, hz, -⟩ := info_parts Try.infoEx
      have hz : i0.size ≠ 0 := by omega
      have hfZ : ∀ p : Pl wo G, FreeB Wz p.adr.block := Pl.free HALL2.out HMID.out.low
      have HFZ := Lib.hid hfZ
      have he1 : (Op.equalIn 9999 154 (.pointer (some RA)) (.pointer (some TA))).run Try.prog Wz = .ok (decide (RA = TA)) Wz := eq_ptr (P := Try.prog) Try.underlying154 hi hz (by rw [HMID.out.ra]; exact hfZ R) (by rw [HMID.out.ta]; exact hfZ T) 9998
      have HYES := Lib.hid (show RA = TA → RL = TL → JoinedPost E A B kq N (some mb) w (.returned (.bool true)) Wz from fun h1 h2 => ⟨true, some mb, rfl, fun _ => ⟨HMID.out.same h1 h2, by rw [HSIZE.out]; exact HMID.out.st HMB.out⟩, (fun h => by cases h), (HFRY.out.trans (HMID.out.fr) (fun x h => by simp at h; rcases h with rfl | rfl | rfl; exact HNEW.out.elim (fun h => Or.inl (List.mem_cons_of_mem _ h)) Or.inr; exact Or.inr (Nat.le_refl _); exact Or.inr (Nat.le_succ _))), fun j hj => by simp at hj; subst hj; exact HNEW.out⟩)
      clear hi hz hfZ
      have HUPD := Lib.hid (HMID.out.upd HMB.out HFZ.out)
      by_cases hAA : RA = TA
      · rw [decide_eq_true hAA] at he1
        by_cases hLL : (RL : Int) = (TL : Int)
        · have HF := Lib.hid (HYES.out hAA (by omega))
          clear hAA
          go_wp2_with fail
          go_ret
          exact HF.out
        · have HNK := Lib.hid (show R.key ≠ T.key from HMID.out.diff (Or.inr (by omega)))
          clear hAA
          obtain ⟨W5, hrun, hst5, hf5⟩ := HUPD.out HNK.out
          have HS5 := Lib.hid (show JoinedPost E A B kq N (some mb) w (.returned (.bool false)) W5 from ⟨false, some mb, rfl, (fun h => by cases h), (fun _ => by rw [HSIZE.out]; exact hst5), (HFRY.out.trans (HMID.out.fr) (fun x h => by simp at h; rcases h with rfl | rfl | rfl; exact HNEW.out.elim (fun h => Or.inl (List.mem_cons_of_mem _ h)) Or.inr; exact Or.inr (Nat.le_refl _); exact Or.inr (Nat.le_succ _))).trans hf5 (fun x h => by simp at h; subst h; exact HNEW.out.elim (fun h => Or.inl (List.mem_cons_of_mem _ h)) Or.inr), fun j hj => by simp at hj; subst hj; exact HNEW.out⟩)
          have HBZ := Lib.hid (show Wz.drew.cell? ⟨kq, 1, none⟩ = some (.map (some mb)) ∧ Wz.drew.cell? ⟨w.heap.size, 0, none⟩ = some (.pointer (some RA)) ∧ Wz.drew.cell? ⟨w.heap.size, 1, none⟩ = some (.int .i64 (RL : Int)) ∧ Wz.drew.cell? ⟨w.heap.size + 1, 0, none⟩ = some (.pointer (some TA)) ∧ Wz.drew.cell? ⟨w.heap.size + 1, 1, none⟩ = some (.int .i64 (TL : Int)) from ⟨q1, e0, e1, g0, g1⟩)
          have k5 : ∀ j o, j < Wz.heap.size → j ≠ mb → W5.cell? ⟨j, o, none⟩ = Wz.cell? ⟨j, o, none⟩ := fun j o h1 h2 => World.cell?_of_block (w := Wz) (hf5.block j h1 (by simpa using h2))
          have HBZ5 := Lib.hid (show W5.cell? ⟨kq, 1, none⟩ = some (.map (some mb)) ∧ W5.cell? ⟨w.heap.size, 0, none⟩ = some (.pointer (some RA)) ∧ W5.cell? ⟨w.heap.size, 1, none⟩ = some (.int .i64 (RL : Int)) ∧ W5.cell? ⟨w.heap.size + 1, 0, none⟩ = some (.pointer (some TA)) ∧ W5.cell? ⟨w.heap.size + 1, 1, none⟩ = some (.int .i64 (TL : Int)) from ⟨(k5 _ _ hqlt HKM.out).trans q1, (k5 _ _ halt HMN.out.1).trans e0, (k5 _ _ halt HMN.out.1).trans e1, (k5 _ _ hblt HMN.out.2).trans g0, (k5 _ _ hblt HMN.out.2).trans g1⟩)
          clear hst5 hf5 k5
          go_wp2_with fail
          go_region_held3 (fun X => X.cell? ⟨kq, 1, none⟩ = some (.map (some mb)) ∧ X.cell? ⟨w.heap.size, 0, none⟩ = some (.pointer (some RA)) ∧ X.cell? ⟨w.heap.size, 1, none⟩ = some (.int .i64 (RL : Int)) ∧ X.cell? ⟨w.heap.size + 1, 0, none⟩ = some (.pointer (some TA)) ∧ X.cell? ⟨w.heap.size + 1, 1, none⟩ = some (.int .i64 (TL : Int)))
            (first
            | exact HBZ.out
            | exact HBZ5.out)
            (fail)
          all_goals
            clear ‹_ ∧ _›
            go_wp2_with fail
            go_ret
            exact HS5.out
      · rw [decide_eq_false hAA] at he1
        have HNK := Lib.hid (show R.key ≠ T.key from HMID.out.diff (Or.inl hAA))
        clear hAA
        obtain ⟨W5, hrun, hst5, hf5⟩ := HUPD.out HNK.out
        have HS5 := Lib.hid (show JoinedPost E A B kq N (some mb) w (.returned (.bool false)) W5 from ⟨false, some mb, rfl, (fun h => by cases h), (fun _ => by rw [HSIZE.out]; exact hst5), (HFRY.out.trans (HMID.out.fr) (fun x h => by simp at h; rcases h with rfl | rfl | rfl; exact HNEW.out.elim (fun h => Or.inl (List.mem_cons_of_mem _ h)) Or.inr; exact Or.inr (Nat.le_refl _); exact Or.inr (Nat.le_succ _))).trans hf5 (fun x h => by simp at h; subst h; exact HNEW.out.elim (fun h => Or.inl (List.mem_cons_of_mem _ h)) Or.inr), fun j hj => by simp at hj; subst hj; exact HNEW.out⟩)
        have HBZ := Lib.hid (show Wz.drew.cell? ⟨kq, 1, none⟩ = some (.map (some mb)) ∧ Wz.drew.cell? ⟨w.heap.size, 0, none⟩ = some (.pointer (some RA)) ∧ Wz.drew.cell? ⟨w.heap.size, 1, none⟩ = some (.int .i64 (RL : Int)) ∧ Wz.drew.cell? ⟨w.heap.size + 1, 0, none⟩ = some (.pointer (some TA)) ∧ Wz.drew.cell? ⟨w.heap.size + 1, 1, none⟩ = some (.int .i64 (TL : Int)) from ⟨q1, e0, e1, g0, g1⟩)
        have k5 : ∀ j o, j < Wz.heap.size → j ≠ mb → W5.cell? ⟨j, o, none⟩ = Wz.cell? ⟨j, o, none⟩ := fun j o h1 h2 => World.cell?_of_block (w := Wz) (hf5.block j h1 (by simpa using h2))
        have HBZ5 := Lib.hid (show W5.cell? ⟨kq, 1, none⟩ = some (.map (some mb)) ∧ W5.cell? ⟨w.heap.size, 0, none⟩ = some (.pointer (some RA)) ∧ W5.cell? ⟨w.heap.size, 1, none⟩ = some (.int .i64 (RL : Int)) ∧ W5.cell? ⟨w.heap.size + 1, 0, none⟩ = some (.pointer (some TA)) ∧ W5.cell? ⟨w.heap.size + 1, 1, none⟩ = some (.int .i64 (TL : Int)) from ⟨(k5 _ _ hqlt HKM.out).trans q1, (k5 _ _ halt HMN.out.1).trans e0, (k5 _ _ halt HMN.out.1).trans e1, (k5 _ _ hblt HMN.out.2).trans g0, (k5 _ _ hblt HMN.out.2).trans g1⟩)
        clear hst5 hf5 k5
        go_wp2_with fail
        go_region_held3 (fun X => X.cell? ⟨kq, 1, none⟩ = some (.map (some mb)) ∧ X.cell? ⟨w.heap.size, 0, none⟩ = some (.pointer (some RA)) ∧ X.cell? ⟨w.heap.size, 1, none⟩ = some (.int .i64 (RL : Int)) ∧ X.cell? ⟨w.heap.size + 1, 0, none⟩ = some (.pointer (some TA)) ∧ X.cell? ⟨w.heap.size + 1, 1, none⟩ = some (.int .i64 (TL : Int)))
          (first
          | exact HBZ.out
          | exact HBZ5.out)
          (fail)
        all_goals
          clear ‹_ ∧ _›
          go_wp2_with fail
          go_ret
          exact HS5.out
end Go.Proofs.Ytmndlhbgacgnlaa
