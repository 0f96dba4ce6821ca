/- The contract of the program's own endOf: it leads from a place to one that is joined with it and leads nowhere. Conditions: the map's ways end; no string shares the memory of the places. -/
import Derived.Test.YtmndlhbgacgnlaaOwnPlace
import Derived.Test.YtmndlhbgacgnlaaAscSt
import Derived.Test.YtmndlhbgacgnlaaFrame
import Derived.CallsIn
import Derived.OrdersIn
import Derived.Deep.LoopGhost
import Derived.Deep.QuietTactic
import Derived.BigQuiet
import Derived.Deep.RegionHeld3
namespace Go.Proofs.Ytmndlhbgacgnlaa
open Go Go.RowKit

/-- Left at its end alone. -/
def onlyR (R : Act → World → Prop) : Exit → Act → World → Prop
  | .normal, a, W => R a W
  | _, _, _ => False
/-- The orders of a piece meet again. -/
theorem cut_reg {P : Program} {c : Code} {K : Act → World → Prop} {Q : Exit → Act → World → Prop} {a : Act} {w : World} (R : Act → World → Prop) (h : c.wp P (onlyR R) a w) (hK : ∀ a W, R a W → K a W) : c.wp P (Exit.then K Q) a w :=
  wpIn_wide.1 (wpIn_mono (wpIn_wide.2 h : c.wpIn Fence.wide 0 P (onlyR R) a w) (fun e a W hq => by
    cases e with
    | normal => exact hK a W hq
    | exit id => exact hq.elim
    | goto t => exact hq.elim
    | ret => exact hq.elim
    | panic c => exact hq.elim
    | outgrown => exact hq.elim))

/-- The record of what is known to be equal. -/
def EqBox (W : World) (kq : Nat) (N : Int) (mo : Option Nat) : Prop := W.heap[kq]? = some (.cells #[.int .i64 N, .map mo] 97 (0, 0))
theorem EqBox.lt {W : World} {kq : Nat} {N : Int} {mo : Option Nat} (h : EqBox W kq N mo) : kq < W.heap.size := (Array.getElem?_eq_some_iff.1 h).1
theorem EqBox.cells {W : World} {kq : Nat} {N : Int} {mo : Option Nat} (h : EqBox W kq N mo) : W.cell? ⟨kq, 0, none⟩ = some (.int .i64 N) ∧ W.cell? ⟨kq, 1, none⟩ = some (.map mo) ∧ ∀ o, W.frozen? ⟨kq, o, none⟩ = false := by
  unfold EqBox at h
  exact ⟨by simp [World.cell?, h], by simp [World.cell?, h], fun o => by simp [World.frozen?, h]⟩
theorem EqBox.on {W W2 : World} {kq : Nat} {N : Int} {mo : Option Nat} (h : EqBox W kq N mo) (hk : W2.heap[kq]? = W.heap[kq]?) : EqBox W2 kq N mo := hk.trans h
/-- A box that holds a place. -/
def PlBox (W : World) (b : Nat) (u v : Value) : Prop := W.heap[b]? = some (.cells #[u, v] 159 (0, 0))
theorem PlBox.lt {W : World} {b : Nat} {u v : Value} (h : PlBox W b u v) : b < W.heap.size := (Array.getElem?_eq_some_iff.1 h).1
theorem PlBox.cells {W : World} {b : Nat} {u v : Value} (h : PlBox W b u v) : W.cell? ⟨b, 0, none⟩ = some u ∧ W.cell? ⟨b, 1, none⟩ = some v ∧ ∀ o, W.frozen? ⟨b, o, none⟩ = false := by
  unfold PlBox at h
  exact ⟨by simp [World.cell?, h], by simp [World.cell?, h], fun o => by simp [World.frozen?, h]⟩
theorem PlBox.on {W W2 : World} {b : Nat} {u v : Value} (h : PlBox W b u v) (hk : W2.heap[b]? = W.heap[b]?) : PlBox W2 b u v := hk.trans h
theorem PlBox.set {W : World} {b : Nat} {u v : Value} (h : PlBox W b u v) (u2 v2 : Value) : PlBox ((W.setCell ⟨b, 0, none⟩ u2).setCell ⟨b, 1, none⟩ v2) b u2 v2 := by
  unfold PlBox at h ⊢
  simp [World.setCell, Array.getElem?_modify, h]
section
variable {wo : World} {G : List Nat}
/-- Every way of the map joins what is joined. -/
def Ent (E : List (Pl wo G × Pl wo G)) (M : List (Value × Value)) : Prop := ∀ x ∈ M, ∃ u v : Pl wo G, x = (u.key, v.key) ∧ Conn E u v
theorem Ent.more {E E2 : List (Pl wo G × Pl wo G)} {M : List (Value × Value)} (h : Ent E M) (hE : ∀ p ∈ E, p ∈ E2) : Ent E2 M := fun x hx => by
  obtain ⟨u, v, e, c⟩ := h x hx
  exact ⟨u, v, e, c.more hE⟩
theorem Ent.put {E : List (Pl wo G × Pl wo G)} {M M2 : List (Value × Value)} (h : Ent E M) (hn : (M.map Prod.fst).Nodup) {u v : Pl wo G} (hc : Conn E u v) (hp : Put M u.key v.key M2) : Ent E M2 := fun x hx => by
  obtain ⟨x1, x2⟩ := x
  rcases (put_mem hn hp x1 x2).1 hx with ⟨rfl, rfl⟩ | ⟨-, hx⟩
  · exact ⟨u, v, rfl, hc⟩
  · exact h _ hx
theorem Ent.one {E : List (Pl wo G × Pl wo G)} {M : List (Value × Value)} (h : Ent E M) {p : Pl wo G} {v : Value} (hv : (p.key, v) ∈ M) : ∃ q : Pl wo G, v = q.key ∧ Conn E p q := by
  obtain ⟨u, q, e, c⟩ := h _ hv
  obtain ⟨e1, e2⟩ := Prod.mk.inj e
  exact ⟨q, e2, (Conn.same (Pl.det e1)).trans c⟩
theorem Ent.keys {E : List (Pl wo G × Pl wo G)} {M : List (Value × Value)} (h : Ent E M) {w : World} (hfr : ∀ p : Pl wo G, FreeB w p.adr.block) : ∀ x ∈ M, PlaceK w x.1 := fun x hx => by
  obtain ⟨u, v, rfl, -⟩ := h x hx
  exact ⟨u.adr, _, rfl, hfr u⟩
theorem Pl.free {w : World} (hfr : ∀ p : Pl wo G, FreeB wo p.adr.block) (hb : Below wo.heap.size wo w) (p : Pl wo G) : FreeB w p.adr.block := (hfr p).on (hb.block _ (hfr p).lt)
/-- What endOf leaves. -/
def EndPost (E : List (Pl wo G × Pl wo G)) (P : Pl wo G) (mb : Nat) (M : List (Value × Value)) (w : World) (r : Ending) (w2 : World) : Prop :=
  ∃ (R : Pl wo G) (M2 : List (Value × Value)), r = .returned R.key ∧ Conn E P R ∧ MapSt w2 mb M2 ∧ Ent E M2 ∧ Forest M2 ∧ (∀ x ∈ M2, x.1 ≠ R.key) ∧ (∀ k, (∀ x ∈ M, x.1 ≠ k) → ∀ x ∈ M2, x.1 ≠ k) ∧ Fr [mb] w w2
/-- What the loop holds. -/
structure En (w : World) (E : List (Pl wo G × Pl wo G)) (P : Pl wo G) (kq mb : Nat) (N : Int) (M : List (Value × Value)) (Q : Pl wo G) (M2 : List (Value × Value)) (wr : World) : Prop where
  fr : Fr [mb] w wr
  low : Below wo.heap.size wo wr
  q : EqBox wr kq N (some mb)
  ab : PlBox wr w.heap.size (.pointer (some Q.adr)) (.int .i64 (Q.exs.length : Int))
  rb : PlBox wr (w.heap.size + 1) (.pointer none) (.int .i64 0)
  map : MapSt wr mb M2
  ent : Ent E M2
  forest : Forest M2
  keys : ∀ k, (∀ x ∈ M, x.1 ≠ k) → ∀ x ∈ M2, x.1 ≠ k
  conn : Conn E P Q
  ml : mb < w.heap.size
  kl : kq < w.heap.size
theorem En.start {w : World} {E : List (Pl wo G × Pl wo G)} {P : Pl wo G} {kq mb : Nat} {N : Int} {M : List (Value × Value)} (hq : EqBox w kq N (some mb)) (hm : MapSt w mb M) (he : Ent E M) (hF : Forest M) (hlow : Below wo.heap.size wo w) :
    En w E P kq mb N M P M ((w.alloc (.cells #[.pointer (some P.adr), .int .i64 (P.exs.length : Int)] 159)).alloc (.cells #[.pointer none, .int .i64 0] 159)) := by
  have hb : Below w.heap.size w ((w.alloc (.cells #[.pointer (some P.adr), .int .i64 (P.exs.length : Int)] 159)).alloc (.cells #[.pointer none, .int .i64 0] 159)) := ((Below.refl _ w).alloc (Nat.le_refl _) _).alloc (by simp) _
  have hml := hm.is.lt
  refine ⟨Fr.of_below hb, hlow.trans (hb.mono hlow.size), hq.on (hb.block _ hq.lt), ?_, ?_, hm.on (hb.block _ hml), he, hF, fun k h => h, Conn.same rfl, hml, hq.lt⟩
  · exact (Below.heap_alloc _ _ _ (by simp)).trans (World.alloc_heap_new w _)
  · have := World.alloc_heap_new (w.alloc (.cells #[.pointer (some P.adr), .int .i64 (P.exs.length : Int)] 159)) (.cells #[.pointer none, .int .i64 0] 159)
    rw [World.size_alloc] at this
    exact this
end
theorem zeroPl (w : World) : (zeroValue 159).run Try.prog w = .ok (.agg #[.pointer none, .int .i64 0]) w := by kernel_rfl
theorem look_all {wo : World} {G : List Nat} {E : List (Pl wo G × Pl wo G)} {mb : Nat} {M : List (Value × Value)} {wr : World} (hm : MapSt wr mb M) (he : Ent E M) (hlow : Below wo.heap.size wo wr) (hfr : ∀ p : Pl wo G, FreeB wo p.adr.block) (R : Pl wo G) :
    ∃ v has, Hits M R.key (.agg #[.pointer none, .int .i64 0]) v has ∧ ∀ X, Below wr.heap.size wr X → (Instr.lookup 95 (.map (some mb)) R.key true).run Try.prog X = .ok (.tuple #[v, .bool has]) X := by
  have one : ∀ X, Below wr.heap.size wr X → ∃ v has, Hits M R.key (.agg #[.pointer none, .int .i64 0]) v has ∧ (Instr.lookup 95 (.map (some mb)) R.key true).run Try.prog X = .ok (.tuple #[v, .bool has]) X := fun X hX => by
    have hfX := Pl.free hfr (hlow.trans (hX.mono hlow.size))
    obtain ⟨v, has, h1, h2⟩ := (hm.on (hX.block _ hm.is.lt)).is.look (placeT X) Try.underlying95 (zeroPl X) (key := R.key) ⟨R.adr, _, rfl, hfX R⟩ (he.keys hfX)
    exact ⟨v, has, h2, by simpa using h1 true⟩
  obtain ⟨v, has, h1, h2⟩ := one wr (Below.refl _ _)
  refine ⟨v, has, h1, fun X hX => ?_⟩
  obtain ⟨v', has', h3, h4⟩ := one X hX
  obtain ⟨rfl, rfl⟩ := Hits.uniq hm.nodup h1 h3
  exact h4
set_option maxRecDepth 100000 in
set_option maxHeartbeats 4000000 in
theorem own_end {wo : World} {G : List Nat} (E : List (Pl wo G × Pl wo G)) (P : Pl wo G) (kq mb : Nat) (N : Int) (M : List (Value × Value)) (w : World) (hq : EqBox w kq N (some mb)) (hm : MapSt w mb M) (he : Ent E M) (hF : Forest M) (hlow : Below wo.heap.size wo w) (hmb : wo.heap.size ≤ mb) (hfr : ∀ p : Pl wo G, FreeB wo p.adr.block) :
    Calls Try.prog 147 #[.pointer (some ⟨kq, 0, none⟩), P.key] w (EndPost E P mb M w) := by
  have HST := Lib.hid (En.start (P := P) hq hm he hF hlow)
  obtain ⟨n0, r0, hn0⟩ := hF P.key
  have HN0 := Lib.hid hn0
  have HFR := Lib.hid hfr
  have HMB := Lib.hid hmb
  obtain ⟨PA, hPA⟩ : ∃ z, z = P.adr := ⟨_, rfl⟩
  obtain ⟨PL, hPL⟩ : ∃ z, z = P.exs.length := ⟨_, rfl⟩
  have hkey : P.key = .agg #[.pointer (some PA), .int .i64 (PL : Int)] := by rw [hPA, hPL]; rfl
  rw [hkey]
  rw [← hPA, ← hPL] at HST
  have HPA := Lib.hid hPA
  have HPL := Lib.hid hPL
  clear hq hm he hF hlow hn0 hfr hmb hkey hPA hPL
  go_enter Try.func147, Try.ntmps147
  go_wp2_with fail
  go_loopg [5, 6, 7, 8] n0 (fun gk l5 l6 l7 l8 wr => ∃ (Q : Pl wo G) (M2 : List (Value × Value)) (r : Value), Hid (Ends M2 Q.key gk r) ∧ Hid (En w E P kq mb N M Q M2 wr))
  case atStart => exact ⟨P, M, r0, HN0, HST⟩
  case round =>
    obtain ⟨Q, M2, r, HE, HQ⟩ := hrel
    obtain ⟨QA, hQA⟩ : ∃ z, z = Q.adr := ⟨_, rfl⟩
    obtain ⟨QL, hQL⟩ : ∃ z, z = Q.exs.length := ⟨_, rfl⟩
    have hkQ : Q.key = .agg #[.pointer (some QA), .int .i64 (QL : Int)] := by rw [hQA, hQL]; rfl
    have hab := HQ.out.ab
    rw [← hQA, ← hQL] at hab
    obtain ⟨v, has, hhit, hrun⟩ := look_all HQ.out.map HQ.out.ent HQ.out.low HFR.out Q
    rw [hkQ] at hrun
    have HS := Lib.hid (show ∀ X, Below wr.heap.size wr X → X.cell? ⟨kq, 1, none⟩ = some (.map (some mb)) ∧ X.cell? ⟨w.heap.size, 0, none⟩ = some (.pointer (some QA)) ∧ X.cell? ⟨w.heap.size, 1, none⟩ = some (.int .i64 (QL : Int)) ∧ (Instr.lookup 95 (.map (some mb)) (.agg #[.pointer (some QA), .int .i64 (QL : Int)]) true).run Try.prog X = .ok (.tuple #[v, .bool has]) X from fun X hX =>
      ⟨(HQ.out.q.on (hX.block _ HQ.out.q.lt)).cells.2.1, (hab.on (hX.block _ hab.lt)).cells.1, (hab.on (hX.block _ hab.lt)).cells.2.1, hrun X hX⟩)
    have HAB := Lib.hid hab
    have HKQ := Lib.hid hkQ
    have HHIT := Lib.hid hhit
    clear hQA hQL hkQ hab hhit hrun
    obtain ⟨po, pl, rfl⟩ : ∃ (po : Option Addr) (pl : Int), v = .agg #[.pointer po, .int .i64 pl] := by
      rcases HHIT.out with ⟨h, -⟩ | ⟨-, h, -⟩
      · obtain ⟨q, rfl, -⟩ := HQ.out.ent.one h
        exact ⟨_, _, rfl⟩
      · exact ⟨_, _, h⟩
    go_wp2_with fail
    refine cut_reg (fun a W => a = { tmps := #[.pointer (some ⟨kq, 0, none⟩), .agg #[.pointer (some PA), .int .i64 (PL : Int)], undef, .pointer (some ⟨w.heap.size, 0, none⟩), .pointer (some ⟨w.heap.size + 1, 0, none⟩), .pointer (some ⟨wr.heap.size, 0, none⟩), .bool has, u7, u8, .tuple #[.agg #[.pointer po, .int .i64 pl], .bool has], .pointer (some ⟨kq, 0, none⟩), .pointer (some ⟨kq, 0, none⟩), .pointer (some ⟨kq, 1, none⟩), .map (some mb), .agg #[.pointer (some QA), .int .i64 (QL : Int)], .tuple #[.agg #[.pointer po, .int .i64 pl], .bool has], .agg #[.pointer po, .int .i64 pl], .bool has, u18, u19, u20, u21, u22, u23, u24, u25, u26, u27, u28, u29, u30, u31, u32, u33, u34, u35, u36, u37, u38, u39, u40], defers := [] } ∧ W = (wr.alloc (.cells #[.pointer po, .int .i64 pl] 159)).drew) ?_ ?_
    · go_region_held3 (fun X => X.cell? ⟨kq, 1, none⟩ = some (.map (some mb)) ∧ X.cell? ⟨w.heap.size, 0, none⟩ = some (.pointer (some QA)) ∧ X.cell? ⟨w.heap.size, 1, none⟩ = some (.int .i64 (QL : Int)) ∧ (Instr.lookup 95 (.map (some mb)) (.agg #[.pointer (some QA), .int .i64 (QL : Int)]) true).run Try.prog X = .ok (.tuple #[.agg #[.pointer po, .int .i64 pl], .bool has]) X)
        (first
        | exact HS.out _ ((Below.refl _ _).drew)
        | exact HS.out _ ((Below.refl _ _).drew.alloc (Nat.le_refl _) _))
        (fail)
      all_goals exact ⟨rfl, rfl⟩
    rintro _ _ ⟨rfl, rfl⟩
    obtain ⟨Wa, hWa⟩ : ∃ W, W = (wr.alloc (.cells #[.pointer po, .int .i64 pl] 159)).drew := ⟨_, rfl⟩
    rw [← hWa]
    have HLA := Lib.hid (show Below wr.heap.size wr Wa by rw [hWa]; exact ((Below.refl _ _).alloc (Nat.le_refl _) _).drew)
    have HNB := Lib.hid (show PlBox Wa wr.heap.size (.pointer po) (.int .i64 pl) by rw [hWa]; exact World.alloc_heap_new wr _)
    have HSZ := Lib.hid (show Wa.heap.size = wr.heap.size + 1 by rw [hWa]; simp)
    have hab2 := HAB.out.on (HLA.out.block _ HAB.out.lt)
    have hrb2 := HQ.out.rb.on (HLA.out.block _ HQ.out.rb.lt)
    obtain ⟨a0, a1, af⟩ := hab2.cells
    obtain ⟨n0', n1', nf⟩ := HNB.out.cells
    obtain ⟨b0, b1, bf⟩ := hrb2.cells
    have hablt := hab2.lt
    have hrblt := hrb2.lt
    have hnblt := HNB.out.lt
    clear hWa
    cases has
    · obtain ⟨hno, hv⟩ : (∀ x ∈ M2, x.1 ≠ Q.key) ∧ (.agg #[.pointer po, .int .i64 pl] : Value) = .agg #[.pointer none, .int .i64 0] := by
        rcases HHIT.out with ⟨-, h⟩ | ⟨h1, h2, -⟩
        · cases h
        · exact ⟨h1, h2⟩
      have HNO := Lib.hid hno
      clear hno hv
      go_wp2_with fail
      have hfin := hrb2.set (.pointer (some QA)) (.int .i64 (QL : Int))
      obtain ⟨W2, hW2⟩ : ∃ W, W = (Wa.setCell ⟨w.heap.size + 1, 0, none⟩ (.pointer (some QA))).setCell ⟨w.heap.size + 1, 1, none⟩ (.int .i64 (QL : Int)) := ⟨_, rfl⟩
      rw [← hW2] at hfin ⊢
      have hf2 : Fr [w.heap.size + 1] Wa W2 := by rw [hW2]; exact (Fr.set _ _ _ (by simp)).trans (Fr.set (S := [w.heap.size + 1]) _ _ _ (by simp)) (fun x h => Or.inl h)
      obtain ⟨f0, f1, -⟩ := hfin.cells
      refine bodyPost_ret (v := .agg #[.pointer (some QA), .int .i64 (QL : Int)]) (by simp [results, Try.results147, go_sem, f0, f1]) rfl ?_
      have hml := HQ.out.ml
      have hls := HLA.out.size
      have hwl := HAB.out.lt
      refine ⟨Q, M2, by rw [HKQ.out], HQ.out.conn, HQ.out.map.on ((hf2.block _ (by omega) (by simp; omega)).trans (HLA.out.block _ (by omega))), HQ.out.ent, HQ.out.forest, HNO.out, HQ.out.keys, ?_⟩
      exact (HQ.out.fr.trans (Fr.of_below (S := [mb]) HLA.out) (fun x h => Or.inl h)).trans hf2 (fun x h => by simp at h; right; omega)
    · obtain ⟨V, hV1, hV2, hV3⟩ : ∃ V : Pl wo G, (.agg #[.pointer po, .int .i64 pl] : Value) = V.key ∧ (Q.key, V.key) ∈ M2 ∧ Conn E Q V := by
        rcases HHIT.out with ⟨h, -⟩ | ⟨-, -, h⟩
        · obtain ⟨q, e, c⟩ := HQ.out.ent.one h
          exact ⟨q, e, by rw [← e]; exact h, c⟩
        · cases h
      obtain ⟨VA, hVA⟩ : ∃ z, z = V.adr := ⟨_, rfl⟩
      obtain ⟨VL, hVL⟩ : ∃ z, z = V.exs.length := ⟨_, rfl⟩
      have hkV : V.key = .agg #[.pointer (some VA), .int .i64 (VL : Int)] := by rw [hVA, hVL]; rfl
      obtain ⟨rfl, rfl⟩ : po = some VA ∧ pl = (VL : Int) := by
        rw [hkV] at hV1
        simp only [Value.agg.injEq, Array.mk.injEq, List.cons.injEq, Value.pointer.injEq, Value.int.injEq, and_true, true_and] at hV1
        exact hV1
      have HV2 := Lib.hid hV2
      have HV3 := Lib.hid hV3
      have HKV := Lib.hid hkV
      have HMA := Lib.hid (HQ.out.map.on (HLA.out.block _ HQ.out.map.is.lt))
      have HLOA := Lib.hid (HQ.out.low.trans (HLA.out.mono HQ.out.low.size))
      have HVAL := Lib.hid (And.intro hVA hVL)
      clear hV1 hV2 hV3 hVA hVL
      obtain ⟨v2, has2, hhit2, hrun2⟩ := look_all HMA.out HQ.out.ent HLOA.out HFR.out V
      rw [hkV] at hrun2
      obtain ⟨po2, pl2, rfl⟩ : ∃ (po : Option Addr) (pl : Int), v2 = .agg #[.pointer po, .int .i64 pl] := by
        rcases hhit2 with ⟨h, -⟩ | ⟨-, h, -⟩
        · obtain ⟨q, rfl, -⟩ := HQ.out.ent.one h
          exact ⟨_, _, rfl⟩
        · exact ⟨_, _, h⟩
      have HS2 := Lib.hid (show ∀ X, Below Wa.heap.size Wa X → X.cell? ⟨kq, 1, none⟩ = some (.map (some mb)) ∧ X.cell? ⟨wr.heap.size, 0, none⟩ = some (.pointer (some VA)) ∧ X.cell? ⟨wr.heap.size, 1, none⟩ = some (.int .i64 (VL : Int)) ∧ (Instr.lookup 95 (.map (some mb)) (.agg #[.pointer (some VA), .int .i64 (VL : Int)]) true).run Try.prog X = .ok (.tuple #[.agg #[.pointer po2, .int .i64 pl2], .bool has2]) X from fun X hX =>
        ⟨(HQ.out.q.on ((hX.block _ (Nat.lt_of_lt_of_le HQ.out.q.lt HLA.out.size)).trans (HLA.out.block _ HQ.out.q.lt))).cells.2.1, (HNB.out.on (hX.block _ HNB.out.lt)).cells.1, (HNB.out.on (hX.block _ HNB.out.lt)).cells.2.1, hrun2 X hX⟩)
      have HHIT2 := Lib.hid hhit2
      clear hhit2 hrun2 hkV
      go_wp2_with fail
      refine cut_reg (fun a W => a = { tmps := #[.pointer (some ⟨kq, 0, none⟩), .agg #[.pointer (some PA), .int .i64 (PL : Int)], undef, .pointer (some ⟨w.heap.size, 0, none⟩), .pointer (some ⟨w.heap.size + 1, 0, none⟩), .pointer (some ⟨wr.heap.size, 0, none⟩), .bool true, .pointer (some ⟨Wa.heap.size, 0, none⟩), .bool has2, .tuple #[.agg #[.pointer (some VA), .int .i64 (VL : Int)], .bool true], .pointer (some ⟨kq, 0, none⟩), .pointer (some ⟨kq, 0, none⟩), .pointer (some ⟨kq, 1, none⟩), .map (some mb), .agg #[.pointer (some QA), .int .i64 (QL : Int)], .tuple #[.agg #[.pointer (some VA), .int .i64 (VL : Int)], .bool true], .agg #[.pointer (some VA), .int .i64 (VL : Int)], .bool true, .bool true, .bool false, u20, .tuple #[.agg #[.pointer po2, .int .i64 pl2], .bool has2], .pointer (some ⟨kq, 0, none⟩), .pointer (some ⟨kq, 0, none⟩), .pointer (some ⟨kq, 1, none⟩), .map (some mb), .agg #[.pointer (some VA), .int .i64 (VL : Int)], .tuple #[.agg #[.pointer po2, .int .i64 pl2], .bool has2], .agg #[.pointer po2, .int .i64 pl2], .bool has2, u30, u31, u32, u33, u34, u35, u36, u37, u38, u39, u40], defers := [] } ∧ W = (Wa.alloc (.cells #[.pointer po2, .int .i64 pl2] 159)).drew) ?_ ?_
      · go_region_held3 (fun X => X.cell? ⟨kq, 1, none⟩ = some (.map (some mb)) ∧ X.cell? ⟨wr.heap.size, 0, none⟩ = some (.pointer (some VA)) ∧ X.cell? ⟨wr.heap.size, 1, none⟩ = some (.int .i64 (VL : Int)) ∧ (Instr.lookup 95 (.map (some mb)) (.agg #[.pointer (some VA), .int .i64 (VL : Int)]) true).run Try.prog X = .ok (.tuple #[.agg #[.pointer po2, .int .i64 pl2], .bool has2]) X)
          (first
          | exact HS2.out _ ((Below.refl _ _).drew)
          | exact HS2.out _ ((Below.refl _ _).drew.alloc (Nat.le_refl _) _))
          (fail)
        all_goals exact ⟨rfl, rfl⟩
      rintro _ _ ⟨rfl, rfl⟩
      obtain ⟨Wb, hWb⟩ : ∃ W, W = (Wa.alloc (.cells #[.pointer po2, .int .i64 pl2] 159)).drew := ⟨_, rfl⟩
      rw [← hWb]
      have HLB := Lib.hid (show Below Wa.heap.size Wa Wb by rw [hWb]; exact ((Below.refl _ _).alloc (Nat.le_refl _) _).drew)
      have HFB := Lib.hid (show PlBox Wb Wa.heap.size (.pointer po2) (.int .i64 pl2) by rw [hWb]; exact World.alloc_heap_new Wa _)
      have HLAB := Lib.hid (HLA.out.trans (HLB.out.mono HLA.out.size))
      have hab3 := hab2.on (HLB.out.block _ hab2.lt)
      have hnb3 := HNB.out.on (HLB.out.block _ HNB.out.lt)
      have HAB3 := Lib.hid hab3
      have HNB3 := Lib.hid hnb3
      have HRB3 := Lib.hid (hrb2.on (HLB.out.block _ hrb2.lt))
      clear hWb a0 a1 af n0' n1' nf b0 b1 bf hablt hrblt hnblt hab2 hrb2
      obtain ⟨a0, a1, af⟩ := hab3.cells
      obtain ⟨n0', n1', nf⟩ := hnb3.cells
      have hablt := hab3.lt
      have hnblt := hnb3.lt
      have HNE := Lib.hid (show w.heap.size < wr.heap.size from HAB.out.lt)
      have HROUND := Lib.hid (show ∀ (Z : Pl wo G) (ZA : Addr) (ZL : Nat) (M3 : List (Value × Value)) (W3 : World), ZA = Z.adr → ZL = Z.exs.length → Conn E Q Z → Fr [mb, wr.heap.size] Wb W3 → MapSt W3 mb M3 → Ent E M3 → Forest M3 → (∀ k, (∀ x ∈ M2, x.1 ≠ k) → ∀ x ∈ M3, x.1 ≠ k) → En w E P kq mb N M Z M3 ((W3.setCell ⟨w.heap.size, 0, none⟩ (.pointer (some ZA))).setCell ⟨w.heap.size, 1, none⟩ (.int .i64 (ZL : Int))) from fun Z ZA ZL M3 W3 e1 e2 hc hf hm he hF hk => by
        subst e1; subst e2
        have hml := HQ.out.ml
        have hkl := HQ.out.kl
        have hne := HNE.out
        have hk1 : kq ≠ mb := fun e => by
          have h1 := HQ.out.q
          obtain ⟨es, clock, h2, -⟩ := HQ.out.map.is
          unfold EqBox at h1
          rw [e, h2] at h1
          cases h1
        have hb3 : ∀ j, j < wr.heap.size → j ≠ mb → W3.heap[j]? = wr.heap[j]? := fun j hj hn => (hf.block j (Nat.lt_of_lt_of_le hj HLAB.out.size) (by simp; omega)).trans (HLAB.out.block j hj)
        have hs : Fr [w.heap.size] W3 ((W3.setCell ⟨w.heap.size, 0, none⟩ (.pointer (some Z.adr))).setCell ⟨w.heap.size, 1, none⟩ (.int .i64 (Z.exs.length : Int))) := (Fr.set _ _ _ (by simp)).trans (Fr.set (S := [w.heap.size]) _ _ _ (by simp)) (fun x h => Or.inl h)
        have hfall : Fr [mb] w ((W3.setCell ⟨w.heap.size, 0, none⟩ (.pointer (some Z.adr))).setCell ⟨w.heap.size, 1, none⟩ (.int .i64 (Z.exs.length : Int))) :=
          ((HQ.out.fr.trans (Fr.of_below (S := [mb]) HLAB.out) (fun x h => Or.inl h)).trans hf (fun x h => by simp at h; rcases h with rfl | rfl; exact Or.inl (by simp); exact Or.inr (by omega))).trans hs (fun x h => by simp at h; right; omega)
        have hlt3 : wr.heap.size ≤ W3.heap.size := Nat.le_trans HLAB.out.size hf.size
        have hrl := HQ.out.rb.lt
        refine ⟨hfall, ?_, HQ.out.q.on ((hs.block _ (by omega) (by simp; omega)).trans (hb3 _ (by omega) hk1)), (HAB.out.on (hb3 _ (by omega) (by omega))).set _ _, HQ.out.rb.on ((hs.block _ (by omega) (by simp)).trans (hb3 _ hrl (by omega))), hm.on (hs.block _ (by omega) (by simp; omega)), he, hF, fun k h => hk k (HQ.out.keys k h), HQ.out.conn.trans hc, hml, hkl⟩
        have hmw := HMB.out
        have h1 : Below wo.heap.size Wb W3 := hf.below (fun x h => by simp at h; rcases h with rfl | rfl; exact hmw; exact HQ.out.low.size) (Nat.le_trans HQ.out.low.size HLAB.out.size)
        have h2 : wo.heap.size ≤ w.heap.size := by omega
        exact ((HLOA.out.trans (HLB.out.mono HLOA.out.size)).trans h1).trans (hs.below (fun x h => by simp at h; omega) (by omega)))
      have HEV := Lib.hid (show ∃ m, gk = m + 1 ∧ Ends M2 V.key m r by
        have h := HE.out
        cases h with
        | stop h => exact absurd rfl (h _ HV2.out)
        | next h t =>
          obtain rfl := one_of HQ.out.map.nodup h HV2.out
          exact ⟨_, rfl, t⟩)
      have hlb := HLB.out.size
      cases has2
      · have HST2 := Lib.hid (HROUND.out V VA VL M2 Wb HVAL.out.1 HVAL.out.2 HV3.out (Fr.refl _ _) (HMA.out.on (HLB.out.block _ HMA.out.is.lt)) HQ.out.ent HQ.out.forest (fun k h => h))
        go_wp2_with fail
        obtain ⟨m, hm1, hm2⟩ := HEV.out
        go_roundg m
        case measure => omega
        case rel => exact ⟨V, M2, r, Lib.hid hm2, HST2⟩
      · obtain ⟨U, hU1, hU2, hU3⟩ : ∃ U : Pl wo G, (.agg #[.pointer po2, .int .i64 pl2] : Value) = U.key ∧ (V.key, U.key) ∈ M2 ∧ Conn E V U := by
          rcases HHIT2.out with ⟨h, -⟩ | ⟨-, -, h⟩
          · obtain ⟨q, e, c⟩ := HQ.out.ent.one h
            exact ⟨q, e, by rw [← e]; exact h, c⟩
          · cases h
        obtain ⟨UA, hUA⟩ : ∃ z, z = U.adr := ⟨_, rfl⟩
        obtain ⟨UL, hUL⟩ : ∃ z, z = U.exs.length := ⟨_, rfl⟩
        have hkU : U.key = .agg #[.pointer (some UA), .int .i64 (UL : Int)] := by rw [hUA, hUL]; rfl
        obtain ⟨rfl, rfl⟩ : po2 = some UA ∧ pl2 = (UL : Int) := by
          rw [hkU] at hU1
          simp only [Value.agg.injEq, Array.mk.injEq, List.cons.injEq, Value.pointer.injEq, Value.int.injEq, and_true, true_and] at hU1
          exact hU1
        have hfX : ∀ p : Pl wo G, FreeB Wb.drew p.adr.block := Pl.free HFR.out (HLOA.out.trans (HLB.out.mono HLOA.out.size)).drew
        obtain ⟨st, hme, hst⟩ := MapSt.entry (w := Wb.drew) (HMA.out.on (HLB.out.block _ HMA.out.is.lt)) (placeT Wb.drew) Try.underlying95 (key := Q.key) (v0 := V.key) ⟨Q.adr, _, rfl, hfX Q⟩ (HQ.out.ent.keys hfX) HV2.out
        obtain ⟨W3, M3, hes, hm3, hp3, hg3⟩ := hst U.key
        rw [HKQ.out] at hme
        rw [HKV.out] at hme
        rw [hkU] at hes
        have HM3 := Lib.hid hm3
        have HP3 := Lib.hid hp3
        have HU2 := Lib.hid hU2
        have HU3 := Lib.hid hU3
        have HUAL := Lib.hid (And.intro hUA hUL)
        have HF3 := Lib.hid (show Fr [mb] Wb W3 from (Fr.refl _ Wb).drew.trans (Fr.grown hg3 (fun k h => by cases h; simp)) (fun x h => Or.inl h))
        have hmlt := HMA.out.is.lt
        have hml0 := HQ.out.ml
        have hkl0 := HQ.out.kl
        have hk1 : kq ≠ mb := fun e => by
          have h1 := HQ.out.q
          obtain ⟨es, clock, h2, -⟩ := HQ.out.map.is
          unfold EqBox at h1
          rw [e, h2] at h1
          cases h1
        have hwne := HNE.out
        have hla := HLA.out.size
        have hq3 := (HQ.out.q.on (HLAB.out.block _ HQ.out.q.lt)).cells.2.1
        obtain ⟨u0, u1, uf⟩ := HFB.out.cells
        have HB1 := Lib.hid (show Wb.drew.cell? ⟨kq, 1, none⟩ = some (.map (some mb)) ∧ Wb.drew.cell? ⟨w.heap.size, 0, none⟩ = some (.pointer (some QA)) ∧ Wb.drew.cell? ⟨w.heap.size, 1, none⟩ = some (.int .i64 (QL : Int)) ∧ Wb.drew.cell? ⟨Wa.heap.size, 0, none⟩ = some (.pointer (some UA)) ∧ Wb.drew.cell? ⟨Wa.heap.size, 1, none⟩ = some (.int .i64 (UL : Int)) from ⟨hq3, a0, a1, u0, u1⟩)
        have k3 : ∀ j o, j < Wb.heap.size → j ≠ mb → W3.cell? ⟨j, o, none⟩ = Wb.cell? ⟨j, o, none⟩ := fun j o h1 h2 => World.cell?_of_block (w := Wb) (HF3.out.block j h1 (by simpa using h2))
        have hfbl := HFB.out.lt
        have HB2 := Lib.hid (show W3.cell? ⟨kq, 1, none⟩ = some (.map (some mb)) ∧ W3.cell? ⟨w.heap.size, 0, none⟩ = some (.pointer (some QA)) ∧ W3.cell? ⟨w.heap.size, 1, none⟩ = some (.int .i64 (QL : Int)) ∧ W3.cell? ⟨Wa.heap.size, 0, none⟩ = some (.pointer (some UA)) ∧ W3.cell? ⟨Wa.heap.size, 1, none⟩ = some (.int .i64 (UL : Int)) from
          ⟨(k3 _ _ (by omega) hk1).trans hq3, (k3 _ _ hablt (by omega)).trans a0, (k3 _ _ hablt (by omega)).trans a1, (k3 _ _ hfbl (by omega)).trans u0, (k3 _ _ hfbl (by omega)).trans u1⟩)
        have HB3 := Lib.hid (show ∀ Y, Y = (W3.setCell ⟨wr.heap.size, 0, none⟩ (.pointer (some UA))).setCell ⟨wr.heap.size, 1, none⟩ (.int .i64 (UL : Int)) → Y.cell? ⟨kq, 1, none⟩ = some (.map (some mb)) ∧ Y.cell? ⟨w.heap.size, 0, none⟩ = some (.pointer (some QA)) ∧ Y.cell? ⟨w.heap.size, 1, none⟩ = some (.int .i64 (QL : Int)) ∧ Y.cell? ⟨Wa.heap.size, 0, none⟩ = some (.pointer (some UA)) ∧ Y.cell? ⟨Wa.heap.size, 1, none⟩ = some (.int .i64 (UL : Int)) from fun Y hY => by
          have k4 : ∀ j o, j ≠ wr.heap.size → Y.cell? ⟨j, o, none⟩ = W3.cell? ⟨j, o, none⟩ := fun j o h => World.cell?_of_block (w := W3) (by rw [hY, Below.heap_setCell _ _ _ _ h, Below.heap_setCell _ _ _ _ h])
          obtain ⟨e1, e2, e3, e4, e5⟩ := HB2.out
          have hsz := HSZ.out
          exact ⟨(k4 _ _ (by omega)).trans e1, (k4 _ _ (by omega)).trans e2, (k4 _ _ (by omega)).trans e3, (k4 _ _ (by omega)).trans e4, (k4 _ _ (by omega)).trans e5⟩)
        have hnb4 : PlBox W3 wr.heap.size (.pointer (some VA)) (.int .i64 (VL : Int)) := HNB3.out.on (HF3.out.block _ hnblt (by simp; omega))
        have HNB4 := Lib.hid hnb4
        obtain ⟨m0, m1, mf⟩ := hnb4.cells
        have hn4lt := hnb4.lt
        clear hm3 hp3 hU1 hU2 hU3 hUA hUL hg3 hst hfX hq3 u0 u1 uf k3 hfbl hmlt hml0 hkl0 hk1 hwne hla hnb4 a0 a1 n0' n1' hkU
        go_wp2_with fail
        refine cut_reg (fun a W => a = { tmps := #[.pointer (some ⟨kq, 0, none⟩), .agg #[.pointer (some PA), .int .i64 (PL : Int)], undef, .pointer (some ⟨w.heap.size, 0, none⟩), .pointer (some ⟨w.heap.size + 1, 0, none⟩), .pointer (some ⟨wr.heap.size, 0, none⟩), .bool true, .pointer (some ⟨Wa.heap.size, 0, none⟩), .bool true, .tuple #[.agg #[.pointer (some VA), .int .i64 (VL : Int)], .bool true], .pointer (some ⟨kq, 0, none⟩), .pointer (some ⟨kq, 0, none⟩), .pointer (some ⟨kq, 1, none⟩), .map (some mb), .agg #[.pointer (some QA), .int .i64 (QL : Int)], .tuple #[.agg #[.pointer (some VA), .int .i64 (VL : Int)], .bool true], .agg #[.pointer (some VA), .int .i64 (VL : Int)], .bool true, .bool true, .bool false, u20, .tuple #[.agg #[.pointer (some UA), .int .i64 (UL : Int)], .bool true], .pointer (some ⟨kq, 0, none⟩), .pointer (some ⟨kq, 0, none⟩), .pointer (some ⟨kq, 1, none⟩), .map (some mb), .agg #[.pointer (some VA), .int .i64 (VL : Int)], .tuple #[.agg #[.pointer (some UA), .int .i64 (UL : Int)], .bool true], .agg #[.pointer (some UA), .int .i64 (UL : Int)], .bool true, .bool true, .pointer (some ⟨kq, 0, none⟩), .pointer (some ⟨kq, 0, none⟩), .pointer (some ⟨kq, 1, none⟩), .map (some mb), .agg #[.pointer (some QA), .int .i64 (QL : Int)], .agg #[.pointer (some UA), .int .i64 (UL : Int)], .agg #[.pointer (some UA), .int .i64 (UL : Int)], .tuple #[.agg #[.pointer (some VA), .int .i64 (VL : Int)], .int .i64 (st : Int)], .int .i64 (st : Int), u40], defers := [] } ∧ W = (W3.setCell ⟨wr.heap.size, 0, none⟩ (.pointer (some UA))).setCell ⟨wr.heap.size, 1, none⟩ (.int .i64 (UL : Int))) ?_ ?_
        · go_region_held3 (fun X => X.cell? ⟨kq, 1, none⟩ = some (.map (some mb)) ∧ X.cell? ⟨w.heap.size, 0, none⟩ = some (.pointer (some QA)) ∧ X.cell? ⟨w.heap.size, 1, none⟩ = some (.int .i64 (QL : Int)) ∧ X.cell? ⟨Wa.heap.size, 0, none⟩ = some (.pointer (some UA)) ∧ X.cell? ⟨Wa.heap.size, 1, none⟩ = some (.int .i64 (UL : Int)))
            (first
            | exact HB1.out
            | exact HB2.out
            | exact HB3.out _ rfl)
            (fail)
          all_goals exact ⟨rfl, rfl⟩
        rintro _ _ ⟨rfl, rfl⟩
        have hnb5 := HNB4.out.set (.pointer (some UA)) (.int .i64 (UL : Int))
        have hab5 : PlBox ((W3.setCell ⟨wr.heap.size, 0, none⟩ (.pointer (some UA))).setCell ⟨wr.heap.size, 1, none⟩ (.int .i64 (UL : Int))) w.heap.size (.pointer (some QA)) (.int .i64 (QL : Int)) := by
          have hne := HNE.out
          refine HAB3.out.on (Eq.trans ?_ (HF3.out.block _ HAB3.out.lt (by have := HQ.out.ml; simp; omega)))
          rw [Below.heap_setCell _ _ _ _ (by simp; omega), Below.heap_setCell _ _ _ _ (by simp; omega)]
        have HST3 := Lib.hid (show En w E P kq mb N M U M3 _ from HROUND.out U UA UL M3 ((W3.setCell ⟨wr.heap.size, 0, none⟩ (.pointer (some UA))).setCell ⟨wr.heap.size, 1, none⟩ (.int .i64 (UL : Int))) HUAL.out.1 HUAL.out.2 (HV3.out.trans HU3.out)
          ((HF3.out.mono (T := [mb, wr.heap.size]) (fun x h => Or.inl (by simp at h; simp [h]))).trans ((Fr.set _ _ _ (by simp)).trans (Fr.set (S := [wr.heap.size]) _ _ _ (by simp)) (fun x h => Or.inl h)) (fun x h => Or.inl (by simp at h; simp [h])))
          (HM3.out.on (by have := HQ.out.ml; have := HNE.out; rw [Below.heap_setCell _ _ _ _ (by simp; omega), Below.heap_setCell _ _ _ _ (by simp; omega)]))
          (HQ.out.ent.put HQ.out.map.nodup (HV3.out.trans HU3.out) HP3.out) (forest_halve HQ.out.map.nodup HV2.out HU2.out HP3.out HQ.out.forest)
          (fun k h x hx e => by
            obtain ⟨x1, x2⟩ := x
            rcases (put_mem HQ.out.map.nodup HP3.out x1 x2).1 hx with ⟨e1, -⟩ | ⟨-, e1⟩
            · exact h _ HV2.out (e1.symm.trans e)
            · exact h _ e1 e))
        obtain ⟨m, hm1, hm2⟩ := HEV.out
        obtain ⟨m2, hm3, hm4⟩ : ∃ m2, m2 < gk ∧ Ends M3 U.key m2 r := by
          cases hm2 with
          | stop h => exact absurd rfl (h _ HU2.out)
          | @next _ _ _ n h t =>
            obtain rfl := one_of HQ.out.map.nodup h HU2.out
            obtain ⟨n2, h1, h2⟩ := ends_halve HQ.out.map.nodup HV2.out HU2.out HP3.out _ _ _ t
            exact ⟨n2, by omega, h2⟩
        have HM4 := Lib.hid hm4
        have HM5 := Lib.hid hm3
        clear hm1 hm2 hm3 hm4
        generalize hWc : (W3.setCell ⟨wr.heap.size, 0, none⟩ (.pointer (some UA))).setCell ⟨wr.heap.size, 1, none⟩ (.int .i64 (UL : Int)) = Wc at *
        obtain ⟨m0, m1, mf⟩ := hnb5.cells
        obtain ⟨a0, a1, af⟩ := hab5.cells
        have hnb5lt := hnb5.lt
        have hab5lt := hab5.lt
        clear hWc hnb5 hab5
        go_wp2_with fail
        go_roundg m2
        case measure => exact HM5.out
        case rel => exact ⟨U, M3, r, HM4, HST3⟩
end Go.Proofs.Ytmndlhbgacgnlaa
