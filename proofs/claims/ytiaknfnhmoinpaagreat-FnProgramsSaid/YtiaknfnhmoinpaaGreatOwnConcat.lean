/- A part of the proof of the seat's statement: OwnConcat. Condition: as each says. -/
import Derived.Test.YtiaknfnhmoinpaaGreatRKids
import Derived.Test.YtiaknfnhmoinpaaGreatKids
import Derived.Test.YtiaknfnhmoinpaaGreatParts
import Derived.Test.YtiaknfnhmoinpaaGreatAppStrs
import Derived.Test.YtiaknfnhmoinpaaGreatRuSz
import Derived.Lib.AppendZerosOnto
set_option maxHeartbeats 8000000
namespace Go.Proofs.YtiaknfnhmoinpaaGreat
open Go Go.RowKit
theorem SCells.zip {W : World} : ∀ {l : List Ru} {vs : List Value} {bs : List Nat} (k : Nat) (r : Ru), SCells W l vs bs → l[k]? = some r →
 ∃ vs1 v1 v2 u vs2 c1 b1 c2, vs = vs1 ++ ([.string r.name, .string r.con, v1, v2, .int .i64 r.body.kind, .string r.body.name, u] ++ vs2) ∧ vs1.length = k * 7 ∧ bs = c1 ++ (b1 ++ c2) ∧ RuS W (.agg #[.string r.name, .string r.con, v1, v2, .int .i64 r.body.kind, .string r.body.name, u]) r b1 ∧
  ∀ (W2 : World) (r2 : Ru) (y1 y2 y : Value) (b2 : List Nat), Keeps W W2 (c1 ++ c2) → RuIs W2 (.agg #[.string r2.name, .string r2.con, y1, y2, .int .i64 r2.body.kind, .string r2.body.name, y]) r2 b2 →
   RCells W2 (l.set k r2) (vs1 ++ ([.string r2.name, .string r2.con, y1, y2, .int .i64 r2.body.kind, .string r2.body.name, y] ++ vs2)) (c1 ++ (b2 ++ c2)) := by
 have rc : ∀ {W : World} {l : List Ru} {vs : List Value} {bs : List Nat}, SCells W l vs bs → RCells W l vs bs := by
  intro W l
  induction l with
  | nil => intro vs bs h; exact h
  | cons e t ih =>
   intro vs bs h
   obtain ⟨v1, v2, u, b1, vs2, b2, e1, e2, h1, h2⟩ := h
   exact ⟨v1, v2, u, b1, vs2, b2, e1, e2, h1.ru, ih h2⟩
 intro l
 induction l with
 | nil => intro vs bs k r _ hk; simp at hk
 | cons e t ih =>
  intro vs bs k r h hk
  obtain ⟨v1, v2, u, b1, vs2, b2, rfl, rfl, h1, h2⟩ := h
  cases k with
  | zero =>
   simp at hk
   subst hk
   exact ⟨[], v1, v2, u, vs2, [], b1, b2, rfl, rfl, rfl, h1, fun W2 r2 y1 y2 y b3 hkp hr => ⟨y1, y2, y, b3, vs2, b2, rfl, rfl, hr, rc (h2.keeps ⟨hkp.1, fun x hx => hkp.2 x (by simpa using hx)⟩)⟩⟩
  | succ k =>
   obtain ⟨vs1, z1, z2, z, vs3, c1, b3, c2, rfl, e2, rfl, hr, hre⟩ := ih k r h2 (by simpa using hk)
   refine ⟨[.string e.name, .string e.con, v1, v2, .int .i64 e.body.kind, .string e.body.name, u] ++ vs1, z1, z2, z, vs3, b1 ++ c1, b3, c2, by rw [List.append_assoc], by simp [e2]; omega, by rw [List.append_assoc], hr, fun W2 r2 y1 y2 y b4 hkp hr2 => ?_⟩
   exact ⟨v1, v2, u, b1, _, _, by rw [List.append_assoc], by rw [List.append_assoc], (h1.keeps ⟨hkp.1, fun x hx => hkp.2 x (by simp [hx])⟩).ru, hre W2 r2 y1 y2 y b4 ⟨hkp.1, fun x hx => hkp.2 x (by simp at hx ⊢; rcases hx with hx | hx <;> simp [hx])⟩ hr2⟩
def Fb (base : Nat) (W : World) (bs : List Nat) : Prop := ∀ x ∈ bs, base ≤ x ∧ x < W.heap.size ∧ ∀ o, W.frozen? ⟨x, o, none⟩ = false
theorem Fb.keeps {base : Nat} {W W2 : World} {bs : List Nat} (h : Fb base W bs) (hk : Keeps W W2 bs) : Fb base W2 bs := fun x hx => by
 obtain ⟨h1, h2, h3⟩ := h x hx
 exact ⟨h1, nL h2 hk.1, fun o => (World.frozen?_of_block (w := W) (a := ⟨x, o, none⟩) (hk.2 x hx h2)).trans (h3 o)⟩
theorem Fb.app {base : Nat} {W : World} {a b : List Nat} (ha : Fb base W a) (hb : Fb base W b) : Fb base W (a ++ b) := fun x hx => by
 rcases List.mem_append.1 hx with hx | hx
 · exact ha x hx
 exact hb x hx
theorem Mine.fb {W : World} {base : Nat} {bs : List Nat} (h : Mine W base bs) : Fb base W bs := fun x hx => ⟨(h.range x hx).1, (h.range x hx).2, h.free x hx⟩
def Dr (base : Nat) (W : World) (v : Value) (l : List Ru) (bs : List Nat) : Prop := RsIs W v l bs ∧ Fb base W bs
theorem SKids.on {base : Nat} {W W2 : World} {v : Value} {l : List Ru} {bs : List Nat} (h : SKids base W v l bs) (hk : Keeps W W2 bs) (hr : ∀ g, v.ownBlock = some g → W2.heap[g]? = W.heap[g]?) : SKids base W2 v l bs := by
 obtain ⟨⟨vs, hr2, hc⟩, hm, ha⟩ := h
 exact ⟨⟨vs, row_on hr2 hr, hc.keeps hk⟩, hm.keeps hk, ha⟩
theorem SKids.dr {base : Nat} {W : World} {v : Value} {l : List Ru} {bs : List Nat} (h : SKids base W v l bs) : ∃ bs2, Dr base W v l bs2 := by
 obtain ⟨bs2, h1, h2⟩ := h.is
 exact ⟨bs2, h1, h2.fb⟩
theorem SKids.edit {base : Nat} {W : World} {v : Value} {l : List Ru} {bs : List Nat} {k : Nat} {r : Ru} (h : SKids base W v l bs) (hk : l[k]? = some r) :
 ∃ g cap vs1 v1 v2 u vs2 c1 b1 c2, v = .slice (some ⟨g, 0, none⟩) l.length cap ∧ l.length ≤ cap ∧ bs = c1 ++ (b1 ++ c2) ∧ vs1.length = k * 7 ∧ base ≤ g ∧ g < W.heap.size ∧ g ∉ bs ∧
  W.ownsRow base 34 7 v l.length (vs1 ++ ([.string r.name, .string r.con, v1, v2, .int .i64 r.body.kind, .string r.body.name, u] ++ vs2)) ∧ RuS W (.agg #[.string r.name, .string r.con, v1, v2, .int .i64 r.body.kind, .string r.body.name, u]) r b1 ∧
  ∀ (W2 : World) (r2 : Ru) (y1 y2 y : Value) (b2 : List Nat), Keeps W W2 (c1 ++ c2) → W2.ownsRow base 34 7 v l.length (vs1 ++ ([.string r2.name, .string r2.con, y1, y2, .int .i64 r2.body.kind, .string r2.body.name, y] ++ vs2)) →
   RuIs W2 (.agg #[.string r2.name, .string r2.con, y1, y2, .int .i64 r2.body.kind, .string r2.body.name, y]) r2 b2 → Fb base W2 b2 → ∃ bs2, Dr base W2 v (l.set k r2) bs2 := by
 obtain ⟨⟨vs, hr, hc⟩, hm, ha⟩ := h
 obtain ⟨vs1, v1, v2, u, vs2, c1, b1, c2, rfl, e2, rfl, hru, hre⟩ := hc.zip k r hk
 have hlt := hr.lt
 rcases hr.2 with ⟨rfl, h0⟩ | ⟨g, cap, cur, rfl, hb, hg, h1, h2, -⟩
 · obtain rfl : l = [] := List.eq_nil_of_length_eq_zero h0
   simp at hk
 refine ⟨g, cap, vs1, v1, v2, u, vs2, c1, b1, c2, rfl, h1, rfl, e2, hb, (hlt g rfl).2, ha g rfl, hr, hru, fun W2 r2 y1 y2 y b2 hkp ho hr2 hf => ?_⟩
 have hcells := hre W2 r2 y1 y2 y b2 hkp hr2
 have hg2 := (ho.lt g rfl).2
 refine ⟨g :: (c1 ++ (b2 ++ c2)), ⟨_, _, by rw [List.length_set], by rw [List.length_set]; exact h1, by unfold maxLen at h2; omega, Or.inr ⟨g, 0, _, rfl, hg2, rfl, hcells.rus 0 (fun j x hj => ?_)⟩⟩, fun x hx => ?_⟩
 · have h3 := ho.cells (g := g) rfl j x hj
   rw [show (⟨g, 0, none⟩ : Addr).add j = ⟨g, 0 + 0 * 7 + j, none⟩ by unfold Addr.add; split <;> simp_all] at h3
   exact h3
 rcases List.mem_cons.1 hx with rfl | hx
 · exact ⟨hb, hg2, fun o => ho.frozenAt o⟩
 have hmf : Fb base W2 (c1 ++ c2) := Fb.keeps (fun y hy => hm.fb y (by simp at hy ⊢; rcases hy with hy | hy <;> simp [hy])) hkp
 simp at hx
 rcases hx with hx | hx | hx
 · exact hmf x (by simp [hx])
 · exact hf x hx
 exact hmf x (by simp [hx])
theorem row_from {w : World} {B : Nat} {e : TypeId} {size : Nat} {v : Value} {n : Nat} {xs : List Value} (h : w.ownsRow 0 e size v n xs) (hb : ∀ g, v.ownBlock = some g → B ≤ g) : w.ownsRow B e size v n xs := by
 refine ⟨h.1, ?_⟩
 rcases h.2 with h2 | ⟨g, cap, cur, rfl, -, h4⟩
 · exact Or.inl h2
 exact Or.inr ⟨g, cap, cur, rfl, hb g rfl, h4⟩
theorem RuS.parts {w : World} {r : Ru} {v1 v2 u : Value} {b : List Nat} (h : RuS w (.agg #[.string r.name, .string r.con, v1, v2, .int .i64 r.body.kind, .string r.body.name, u]) r b) :
 ∃ b1 b2 b3, b = b1 ++ (b2 ++ b3) ∧ r.name.size ≤ 9223372036854775807 ∧ r.con.size ≤ 9223372036854775807 ∧ SsIs w v1 r.vars b1 ∧ PsIs w v2 r.params b2 ∧ ExIs w (.agg #[.int .i64 r.body.kind, .string r.body.name, u]) r.body b3 := by
 obtain ⟨x1, x2, x3, b1, b2, b3, e, h1, h2, h3, h4, h5, h6⟩ := h
 simp only [Value.agg.injEq, Array.mk.injEq, List.cons.injEq, and_true, true_and] at e
 obtain ⟨rfl, rfl, rfl⟩ := e
 exact ⟨b1, b2, b3, h3, h1, h2, h4, h5, h6⟩
theorem set_in {vs1 xs vs2 : List Value} {m j : Nat} {u : Value} (h : vs1.length = m) (hj : j < xs.length) : (vs1 ++ (xs ++ vs2)).set (m + j) u = vs1 ++ (xs.set j u ++ vs2) := by
 subst h
 rw [List.set_append_right _ _ (by omega), show vs1.length + j - vs1.length = j by omega, List.set_append_left _ _ hj]
theorem SKids.change {base : Nat} {W : World} {v : Value} {l : List Ru} {bs : List Nat} {k : Nat} {r : Ru} (h : SKids base W v l bs) (hk : l[k]? = some r) :
 ∃ g cap v1 v2 u, v = .slice (some ⟨g, 0, none⟩) l.length cap ∧ l.length ≤ cap ∧ base ≤ g ∧ g < W.heap.size ∧ (∀ o, W.frozen? ⟨g, o, none⟩ = false) ∧ Cells7 W g (k * 7) (.string r.name) (.string r.con) v1 v2 (.int .i64 r.body.kind) (.string r.body.name) u ∧ OwnsL base W v2 r.params ∧ (∀ x, v2.ownBlock = some x → x ∈ bs ∧ x ≠ g) ∧
  (∀ s : ByteArray, s.size ≤ 9223372036854775807 → ∃ bs2, Dr base (W.setCell ⟨g, k * 7, none⟩ (.string s)) v (l.set k { r with name := s }) bs2) ∧
  (∀ s : ByteArray, s.size ≤ 9223372036854775807 → ∃ bs2, Dr base (W.setCell ⟨g, k * 7 + 1, none⟩ (.string s)) v (l.set k { r with con := s }) bs2) ∧
  (∀ (W2 : World) (y : Value) (ys : List ByteArray), OwnsL base W2 y (r.params ++ ys) → W.grownBy W2 v2.ownBlock → (∀ x ∈ ys, x.size ≤ 9223372036854775807) → ∃ bs2, Dr base (W2.setCell ⟨g, k * 7 + 3, none⟩ y) v (l.set k { r with params := r.params ++ ys }) bs2) ∧
  (∀ (e2 : Ex) (u2 : Value) (be : List Nat), ExIs W (.agg #[.int .i64 e2.kind, .string e2.name, u2]) e2 be → Fb base W be → g ∉ be →
   ∃ bs2, Dr base (((W.setCell ⟨g, k * 7 + 4, none⟩ (.int .i64 e2.kind)).setCell ⟨g, k * 7 + 5, none⟩ (.string e2.name)).setCell ⟨g, k * 7 + 6, none⟩ u2) v (l.set k { r with body := e2 }) bs2) := by
 obtain ⟨g, cap, vs1, v1, v2, u, vs2, c1, b1, c2, rfl, hlc, rfl, e2, hbg, hgl, hgn, hrow, hru, hre⟩ := h.edit hk
 have hkl := (List.getElem?_eq_some_iff.1 hk).1
 have hcell : ∀ j x, j < 7 → ([.string r.name, .string r.con, v1, v2, .int .i64 r.body.kind, .string r.body.name, u] : List Value)[j]? = some x → W.cell? ⟨g, k * 7 + j, none⟩ = some x := fun j x hj hx => by
  rw [hrow.cellAt (k * 7 + j) (by omega), List.getElem?_append_right (by omega), e2, show k * 7 + j - k * 7 = j by omega, List.getElem?_append_left (by simpa using hj)]
  exact hx
 have hin : ∀ x, x ∈ c1 ++ c2 → x ∈ c1 ++ (b1 ++ c2) := fun x hx => by
  simp at hx ⊢
  rcases hx with hx | hx <;> simp [hx]
 have hin1 : ∀ x, x ∈ b1 → x ∈ c1 ++ (b1 ++ c2) := fun x hx => by simp [hx]
 have hset : ∀ (X : World) (m : Nat) (y : Value) (ds : List Nat), (∀ x ∈ ds, x ∈ c1 ++ (b1 ++ c2)) → Keeps X (X.setCell ⟨g, m, none⟩ y) ds := fun X m y ds hd => keeps_set (fun x hx e => hgn (by have h9 := hd x hx; rw [show x = g from e] at h9; exact h9))
 have hfb : ∀ ds : List Nat, (∀ x ∈ ds, x ∈ c1 ++ (b1 ++ c2)) → Fb base W ds := fun ds hd x hx => h.mine.fb x (hd x hx)
 obtain ⟨d1, d2, d3, hd, hz1, hz2, hs1, hs2, hs3⟩ := hru.parts
 have hi1 : ∀ x, x ∈ d1 → x ∈ c1 ++ (b1 ++ c2) := fun x hx => hin1 x (by rw [hd]; simp [hx])
 have hi2 : ∀ x, x ∈ d2 → x ∈ c1 ++ (b1 ++ c2) := fun x hx => hin1 x (by rw [hd]; simp [hx])
 have hi3 : ∀ x, x ∈ d3 → x ∈ c1 ++ (b1 ++ c2) := fun x hx => hin1 x (by rw [hd]; simp [hx])
 have hnd := h.mine.nodup
 have hd2 : ∀ x, v2.ownBlock = some x → x ∈ d2 := fun x hx => by rw [hs2.1, hx]; simp
 have hout : ∀ x, v2.ownBlock = some x → x ∉ c1 ++ c2 ∧ x ∉ d1 ∧ x ∉ d3 := fun x hx => by
  have h8 := hd2 x hx
  rw [hd] at hnd
  simp only [List.nodup_append, List.mem_append] at hnd
  obtain ⟨n1, ⟨⟨m1, ⟨m2, m3, m4⟩, m5⟩, n3, n4⟩, n5⟩ := hnd
  refine ⟨fun hx2 => ?_, fun hx2 => ?_, fun hx2 => ?_⟩
  · rcases List.mem_append.1 hx2 with hx2 | hx2
    · exact n5 x hx2 x (Or.inl (Or.inr (Or.inl h8))) rfl
    exact n4 x (Or.inr (Or.inl h8)) x hx2 rfl
  · exact m5 x hx2 x (Or.inl h8) rfl
  exact m4 x h8 x hx2 rfl
 have hob : OwnsL base W v2 r.params := row_from hs2.2.1 (fun x hx => ((hfb d2 hi2) x (hd2 x hx)).1)
 refine ⟨g, cap, v1, v2, u, rfl, hlc, hbg, hgl, fun o => hrow.frozenAt o, ⟨hcell 0 _ (by omega) rfl, hcell 1 _ (by omega) rfl, hcell 2 _ (by omega) rfl, hcell 3 _ (by omega) rfl, hcell 4 _ (by omega) rfl, hcell 5 _ (by omega) rfl, hcell 6 _ (by omega) rfl⟩, hob, fun x hx => ⟨hi2 x (hd2 x hx), fun e => hgn (by rw [← e]; exact hi2 x (hd2 x hx))⟩, fun s hs => ?_, fun s hs => ?_, fun W2 y ys hy hgr hys => ?_, fun x u2 be hx hfx hgx => ?_⟩
 · have h1 := (hrow.stored (k * 7 + 0) (.string s)).1
   rw [set_in e2 (by simp)] at h1
   refine hre _ { r with name := s } v1 v2 u b1 (hset _ _ _ _ hin) h1 ?_ ((hfb b1 hin1).keeps (hset _ _ _ _ hin1))
   exact ⟨v1, v2, u, d1, d2, d3, rfl, hs, hz2, hd, hs1.keeps (hset _ _ _ _ hi1), hs2.ss.keeps (hset _ _ _ _ hi2), hs3.keeps (hset _ _ _ _ hi3)⟩
 · have h1 := (hrow.stored (k * 7 + 1) (.string s)).1
   rw [set_in e2 (by simp)] at h1
   refine hre _ { r with con := s } v1 v2 u b1 (hset _ _ _ _ hin) h1 ?_ ((hfb b1 hin1).keeps (hset _ _ _ _ hin1))
   exact ⟨v1, v2, u, d1, d2, d3, rfl, hz1, hs, hd, hs1.keeps (hset _ _ _ _ hi1), hs2.ss.keeps (hset _ _ _ _ hi2), hs3.keeps (hset _ _ _ _ hi3)⟩
 · have hkg : ∀ ds : List Nat, (∀ x ∈ ds, x ∈ c1 ++ (b1 ++ c2)) → (∀ x, v2.ownBlock = some x → x ∉ ds) → Keeps W W2 ds := fun ds hd0 hn0 => ⟨hgr.size, fun x hx hlt => hgr.block x hlt (fun e => hn0 x e.symm hx)⟩
   have hrow2 := hrow.kept hgr (by
    rcases ho : v2.ownBlock with _ | x
    · exact Or.inr (by simp [Value.ownBlock])
    exact Or.inr (by
     simp [Value.ownBlock]
     rintro rfl
     exact hgn (hi2 _ (hd2 _ ho))))
   have h1 := (hrow2.stored (k * 7 + 3) y).1
   rw [set_in e2 (by simp)] at h1
   have hyp : PsIs W2 y (r.params ++ ys) y.ownBlock.toList := ⟨rfl, row_zero hy, fun x hx => by
    rcases List.mem_append.1 hx with hx | hx
    · exact hs2.2.2 x hx
    exact hys x hx⟩
   have hyg : ∀ x ∈ y.ownBlock.toList, x ≠ g := fun x hx e => by
    subst e
    rcases hy.2 with ⟨rfl, -⟩ | ⟨g2, cap2, cur2, rfl, -, h5, -⟩
    · simp [Value.ownBlock] at hx
    simp [Value.ownBlock] at hx
    subst hx
    rcases hrow2.2 with ⟨h6, -⟩ | ⟨g3, cap3, cur3, h6, -, h7, -⟩
    · cases h6
    simp only [Value.slice.injEq, Option.some.injEq, Addr.mk.injEq, and_true, true_and] at h6
    obtain ⟨rfl, -⟩ := h6
    rw [h5] at h7
    simp at h7
   have hyk : Keeps W2 (W2.setCell ⟨g, k * 7 + 3, none⟩ y) y.ownBlock.toList := keeps_set (fun x hx => hyg x hx)
   refine hre _ { r with params := r.params ++ ys } v1 y u (d1 ++ (y.ownBlock.toList ++ d3)) (keeps_on (hkg _ hin (fun x hx => (hout x hx).1)) (hset _ _ _ _ hin)) h1 ?_ ?_
   · exact ⟨v1, y, u, d1, _, d3, rfl, hz1, hz2, rfl, (hs1.keeps (hkg _ hi1 (fun x hx => (hout x hx).2.1))).keeps (hset _ _ _ _ hi1), (hyp.keeps hyk).ss, (hs3.keeps (hkg _ hi3 (fun x hx => (hout x hx).2.2))).keeps (hset _ _ _ _ hi3)⟩
   refine Fb.app (((hfb d1 hi1).keeps (hkg _ hi1 (fun x hx => (hout x hx).2.1))).keeps (hset _ _ _ _ hi1)) (Fb.app (Fb.keeps (fun x hx => ?_) hyk) (((hfb d3 hi3).keeps (hkg _ hi3 (fun x hx => (hout x hx).2.2))).keeps (hset _ _ _ _ hi3)))
   have hl := hy.lt
   rcases hy.2 with ⟨rfl, -⟩ | ⟨g2, cap2, cur2, rfl, -, -⟩
   · simp [Value.ownBlock] at hx
   simp [Value.ownBlock] at hx
   subst hx
   exact ⟨(hl _ rfl).1, (hl _ rfl).2, fun o => World.ownsRow.frozenAt hy o⟩
 have h1 := (((hrow.stored (k * 7 + 4) (.int .i64 x.kind)).1.stored (k * 7 + 5) (.string x.name)).1.stored (k * 7 + 6) u2).1
 rw [set_in e2 (by simp), set_in e2 (by simp), set_in e2 (by simp)] at h1
 have hall : ∀ ds : List Nat, (∀ z ∈ ds, z ≠ g) → Keeps W (((W.setCell ⟨g, k * 7 + 4, none⟩ (.int .i64 x.kind)).setCell ⟨g, k * 7 + 5, none⟩ (.string x.name)).setCell ⟨g, k * 7 + 6, none⟩ u2) ds := fun ds hd0 => keeps_on (keeps_on (keeps_set (fun z hz => hd0 z hz)) (keeps_set (fun z hz => hd0 z hz))) (keeps_set (fun z hz => hd0 z hz))
 have hne : ∀ ds : List Nat, (∀ z ∈ ds, z ∈ c1 ++ (b1 ++ c2)) → ∀ z ∈ ds, z ≠ g := fun ds hd0 z hz e => hgn (by have h9 := hd0 z hz; rw [e] at h9; exact h9)
 have hbe : ∀ z ∈ be, z ≠ g := fun z hz e => hgx (by rw [← e]; exact hz)
 refine hre _ { r with body := x } v1 v2 u2 (d1 ++ (d2 ++ be)) (hall _ (hne _ hin)) h1 ?_ ?_
 · exact ⟨v1, v2, u2, d1, d2, be, rfl, hz1, hz2, rfl, hs1.keeps (hall _ (hne _ hi1)), hs2.ss.keeps (hall _ (hne _ hi2)), hx.keeps (hall _ hbe)⟩
 exact Fb.app ((hfb d1 hi1).keeps (hall _ (hne _ hi1))) (Fb.app ((hfb d2 hi2).keeps (hall _ (hne _ hi2))) (hfx.keeps (hall _ hbe)))
theorem sizeP (s : ByteArray) : s.data.toList.length = s.size := Array.length_toList
def SplInv (s : ByteArray) (b : UInt8) (k f : Nat) (done : List ByteArray) : Prop :=
 (k ≤ s.size → parts b [] s.data.toList = done.map (·.data.toList) ++ parts b ((s.data.toList.drop f).take (k - f)) (s.data.toList.drop k)) ∧
 (k = s.size + 1 → parts b [] s.data.toList = done.map (·.data.toList))
theorem spl_start (s : ByteArray) (b : UInt8) : SplInv s b 0 0 [] := ⟨fun _ => by simp, fun h => by omega⟩
theorem drop_byteP (s : ByteArray) (k : Nat) (h : k < s.size) : s.data.toList.drop k = s[k] :: s.data.toList.drop (k + 1) := by
 rw [List.drop_eq_getElem_cons (by rw [sizeP]; exact h)]; rfl
theorem spl_hit {s : ByteArray} {b : UInt8} {k f : Nat} {done : List ByteArray} (h : SplInv s b k f done) (hk : k < s.size) (hb : s[k] = b) : SplInv s b (k + 1) (k + 1) (done ++ [s.extract f k]) := by
 refine ⟨fun _ => ?_, fun e => by omega⟩
 rw [h.1 (by omega), drop_byteP s k hk, hb, parts_hit, List.map_append, List.append_assoc]
 simp
theorem spl_miss {s : ByteArray} {b : UInt8} {k f : Nat} {done : List ByteArray} (h : SplInv s b k f done) (hk : k < s.size) (hf : f ≤ k) (hb : s[k] ≠ b) : SplInv s b (k + 1) f done := by
 refine ⟨fun _ => ?_, fun e => by omega⟩
 rw [h.1 (by omega), drop_byteP s k hk, parts_other b _ _ _ hb]
 congr 2
 rw [show k + 1 - f = (k - f) + 1 by omega, List.take_succ_eq_append_getElem (by rw [List.length_drop, sizeP]; omega)]
 congr 2
 rw [List.getElem_drop]
 have e : f + (k - f) = k := by omega
 have : ∀ (m : Nat) (hm : m < s.data.toList.length), m = k → s.data.toList[m] = s[k] := fun m hm e => by subst e; rfl
 exact (this _ _ e).symm
theorem spl_end {s : ByteArray} {b : UInt8} {k f : Nat} {done : List ByteArray} (h : SplInv s b k f done) (hk : k = s.size) : SplInv s b (k + 1) (k + 1) (done ++ [s.extract f k]) := by
 refine ⟨fun e => by omega, fun _ => ?_⟩
 have e : s.data.toList.drop k = [] := List.drop_eq_nil_of_le (by rw [sizeP]; omega)
 rw [h.1 (by omega), e, parts_nil, List.map_append]
 simp
theorem spl_done {s : ByteArray} {b : UInt8} {k f : Nat} {done : List ByteArray} (h : SplInv s b k f done) (hk : k = s.size + 1) : done = pieces s b := pieces_eq s b done (h.2 hk).symm
theorem byte_ofP (x : UInt8) (c : Int) (h : ((x.toNat : Int) == c) = true) : x = UInt8.ofNat c.toNat := by
 have e : (x.toNat : Int) = c := by simpa using h
 rw [← e, Int.toNat_natCast, UInt8.ofNat_toNat]
theorem byte_notP (x : UInt8) (c : Int) (h0 : 0 ≤ c) (h1 : c ≤ 255) (h : ((x.toNat : Int) == c) = false) : x ≠ UInt8.ofNat c.toNat := by
 intro e
 have h2 : x.toNat = c.toNat := by rw [e, UInt8.toNat_ofNat']; omega
 have h3 : (x.toNat : Int) = c := by omega
 simp [h3] at h
def SplitPost (s : ByteArray) (b : UInt8) (w : World) (e : Ending) (w' : World) : Prop := ∃ v, e = .returned v ∧ OwnsL w.heap.size w' v (pieces s b) ∧ Below w.heap.size w w'
theorem split_next {w0 w1 : World} {v : Value} {done : List ByteArray} {x : ByteArray} (h : w1.ownsRow w0.heap.size 9 1 v (done.length + 1) (done.map Value.string ++ [Value.string x])) : w1.ownsRow w0.heap.size 9 1 v (done ++ [x]).length ((done ++ [x]).map Value.string) := by
 rw [lA, List.map_append]; exact h
theorem app_belowP {w wr w1 : World} {v : Value} {n : Nat} {l : List Value} (hb : Below w.heap.size w wr) (ho : wr.ownsRow w.heap.size 9 1 v n l) (hg : wr.grownBy w1 v.ownBlock) : Below w.heap.size w w1 :=
 hb.grown hg hb.size (fun k hk => (ho.lt k hk).1)
theorem spec_split (s : ByteArray) (c : Int) (hc0 : 0 ≤ c) (hc1 : c ≤ 255) (hs : s.size ≤ 1048576) (w : World) :
 Calls Tryz.prog 88 #[.string s, .int .u8 c] w (SplitPost s (UInt8.ofNat c.toNat) w) := by
 obtain ⟨i0, hi, hz0, hz1, hz2⟩ := info_parts Tryz.info9u
 have HI := zH (aI hi (aI hz0 (aI hz1 hz2)))
 clear hi hz0 hz1 hz2
 go_enter Tryz.func88, Tryz.ntmps88
 go_wp2
 have H0 := zH (show (w.alloc (.cells #[] 9)).ownsRow w.heap.size 9 1 (.slice (some ⟨w.heap.size, 0, none⟩) 0 0) 0 [] from World.ownsRow_made w #[] 0 (nR _) (Nat.zero_le _) rfl)
 have HB0 := zH ((wB w.heap.size w).alloc (nR _) (.cells #[] 9))
 have HV0 := zH (spl_start s (UInt8.ofNat c.toNat))
 have HS := zH hs
 have hs2 : (s.size : Int) ≤ 1048576 := by omega
 go_loopw [5, 6, 7] (fun v fr i wr => ∃ (k f : Nat) (done : List ByteArray), k ≤ s.size + 1 ∧ f ≤ k ∧ i = .int .i64 (k : Int) ∧ fr = .int .i64 (f : Int) ∧ Hid (SplInv s (UInt8.ofNat c.toNat) k f done) ∧ done.length ≤ k ∧ Hid (wr.ownsRow w.heap.size 9 1 v done.length (done.map Value.string)) ∧ Hid (Below w.heap.size w wr)) (fun _ _ i _ => s.size + 1 - (intOf i).toNat)
 case atStart => exact ⟨0, 0, [], Nat.zero_le _, nR _, rfl, rfl, HV0, Nat.zero_le _, H0, HB0⟩
 case round =>
  obtain ⟨k, f, done, hk, hf, rfl, rfl, HV, hd, HO, HB⟩ := hrel
  have C1 := zH (show done.length + 1 ≤ maxLen by unfold maxLen; omega)
  have C2 := zH (show (done.length + 1) * 16 ≤ 140737488355328 by omega)
  have C3 := zH HB.out.size
  have C4 := zH (show w.heap.size ≤ (wr.alloc (.cells #[.string (s.extract f k)] 9)).heap.size by have := HB.out.size; simp; omega)
  have HO2 := zH (HO.out.alloc (.cells #[.string (s.extract f k)] 9))
  have HB2 := zH (HB.out.alloc HB.out.size (.cells #[.string (s.extract f k)] 9))
  have HNW := zH (show ∀ j u, [Value.string (s.extract f k)][j]? = some u → (wr.alloc (.cells #[.string (s.extract f k)] 9)).cell? ((⟨wr.heap.size, 0, none⟩ : Addr).add j) = some u from fun j u hu => by
   have hj : j = 0 := by
    rcases j with _ | j
    · rfl
    simp at hu
   subst hj
   simp at hu
   rw [← hu]; simp [go_sem])
  have H1C := zH (show ∀ u ∈ [Value.string (s.extract f k)], u.oneCell' = true from fun u hu => by rw [List.mem_singleton] at hu; rw [hu]; rfl)
  have hfk : (f : Int) ≤ (k : Int) := by omega
  have HDL := zH (show ∀ x : ByteArray, (done ++ [x]).length ≤ k + 1 from fun x => by rw [lA]; simp; omega)
  have HDM := zH (show done.length ≤ k + 1 by omega)
  by_cases hlt : k < s.size
  · have hlt2 : (k : Int) < (s.size : Int) := by omega
    by_cases hb : ((s[k].toNat : Int) == c) = true
    · have HV1 := zH (spl_hit HV.out hlt (byte_ofP s[k] c hb))
      clear hd
      go_wp2_with (at_builtin; (refine wpList_append_own _ rfl (.tmp 26) (.tmp 31) 29 rfl w.heap.size 9 i0 (.string ⟨#[]⟩) 1 16 Tryz.underlying29 HI.out.1 HI.out.2.1 HI.out.2.2.1 HI.out.2.2.2 rfl (by decide) u5 _ _ rfl HO2.out ⟨wr.heap.size, 0, none⟩ 1 1 [.string (s.extract f k)] rfl rfl HNW.out H1C.out C1.out C2.out C4.out ?_); intro v1 w1 ho1 hg1 _; have HO3 := zH (split_next ho1); have HB3 := zH (app_belowP HB2.out HO2.out hg1); clear ho1 hg1)
      go_roundw
      case rel => exact ⟨k + 1, k + 1, _, by omega, nR _, by go_num, by go_num, HV1, HDL.out _, HO3, HB3⟩
      case measure => simp [intOf]; omega
    have hb' : ((s[k].toNat : Int) == c) = false := by simpa using hb
    have HV1 := zH (spl_miss HV.out hlt hf (byte_notP s[k] c hc0 hc1 hb'))
    have HB' := zH hb
    clear hd hb
    go_wp2
    go_roundw
    case rel => exact ⟨k + 1, f, done, by omega, by omega, by go_num, rfl, HV1, HDM.out, HO, HB⟩
    case measure => simp [intOf]; omega
  by_cases hke : k = s.size
  · subst hke
    have HV1 := zH (spl_end HV.out rfl)
    clear hd
    go_wp2_with (at_builtin; (refine wpList_append_own _ rfl (.tmp 26) (.tmp 31) 29 rfl w.heap.size 9 i0 (.string ⟨#[]⟩) 1 16 Tryz.underlying29 HI.out.1 HI.out.2.1 HI.out.2.2.1 HI.out.2.2.2 rfl (by decide) u5 _ _ rfl HO2.out ⟨wr.heap.size, 0, none⟩ 1 1 [.string (s.extract f s.size)] rfl rfl HNW.out H1C.out C1.out C2.out C4.out ?_); intro v1 w1 ho1 hg1 _; have HO3 := zH (split_next ho1); have HB3 := zH (app_belowP HB2.out HO2.out hg1); clear ho1 hg1)
    go_roundw
    case rel => exact ⟨s.size + 1, s.size + 1, _, by omega, nR _, by go_num, by go_num, HV1, HDL.out _, HO3, HB3⟩
    case measure => simp [intOf]
  have hlt2 : (s.size : Int) < (k : Int) := by omega
  have HE := zH (spl_done HV.out (by omega))
  go_wp2
  go_ret
  exact ⟨u5, rfl, by unfold OwnsL; rw [← HE.out]; exact HO.out, HB.out⟩
theorem wpList_append_run {P : Program} {w w' : World} {ops : Array Oper} {rest : List Oper} {o : Oper} {a : Act} {Q : Exit → Act → World → Prop} (hgd : o.guard = none) (s x : Operand) (ts : Array TypeId)
 (ho : o.op = .call { callee := .builtin .append, args := #[s, x], argTypes := ts }) {v x' v' : Value} (hs : a.eval s = v) (hx : a.eval x = x') (hr : (Builtin.append_ ts o.type #[v, x']).run P w = .ok v' w')
 (h : wpList P ops Q rest (a.put o.dst v') w') : wpList P ops Q (o :: rest) a w := by
 refine wpList_plain hgd fun K hK => ?_
 unfold Oper.wp execOp
 simp only [ho, resolve, invoke, builtin, Sem.run_bind, Sem.run_pure, Result.andThen_ok, List.map_toArray, List.map_cons, List.map_nil, hs, hx, hr]
 exact hK _ _ h
def StrsPost (xs : List ByteArray) (w : World) (e : Ending) (w' : World) : Prop := ∃ v, e = .returned v ∧ OwnsL w.heap.size w' v xs ∧ Below w.heap.size w w'
theorem grow_row (w : World) (n cp : Nat) (h1 : n ≤ cp) (h2 : cp ≤ maxLen) : OwnsL w.heap.size (w.drew.alloc (.cells (Builtin.zeroCells #[.string ⟨#[]⟩] n ++ Builtin.zeroCells #[.string ⟨#[]⟩] (cp - n)) 9)) (.slice (some ⟨w.heap.size, 0, none⟩) 0 cp) [] := by
 refine ⟨rfl, Or.inr ⟨w.heap.size, cp, _, rfl, nR _, heap_alloc_new w.drew _, Nat.zero_le _, h2, ?_, by simp⟩⟩
 simp [Builtin.zeroCells]; omega
theorem lib_grow (n : Nat) (w : World) (hn : n ≤ 1099511627776) : Calls Tryz.prog 105 #[.slice none 0 0, .int .i64 (n : Int)] w (StrsPost [] w) := by
 have hni : (n : Int) ≤ 1099511627776 := by omega
 by_cases h0 : n = 0
 · subst h0
   show Calls Tryz.prog 105 #[.slice none 0 0, .int .i64 0] w (StrsPost [] w)
   go_enter Tryz.func105, Tryz.ntmps105
   go_wp2_with fail
   go_ret
   exact ⟨_, rfl, World.ownsRow_nil _ _ _ _, wB _ _⟩
 have hp : 0 < n := by omega
 have hpi : (0 : Int) < (n : Int) := by omega
 have hx := Tryz.info9u
 cases hi : Tryz.prog.info? 9 with
 | none => rw [hi] at hx; cases hx
 | some i =>
 rw [hi] at hx
 simp only [Option.map_some, Option.some.injEq, Prod.mk.injEq] at hx
 obtain ⟨hz, hsz, hby⟩ := hx
 have HR := zH (fun (ty : TypeId) => Lib.run_append_nil_zeros (P := Tryz.prog) w 29 3 ty 9 i (.string ⟨#[]⟩) .i64 .i64 Tryz.underlying29 Tryz.underlying3 hi hz n hp (by omega) (by omega) (by rw [hby]; omega))
 have hc1 := grownCap_ge w n 0 9
 have hc2 := grownCap_le_maxLen w n 0 9 (by unfold maxLen; omega)
 have HROW := zH (grow_row w n _ hc1 hc2)
 have HB := zH (show Below w.heap.size w (w.drew.alloc (.cells (Builtin.zeroCells #[.string ⟨#[]⟩] n ++ Builtin.zeroCells #[.string ⟨#[]⟩] (grownCap w n 0 9 - n)) 9)) from (wB _ _).drew.alloc (nR _) _)
 generalize grownCap w n 0 9 = cp at *
 have hcp : (cp : Int) ≤ 9223372036854775807 := by unfold maxLen at hc2; omega
 clear hc1 hc2 hz hsz hby hi h0
 go_enter Tryz.func105, Tryz.ntmps105
 go_wp2_with (at_builtin; (refine wpList_append_run rfl (.tmp 20) (.tmp 21) #[29, 3] rfl rfl rfl (HR.out _) ?_))
 go_ret
 exact ⟨_, rfl, HROW.out, HB.out⟩
theorem lib_concat (g : Nat) (A1 A2 : Option Addr) (xs ys : List ByteArray) (c1 c2 : Nat) (w : World) (h0 : w.cell? ⟨g, 0, none⟩ = some (.slice A1 xs.length c1)) (h1 : w.cell? ⟨g, 1, none⟩ = some (.slice A2 ys.length c2))
 (hs1 : Strs w A1 xs) (hs2 : Strs w A2 ys) (hx : xs.length ≤ 1048576) (hy : ys.length ≤ 1048576) : Calls Tryz.prog 93 #[.slice (some ⟨g, 0, none⟩) 2 2] w (StrsPost (xs ++ ys) w) := by
 have hg := World.block_lt_of_cell? w _ h0
 have HG := zH (lib_grow (xs.length + ys.length) w (by omega))
 have HC := zH (fun (W : World) (hW : Below w.heap.size w W) => show W.cell? ⟨g, 0, none⟩ = some (.slice A1 xs.length c1) ∧ W.cell? ⟨g, 1, none⟩ = some (.slice A2 ys.length c2) from ⟨(hW.cell (p := ⟨g, 0, none⟩) hg).trans h0, (hW.cell (p := ⟨g, 1, none⟩) hg).trans h1⟩)
 have HS1 := zH (fun (W : World) (hW : Below w.heap.size w W) => hs1.below hW)
 have HS2 := zH (fun (W : World) (hW : Below w.heap.size w W) => hs2.below hW)
 have HX := zH hx
 have HY := zH hy
 obtain ⟨n, hn⟩ : ∃ n, n = xs.length := ⟨_, rfl⟩
 obtain ⟨m, hm⟩ : ∃ m, m = ys.length := ⟨_, rfl⟩
 have hni : (n : Int) ≤ 1048576 := by omega
 have hmi : (m : Int) ≤ 1048576 := by omega
 have HN := zH hn
 have HM := zH hm
 rw [← hn, ← hm] at HG HC
 rw [← hn] at h0
 rw [← hm] at h1
 have HGC := zH (show Calls Tryz.prog 105 #[.slice none 0 0, .int .i64 ((n : Int) + (m : Int))] w (StrsPost [] w) by have h := HG.out; rw [Int.natCast_add] at h; exact h)
 have hn0 : (0 : Int) ≤ (n : Int) := by omega
 have hm0 : (0 : Int) ≤ (n : Int) + (m : Int) := by omega
 have hnl : ¬ (n : Int) < 0 := by omega
 have hml : ¬ (n : Int) + (m : Int) < 0 := by omega
 clear hs1 hs2 hx hy hn hm HG hg
 go_enter Tryz.func93, Tryz.ntmps93
 go_wp2_with fail
 refine wp_loop_rounds 3 ?_
 rw [rounds_succ]
 go_wp2_with fail
 rw [rounds_succ]
 go_wp2_with fail
 rw [rounds_succ]
 go_wp2_with fail
 go_at_call 105
 refine HGC.out.mono ?_
 rintro e w1 ⟨v, rfl, ho, hb⟩
 have HO := zH ho
 have HB := zH hb
 clear ho hb
 obtain ⟨d0, d1⟩ := HC.out w1 HB.out
 go_wp2_with fail
 refine wp_loop_rounds 3 ?_
 rw [rounds_succ]
 go_wp2_with (at_builtin; (refine wpList_append_strs rfl (.tmp 31) (.tmp 32) rfl w.heap.size v [] rfl HO.out A1 xs c1 (by rw [← HN.out]; rfl) (HS1.out w1 HB.out) (by have := HX.out; simp; omega) HB.out.size ?_); intro v7 w7 ho7 hg7; have HO7 := zH ho7; have HB7 := zH (OwnsL.grown HB.out HO.out hg7); clear ho7 hg7; obtain ⟨z0, z1⟩ := HC.out w7 HB7.out)
 rw [rounds_succ]
 go_wp2_with (at_builtin; (refine wpList_append_strs rfl (.tmp 31) (.tmp 32) rfl w.heap.size v7 ([] ++ xs) rfl HO7.out A2 ys c2 (by rw [← HM.out]; rfl) (HS2.out w7 HB7.out) (by have := HX.out; have := HY.out; simp; omega) HB7.out.size ?_); intro v8 w8 ho8 hg8; have HO8 := zH ho8; have HB8 := zH (OwnsL.grown HB7.out HO7.out hg8); clear ho8 hg8)
 rw [rounds_succ]
 go_wp2_with fail
 go_ret
 exact ⟨_, rfl, HO8.out, HB8.out⟩
end Go.Proofs.YtiaknfnhmoinpaaGreat
