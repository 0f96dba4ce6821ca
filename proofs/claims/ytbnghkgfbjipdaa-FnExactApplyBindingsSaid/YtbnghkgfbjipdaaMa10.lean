/- The contract of l1Pick. Condition: the code is at most 1048576 bytes long. The contract of l1Once. Condition: the code is at most 1048576 bytes long. The contracts of the model's draws of expressions. Condition: the code is at most 1048576 bytes long. -/
import Derived.Test.YtbnghkgfbjipdaaMa09
import Derived.Test.YtbnghkgfbjipdaaMa03
import Derived.Deep.RegionHeld3
import Derived.Deep.RegionWith
import Derived.IntWalk
namespace Go.Proofs.Ytbnghkgfbjipdaa
open Go Go.RowKit

def PickPost (ss : List ByteArray) (g : Nat) (A : Option Addr) (n cap : Nat) (w : World) (e : Ending) (w' : World) : Prop :=
  ∃ x, x ∈ ss ∧ e = .returned (.string x) ∧ Cur w' g A n cap ∧ Only g w w'
set_option maxHeartbeats 1000000 in
theorem pick_any (B g b : Nat) (A : Option Addr) (zs : List Int) (cap c2 : Nat) (ss : List ByteArray) (w : World) (hs : Bytes w B A zs) (hg : B ≤ g) (hc : Cur w g A zs.length cap) (hn : zs.length ≤ 1048576) (hr : Row w b 9 (ss.map Value.string)) (hne : b ≠ g) (h0 : 1 ≤ ss.length) (h1 : ss.length ≤ 256) :
    Calls Try.prog 68 #[.pointer (some ⟨g, 0, none⟩), .slice (some ⟨b, 0, none⟩) ss.length c2] w (PickPost ss g A zs.length cap w) := by
  have HA := Lib.hid (below_small B g A zs cap (ss.length : Int) w hs hg hc hn (by omega) (by omega))
  have HC := Lib.hid (fun (W : World) (ho : Only g w W) (j : Nat) (hj : j < ss.length) => (hr.only ho hne).cell j (.string ss[j]) (by rw [List.getElem?_map, List.getElem?_eq_getElem hj]; rfl))
  have hl : ss.length ≤ 9223372036854775807 := by omega
  clear hs hg hc hn hr hne
  go_enter Try.func68, Try.ntmps68
  go_wp2_with fail
  go_at_call 82
  refine HA.out.mono ?_
  rintro e w1 ⟨x, rfl, x0, x1, hc1, ho1⟩
  obtain ⟨j, rfl⟩ : ∃ j : Nat, x = (j : Int) := ⟨x.toNat, by omega⟩
  have hj : j < ss.length := by omega
  have hcell := HC.out w1 ho1 j hj
  go_wp2
  go_ret
  exact ⟨ss[j], List.getElem_mem hj, rfl, hc1, ho1⟩

end Go.Proofs.Ytbnghkgfbjipdaa

namespace Go.Proofs.Ytbnghkgfbjipdaa
open Go Go.RowKit

def OncePost (g : Nat) (A : Option Addr) (n cap : Nat) (w : World) (e : Ending) (w' : World) : Prop :=
  ∃ x : Bool, e = .returned (.bool x) ∧ Cur w' g A n cap ∧ Only g w w'
set_option maxHeartbeats 1000000 in
theorem once_any (B g : Nat) (A : Option Addr) (zs : List Int) (cap : Nat) (lim : Int) (w : World) (hs : Bytes w B A zs) (hg : B ≤ g) (hc : Cur w g A zs.length cap) (hn : zs.length ≤ 1048576) (h0 : 1 ≤ lim) (h1 : lim ≤ 256) :
    Calls Try.prog 53 #[.pointer (some ⟨g, 0, none⟩), .int .i64 lim] w (OncePost g A zs.length cap w) := by
  have HA := Lib.hid (below_small B g A zs cap lim w hs hg hc hn h0 h1)
  clear hs hg hc hn h0 h1
  go_enter Try.func53, Try.ntmps53
  go_wp2_with (go_at_call 82; refine HA.out.mono ?_; rintro e w1 ⟨x, rfl, x0, x1, hc1, ho1⟩)
  go_ret
  exact ⟨x == 0, by simp, hc1, ho1⟩

end Go.Proofs.Ytbnghkgfbjipdaa

namespace Go.Proofs.Ytbnghkgfbjipdaa
open Go Go.RowKit

theorem Only.setNew {g k : Nat} {a w : World} (h : Only g a w) (hk : a.heap.size ≤ k) (m : Nat) (u : Value) : Only g a (w.setCell ⟨k, m, none⟩ u) :=
  ⟨h.os, h.tape, h.output, Nat.le_trans h.size (by simp [World.setCell]), fun i hi hne => (Below.heap_setCell w ⟨k, m, none⟩ u i (by simp; omega)).trans (h.block i hi hne)⟩
theorem ocell {g : Nat} {W w1 : World} (ho : Only g W w1) : (∀ b o, b < W.heap.size → b ≠ g → w1.cell? ⟨b, o, none⟩ = W.cell? ⟨b, o, none⟩) ∧ (∀ b o, b < W.heap.size → b ≠ g → w1.frozen? ⟨b, o, none⟩ = W.frozen? ⟨b, o, none⟩) :=
  ⟨fun b o h hne => World.cell?_of_block (w := W) (a := ⟨b, o, none⟩) (ho.block b h (fun e => hne (Option.some.inj e))), fun b o h hne => World.frozen?_of_block (w := W) (a := ⟨b, o, none⟩) (ho.block b h (fun e => hne (Option.some.inj e)))⟩
theorem keeps_only {g : Nat} {W w1 : World} (ho : Only g W w1) {bs : List Nat} (hn : g ∉ bs) : Keeps W w1 bs :=
  ⟨ho.size, fun x hx hlt => ho.block x hlt (fun e => hn (by rw [Option.some.inj e] at hx; exact hx))⟩
/-- A box of an expression's three cells. -/
def Box (w : World) (b : Nat) (v0 v1 v2 : Value) : Prop := Row w b 26 [v0, v1, v2]
theorem Box.facts {w : World} {b : Nat} {v0 v1 v2 : Value} (h : Box w b v0 v1 v2) :
    w.cell? ⟨b, 0, none⟩ = some v0 ∧ w.cell? ⟨b, 1, none⟩ = some v1 ∧ w.cell? ⟨b, 2, none⟩ = some v2 ∧ (∀ o, w.frozen? ⟨b, o, none⟩ = false) :=
  ⟨Row.cell h 0 _ rfl, Row.cell h 1 _ rfl, Row.cell h 2 _ rfl, fun o => by unfold Box Row at h; simp [World.frozen?, h]⟩
theorem Row.alloc {w : World} {b : Nat} {t : TypeId} {cs : List Value} (h : Row w b t cs) (o : Obj) : Row (w.alloc o) b t cs := (Below.heap_alloc w o b h.lt).trans h

/-- All blocks below an expression are there. -/
theorem ex_blk (n : Nat) : (∀ (e : Ex), exSize e ≤ n → ∀ (w : World) (g o : Nat) (bs : List Nat), ExAt w g o e bs → ∀ x ∈ bs, x < w.heap.size) ∧
    (∀ (l : List Ex), exSizes l ≤ n → ∀ (w : World) (g o : Nat) (j : Nat) (bs : List Nat), ExsAt w g o j l bs → ∀ x ∈ bs, x < w.heap.size) := by
  induction n with
  | zero =>
    refine ⟨fun e h => by have := exSize_pos e; omega, fun l h => ?_⟩
    cases l with
    | nil => intro w g o j bs h1 x hx; rw [ExsAt] at h1; subst h1; cases hx
    | cons e r => rw [exSizes] at h; have := exSize_pos e; omega
  | succ n ih =>
    have hE : ∀ (e : Ex), exSize e ≤ n + 1 → ∀ (w : World) (g o : Nat) (bs : List Nat), ExAt w g o e bs → ∀ x ∈ bs, x < w.heap.size := by
      intro e he w g o bs h x hx
      cases e with
      | mk k s l =>
        rw [exSize] at he
        rw [ExAt] at h
        obtain ⟨_, _, _, A, c, _, _, _, h7⟩ := h
        rcases h7 with ⟨-, rfl⟩ | ⟨g', o', bs', rfl, hbl, rfl, h8⟩
        · cases hx
        · rcases List.mem_cons.1 hx with rfl | hx
          · exact hbl
          · exact ih.2 l (by omega) w g' o' 0 bs' h8 x hx
    refine ⟨hE, ?_⟩
    intro l
    induction l with
    | nil => intro _ w g o j bs h x hx; rw [ExsAt] at h; subst h; cases hx
    | cons e r ihl =>
      intro hl w g o j bs h x hx
      rw [exSizes] at hl
      have hp := exSize_pos e
      rw [ExsAt] at h
      obtain ⟨b1, b2, rfl, h1, h2⟩ := h
      rcases List.mem_append.1 hx with hx | hx
      · exact hE e (by omega) w g _ b1 h1 x hx
      · exact ihl (by omega) w g o (j + 1) b2 h2 x hx
theorem ExIs.lt {w : World} {v : Value} {e : Ex} {bs : List Nat} (h : ExIs w v e bs) : ∀ x ∈ bs, x < w.heap.size := by
  obtain ⟨u, rfl, -, A, c, rfl, -, -, h7⟩ := h
  intro x hx
  rcases h7 with ⟨-, rfl⟩ | ⟨g', o', bs', rfl, hbl, rfl, h8⟩
  · cases hx
  · rcases List.mem_cons.1 hx with rfl | hx
    · exact hbl
    · exact (ex_blk _).2 e.args (Nat.le_refl _) w g' o' 0 bs' h8 x hx
/-- An expression in memory that no string shares. -/
def ExF (w : World) (v : Value) (e : Ex) (bs : List Nat) : Prop := ExIs w v e bs ∧ ∀ x ∈ bs, ∀ o, w.frozen? ⟨x, o, none⟩ = false
theorem ExF.lt {w : World} {v : Value} {e : Ex} {bs : List Nat} (h : ExF w v e bs) : ∀ x ∈ bs, x < w.heap.size := h.1.lt
theorem ExF.keeps {w w' : World} {v : Value} {e : Ex} {bs : List Nat} (h : ExF w v e bs) (hk : Keeps w w' bs) : ExF w' v e bs :=
  ⟨h.1.keeps hk, fun x hx o => (World.frozen?_of_block (w := w) (a := ⟨x, o, none⟩) (hk.2 x hx (h.1.lt x hx))).trans (h.2 x hx o)⟩
theorem ExF.below {w w' : World} {v : Value} {e : Ex} {bs : List Nat} (h : ExF w v e bs) (hb : Below w.heap.size w w') : ExF w' v e bs := h.keeps (keeps_below hb bs)
theorem ExF.only {g : Nat} {W w1 : World} {v : Value} {e : Ex} {bs : List Nat} (h : ExF W v e bs) (ho : Only g W w1) (hn : g ∉ bs) : ExF w1 v e bs := h.keeps (keeps_only ho hn)
theorem Row.thaw {w : World} {b : Nat} {t : TypeId} {cs : List Value} (h : Row w b t cs) (o : Nat) : w.frozen? ⟨b, o, none⟩ = false := by
  unfold Row at h
  simp [World.frozen?, h]
/-- An expression whose slice is as long as its row. -/
def ExTight (w : World) (v : Value) (e : Ex) (bs : List Nat) : Prop := ∃ A, v = .agg #[.int .i64 e.kind, .string e.name, .slice A e.args.length e.args.length] ∧ ExF w v e bs
theorem ExIs.only {g : Nat} {W w1 : World} {v : Value} {e : Ex} {bs : List Nat} (h : ExIs W v e bs) (ho : Only g W w1) (hn : g ∉ bs) : ExIs w1 v e bs := h.keeps (keeps_only ho hn)
theorem leaf_is (w : World) (k : Int) (s : ByteArray) (hs : s.size ≤ 9223372036854775807) : ExIs w (.agg #[.int .i64 k, .string s, .slice none 0 0]) (.mk k s []) [] :=
  ⟨_, rfl, hs, none, 0, rfl, Nat.le_refl _, by decide, Or.inl ⟨rfl, rfl⟩⟩
theorem one_is {w : World} {b : Nat} {k : Int} {s : ByteArray} (hs : s.size ≤ 9223372036854775807) {e1 : Ex} {u1 : Value} {b1 : List Nat} (hr : Row w b 26 [.int .i64 e1.kind, .string e1.name, u1]) (h1 : ExIs w (.agg #[.int .i64 e1.kind, .string e1.name, u1]) e1 b1) :
    ExIs w (.agg #[.int .i64 k, .string s, .slice (some ⟨b, 0, none⟩) 1 1]) (.mk k s [e1]) (b :: b1) := by
  refine ⟨_, rfl, hs, some ⟨b, 0, none⟩, 1, rfl, Nat.le_refl _, by decide, Or.inr ⟨b, 0, b1, rfl, hr.lt, rfl, ?_⟩⟩
  rw [Ex.args, ExsAt]
  exact ⟨b1, [], by simp, ExAt.mk (hr.cell 0 _ rfl) (hr.cell 1 _ rfl) (hr.cell 2 _ rfl) h1, by rw [ExsAt]⟩
theorem two_is {w : World} {b : Nat} {k : Int} {s : ByteArray} (hs : s.size ≤ 9223372036854775807) {e1 e2 : Ex} {u1 u2 : Value} {b1 b2 : List Nat}
    (hr : Row w b 26 [.int .i64 e1.kind, .string e1.name, u1, .int .i64 e2.kind, .string e2.name, u2]) (h1 : ExIs w (.agg #[.int .i64 e1.kind, .string e1.name, u1]) e1 b1) (h2 : ExIs w (.agg #[.int .i64 e2.kind, .string e2.name, u2]) e2 b2) :
    ExIs w (.agg #[.int .i64 k, .string s, .slice (some ⟨b, 0, none⟩) 2 2]) (.mk k s [e1, e2]) (b :: (b1 ++ b2)) := by
  refine ⟨_, rfl, hs, some ⟨b, 0, none⟩, 2, rfl, Nat.le_refl _, by decide, Or.inr ⟨b, 0, b1 ++ b2, rfl, hr.lt, rfl, ?_⟩⟩
  rw [Ex.args, ExsAt]
  refine ⟨b1, b2, rfl, ExAt.mk (hr.cell 0 _ rfl) (hr.cell 1 _ rfl) (hr.cell 2 _ rfl) h1, ?_⟩
  rw [ExsAt]
  exact ⟨b2, [], by simp, ExAt.mk (hr.cell 3 _ rfl) (hr.cell 4 _ rfl) (hr.cell 5 _ rfl) h2, by rw [ExsAt]⟩

theorem leafF (w : World) (k : Int) (s : ByteArray) (hs : s.size ≤ 9223372036854775807) : ExF w (.agg #[.int .i64 k, .string s, .slice none 0 0]) (.mk k s []) [] := ⟨leaf_is w k s hs, fun x hx => by cases hx⟩
theorem oneF {w : World} {b : Nat} {k : Int} {s : ByteArray} (hs : s.size ≤ 9223372036854775807) {e1 : Ex} {u1 : Value} {b1 : List Nat} (hr : Row w b 26 [.int .i64 e1.kind, .string e1.name, u1]) (h1 : ExF w (.agg #[.int .i64 e1.kind, .string e1.name, u1]) e1 b1) :
    ExF w (.agg #[.int .i64 k, .string s, .slice (some ⟨b, 0, none⟩) 1 1]) (.mk k s [e1]) (b :: b1) :=
  ⟨one_is hs hr h1.1, fun x hx o => by
    rcases List.mem_cons.1 hx with rfl | hx
    · exact hr.thaw o
    · exact h1.2 x hx o⟩
theorem twoF {w : World} {b : Nat} {k : Int} {s : ByteArray} (hs : s.size ≤ 9223372036854775807) {e1 e2 : Ex} {u1 u2 : Value} {b1 b2 : List Nat}
    (hr : Row w b 26 [.int .i64 e1.kind, .string e1.name, u1, .int .i64 e2.kind, .string e2.name, u2]) (h1 : ExF w (.agg #[.int .i64 e1.kind, .string e1.name, u1]) e1 b1) (h2 : ExF w (.agg #[.int .i64 e2.kind, .string e2.name, u2]) e2 b2) :
    ExF w (.agg #[.int .i64 k, .string s, .slice (some ⟨b, 0, none⟩) 2 2]) (.mk k s [e1, e2]) (b :: (b1 ++ b2)) :=
  ⟨two_is hs hr h1.1 h2.1, fun x hx o => by
    rcases List.mem_cons.1 hx with rfl | hx
    · exact hr.thaw o
    · rcases List.mem_append.1 hx with hx | hx
      · exact h1.2 x hx o
      · exact h2.2 x hx o⟩
/-- A bound of letters and nodes, and one of nodes. -/
def TotB (e : Ex) (T : Nat) : Prop := exTot e + 5 ≤ T ∧ 4 * exSize e + 4 ≤ T
/-- What a draw gives. -/
def DrawPost (T g : Nat) (A : Option Addr) (n cap : Nat) (w : World) (r : Ending) (w' : World) : Prop :=
  ∃ v e bs, r = .returned v ∧ ExTight w' v e bs ∧ (∀ x ∈ bs, w.heap.size ≤ x) ∧ TotB e T ∧ Cur w' g A n cap ∧ Only g w w'

/-- The draw under way, with its result's box. -/
structure St (w : World) (B g : Nat) (A : Option Addr) (zs : List Int) (cap : Nat) (W : World) : Prop where
  only : Only g w W
  cur : Cur W g A zs.length cap
  bytes : Bytes W B A zs
  box : ∃ v0 v1 v2, Box W w.heap.size v0 v1 v2
theorem St.start {w : World} {B g : Nat} {A : Option Addr} {zs : List Int} {cap : Nat} (hs : Bytes w B A zs) (hg : B ≤ g) (hc : Cur w g A zs.length cap) :
    St w B g A zs cap (w.alloc (.cells #[.int .i64 0, .string ⟨#[]⟩, .slice none 0 0] 26)) :=
  ⟨(Only.refl g w).alloc _, hc.alloc _, hs.alloc (Nat.le_trans hg (Nat.le_of_lt hc.lt)) _, _, _, _, Row.new w _ [.int .i64 0, .string ⟨#[]⟩, .slice none 0 0]⟩
theorem St.call {w : World} {B g : Nat} {A : Option Addr} {zs : List Int} {cap : Nat} {W W2 : World} (h : St w B g A zs cap W) (hg : B ≤ g) (hgl : g < w.heap.size) (hc : Cur W2 g A zs.length cap) (ho : Only g W W2) : St w B g A zs cap W2 :=
  ⟨h.only.trans ho, hc, h.bytes.only ho hg (Nat.le_trans hg (Nat.le_of_lt h.cur.lt)), by obtain ⟨v0, v1, v2, hb⟩ := h.box; exact ⟨v0, v1, v2, Row.only hb ho (by omega)⟩⟩
theorem St.alloc {w : World} {B g : Nat} {A : Option Addr} {zs : List Int} {cap : Nat} {W : World} (h : St w B g A zs cap W) (hg : B ≤ g) (o : Obj) : St w B g A zs cap (W.alloc o) :=
  ⟨h.only.alloc o, h.cur.alloc o, h.bytes.alloc (Nat.le_trans hg (Nat.le_of_lt h.cur.lt)) o, by obtain ⟨v0, v1, v2, hb⟩ := h.box; exact ⟨v0, v1, v2, Row.alloc hb o⟩⟩
theorem St.lt {w : World} {B g : Nat} {A : Option Addr} {zs : List Int} {cap : Nat} {W : World} (h : St w B g A zs cap W) : w.heap.size < W.heap.size := by obtain ⟨v0, v1, v2, hb⟩ := h.box; exact hb.lt
/-- The result is laid in its box. -/
def set3 (W : World) (b : Nat) (v0 v1 v2 : Value) : World := ((W.setCell ⟨b, 0, none⟩ v0).setCell ⟨b, 1, none⟩ v1).setCell ⟨b, 2, none⟩ v2
theorem St.fin {w : World} {B g : Nat} {A : Option Addr} {zs : List Int} {cap : Nat} {W : World} (h : St w B g A zs cap W) (hgl : g < w.heap.size) (v0 v1 v2 : Value) : Only g w (set3 W w.heap.size v0 v1 v2) ∧ Cur (set3 W w.heap.size v0 v1 v2) g A zs.length cap ∧ (∀ bs : List Nat, w.heap.size ∉ bs → Keeps W (set3 W w.heap.size v0 v1 v2) bs) := by
  refine ⟨((h.only.setNew (Nat.le_refl _) _ _).setNew (Nat.le_refl _) _ _).setNew (Nat.le_refl _) _ _, ?_, fun bs hb => ?_⟩
  · obtain ⟨k, x, hk, hr⟩ := h.cur
    refine ⟨k, x, hk, ?_⟩
    unfold set3
    rw [Below.heap_setCell _ _ _ _ (by simp; omega), Below.heap_setCell _ _ _ _ (by simp; omega), Below.heap_setCell _ _ _ _ (by simp; omega)]
    exact hr
  · have hne : ∀ x ∈ bs, x ≠ w.heap.size := fun x hx e => hb (by rw [e] at hx; exact hx)
    unfold set3
    refine ⟨by simp [World.setCell], fun x hx _ => ?_⟩
    rw [Below.heap_setCell _ _ _ _ (by simpa using hne x hx), Below.heap_setCell _ _ _ _ (by simpa using hne x hx), Below.heap_setCell _ _ _ _ (by simpa using hne x hx)]
theorem box_read {W : World} {b : Nat} {u0 u1 u2 v0 v1 v2 : Value} (h : Box W b u0 u1 u2) : (set3 W b v0 v1 v2).cell? ⟨b, 0, none⟩ = some v0 ∧ (set3 W b v0 v1 v2).cell? ⟨b, 1, none⟩ = some v1 ∧ (set3 W b v0 v1 v2).cell? ⟨b, 2, none⟩ = some v2 := by
  have h1 : Box (set3 W b v0 v1 v2) b v0 v1 v2 := by
    unfold Box Row set3 at *
    rw [row_set (row_set (row_set h 0 v0) 1 v1) 2 v2]
    simp
  exact ⟨h1.facts.1, h1.facts.2.1, h1.facts.2.2.1⟩

def OwnDraw (d : Nat) : Prop := ∀ (B g : Nat) (A : Option Addr) (zs : List Int) (cap : Nat) (w : World), Bytes w B A zs → B ≤ g → Cur w g A zs.length cap → zs.length ≤ 1048576 →
    Calls Try.prog 52 #[.pointer (some ⟨g, 0, none⟩), .int .i64 (d : Int)] w (DrawPost (8 * 2 ^ d) g A zs.length cap w)

def strs1 : List ByteArray := [⟨#[90]⟩, ⟨#[78]⟩, ⟨#[65]⟩]
def strs2 : List ByteArray := [⟨#[120]⟩, ⟨#[121]⟩, ⟨#[122]⟩, ⟨#[120]⟩]
def strs3 : List ByteArray := [⟨#[102]⟩, ⟨#[108, 101, 110]⟩]
def strs4 : List ByteArray := [⟨#[97, 112, 112]⟩, ⟨#[97, 100, 100]⟩]
theorem strs1_size : ∀ x ∈ strs1, x.size ≤ 3 := by decide
theorem strs2_size : ∀ x ∈ strs2, x.size ≤ 3 := by decide
theorem strs3_size : ∀ x ∈ strs3, x.size ≤ 3 := by decide
theorem strs4_size : ∀ x ∈ strs4, x.size ≤ 3 := by decide
theorem St.pick {w : World} {B g : Nat} {A : Option Addr} {zs : List Int} {cap : Nat} {W : World} (h : St w B g A zs cap W) (hg : B ≤ g) (hn : zs.length ≤ 1048576) (ss : List ByteArray) (h0 : 1 ≤ ss.length) (h1 : ss.length ≤ 256) :
    Calls Try.prog 68 #[.pointer (some ⟨g, 0, none⟩), .slice (some ⟨W.heap.size, 0, none⟩) ss.length ss.length] (W.alloc (.cells (ss.map Value.string).toArray 9)) (PickPost ss g A zs.length cap (W.alloc (.cells (ss.map Value.string).toArray 9))) :=
  pick_any B g W.heap.size A zs cap ss.length ss (W.alloc (.cells (ss.map Value.string).toArray 9)) (h.alloc hg _).bytes hg (h.alloc hg _).cur hn (Row.new W 9 _) (Nat.ne_of_gt h.cur.lt) h0 h1
theorem draw_leaf {w : World} {B g : Nat} {A : Option Addr} {zs : List Int} {cap : Nat} {W : World} {T : Nat} (h : St w B g A zs cap W) (hgl : g < w.heap.size) (k : Int) (s : ByteArray) (hs : s.size ≤ 3) (hT : 8 ≤ T) :
    DrawPost T g A zs.length cap w (.returned (.agg #[.int .i64 k, .string s, .slice none 0 0])) (set3 W w.heap.size (.int .i64 k) (.string s) (.slice none 0 0)) := by
  obtain ⟨h1, h2, -⟩ := h.fin hgl (.int .i64 k) (.string s) (.slice none 0 0)
  exact ⟨_, .mk k s [], [], rfl, ⟨none, rfl, leafF _ k s (by omega)⟩, (fun x hx => by cases hx), ⟨by simp [exTot, exTots]; omega, by simp [exSize, exSizes]; omega⟩, h2, h1⟩
theorem pow_ge (d : Nat) : 8 ≤ 8 * 2 ^ d := by have : 0 < 2 ^ d := Nat.pow_pos (by decide); omega

theorem St.below {w : World} {B g : Nat} {A : Option Addr} {zs : List Int} {cap : Nat} {W W2 : World} (h : St w B g A zs cap W) (hgl : g < w.heap.size) (hg : B ≤ g) (hb : Below W.heap.size W W2) : St w B g A zs cap W2 :=
  have ho : Only g W W2 := ⟨hb.os, hb.tape, hb.output, hb.size, fun i hi _ => hb.block i hi⟩
  have hc : Cur W2 g A zs.length cap := by
    obtain ⟨k, x, hk, hr⟩ := h.cur
    exact ⟨k, x, hk, (hb.block g h.cur.lt).trans hr⟩
  h.call hg hgl hc ho
set_option maxHeartbeats 400000 in
theorem var_any (s : ByteArray) (w : World) : Calls Try.prog 67 #[.string s] w (RetPost (.agg #[.int .i64 1, .string s, .slice none 0 0]) w) := by
  go_enter Try.func67, Try.ntmps67
  go_wp2_with fail
  refine bodyPost_ret (v := .agg #[.int .i64 1, .string s, .slice none 0 0]) (by simp [results, Try.results67, go_sem]) rfl ?_
  exact ⟨rfl, (Below.refl w.heap.size w).alloc (Nat.le_refl _) _⟩

/-- Only what a node asks. -/
theorem draw_one {w : World} {B g : Nat} {A : Option Addr} {zs : List Int} {cap : Nat} {W : World} {T T1 : Nat} (h : St w B g A zs cap W) (hgl : g < w.heap.size) (k : Int) (s : ByteArray) (hs : s.size ≤ 3) {e1 : Ex} {u1 : Value} {b1 : List Nat} {C : Nat}
    (h1 : ExF W (.agg #[.int .i64 e1.kind, .string e1.name, u1]) e1 b1) (hb : ∀ x ∈ b1, C ≤ x) (hC : w.heap.size < C) (ht : TotB e1 T1) (hT : T = 2 * T1) :
    DrawPost T g A zs.length cap w (.returned (.agg #[.int .i64 k, .string s, .slice (some ⟨W.heap.size, 0, none⟩) 1 1])) ((set3 W w.heap.size (.int .i64 k) (.string s) (.slice (some ⟨W.heap.size, 0, none⟩) 1 1)).alloc (.cells #[.int .i64 e1.kind, .string e1.name, u1] 26)) := by
  have hW := h.lt
  obtain ⟨h2, h3, h4⟩ := h.fin hgl (.int .i64 k) (.string s) (.slice (some ⟨W.heap.size, 0, none⟩) 1 1)
  have hk : w.heap.size ∉ b1 := fun hx => by have := hb _ hx; omega
  have hz : (set3 W w.heap.size (.int .i64 k) (.string s) (.slice (some ⟨W.heap.size, 0, none⟩) 1 1)).heap.size = W.heap.size := by simp [set3, World.setCell]
  have h1' := h1.keeps (h4 b1 hk)
  replace h2 := h2.alloc (.cells #[.int .i64 e1.kind, .string e1.name, u1] 26)
  replace h3 := h3.alloc (.cells #[.int .i64 e1.kind, .string e1.name, u1] 26)
  clear h4
  generalize set3 W w.heap.size (.int .i64 k) (.string s) (.slice (some ⟨W.heap.size, 0, none⟩) 1 1) = W2 at *
  rw [← hz] at hW ⊢
  have hi := oneF (k := k) (s := s) (by omega) (Row.new W2 26 [.int .i64 e1.kind, .string e1.name, u1]) (h1'.below ((Below.refl _ _).alloc (Nat.le_refl _) _))
  refine ⟨_, .mk k s [e1], W2.heap.size :: b1, rfl, ⟨some ⟨W2.heap.size, 0, none⟩, rfl, hi⟩, fun x hx => ?_, ⟨by have := ht.1; simp [exTot, exTots]; omega, by have := ht.2; simp [exSize, exSizes]; omega⟩, h3, h2⟩
  rcases List.mem_cons.1 hx with rfl | hx
  · omega
  · have := hb x hx; omega
theorem draw_two {w : World} {B g : Nat} {A : Option Addr} {zs : List Int} {cap : Nat} {W : World} {T T1 : Nat} (h : St w B g A zs cap W) (hgl : g < w.heap.size) (k : Int) (s : ByteArray) (hs : s.size ≤ 3) {e1 e2 : Ex} {u1 u2 : Value} {b1 b2 : List Nat} {C : Nat}
    (h1 : ExF W (.agg #[.int .i64 e1.kind, .string e1.name, u1]) e1 b1) (hb : ∀ x ∈ b1, C ≤ x) (h5 : ExF W (.agg #[.int .i64 e2.kind, .string e2.name, u2]) e2 b2) (hb2 : ∀ x ∈ b2, C ≤ x) (hC : w.heap.size < C) (ht : TotB e1 T1) (ht2 : TotB e2 T1) (hT : T = 2 * T1) :
    DrawPost T g A zs.length cap w (.returned (.agg #[.int .i64 k, .string s, .slice (some ⟨W.heap.size, 0, none⟩) 2 2])) ((set3 W w.heap.size (.int .i64 k) (.string s) (.slice (some ⟨W.heap.size, 0, none⟩) 2 2)).alloc (.cells #[.int .i64 e1.kind, .string e1.name, u1, .int .i64 e2.kind, .string e2.name, u2] 26)) := by
  have hW := h.lt
  obtain ⟨h2, h3, h4⟩ := h.fin hgl (.int .i64 k) (.string s) (.slice (some ⟨W.heap.size, 0, none⟩) 2 2)
  have hk : w.heap.size ∉ b1 := fun hx => by have := hb _ hx; omega
  have hk2 : w.heap.size ∉ b2 := fun hx => by have := hb2 _ hx; omega
  have hz : (set3 W w.heap.size (.int .i64 k) (.string s) (.slice (some ⟨W.heap.size, 0, none⟩) 2 2)).heap.size = W.heap.size := by simp [set3, World.setCell]
  have h1' := h1.keeps (h4 b1 hk)
  have h5' := h5.keeps (h4 b2 hk2)
  replace h2 := h2.alloc (.cells #[.int .i64 e1.kind, .string e1.name, u1, .int .i64 e2.kind, .string e2.name, u2] 26)
  replace h3 := h3.alloc (.cells #[.int .i64 e1.kind, .string e1.name, u1, .int .i64 e2.kind, .string e2.name, u2] 26)
  clear h4
  generalize set3 W w.heap.size (.int .i64 k) (.string s) (.slice (some ⟨W.heap.size, 0, none⟩) 2 2) = W2 at *
  rw [← hz] at hW ⊢
  have hi := twoF (k := k) (s := s) (by omega) (Row.new W2 26 [.int .i64 e1.kind, .string e1.name, u1, .int .i64 e2.kind, .string e2.name, u2]) (h1'.below ((Below.refl _ _).alloc (Nat.le_refl _) _)) (h5'.below ((Below.refl _ _).alloc (Nat.le_refl _) _))
  refine ⟨_, .mk k s [e1, e2], W2.heap.size :: (b1 ++ b2), rfl, ⟨some ⟨W2.heap.size, 0, none⟩, rfl, hi⟩, fun x hx => ?_, ⟨by have := ht.1; have := ht2.1; simp [exTot, exTots]; omega, by have := ht.2; have := ht2.2; simp [exSize, exSizes]; omega⟩, h3, h2⟩
  rcases List.mem_cons.1 hx with rfl | hx
  · omega
  · rcases List.mem_append.1 hx with hx | hx
    · have := hb x hx; omega
    · have := hb2 x hx; omega
theorem read_alloc {W : World} {b : Nat} {u0 u1 u2 : Value} (h : Box W b u0 u1 u2) (v0 v1 v2 : Value) (o : Obj) : ((set3 W b v0 v1 v2).alloc o).cell? ⟨b, 0, none⟩ = some v0 ∧ ((set3 W b v0 v1 v2).alloc o).cell? ⟨b, 1, none⟩ = some v1 ∧ ((set3 W b v0 v1 v2).alloc o).cell? ⟨b, 2, none⟩ = some v2 := by
  have h1 := box_read (v0 := v0) (v1 := v1) (v2 := v2) h
  have hl : b < (set3 W b v0 v1 v2).heap.size := by simpa [set3, World.setCell] using h.lt
  have hb : ∀ m, ((set3 W b v0 v1 v2).alloc o).cell? ⟨b, m, none⟩ = (set3 W b v0 v1 v2).cell? ⟨b, m, none⟩ := fun m => ((Below.refl _ _).alloc (Nat.le_refl _) o).cell (p := ⟨b, m, none⟩) hl
  exact ⟨(hb 0).trans h1.1, (hb 1).trans h1.2.1, (hb 2).trans h1.2.2⟩
/-- The first part lies in its box while the second is drawn. -/
structure Two (w : World) (B g : Nat) (A : Option Addr) (zs : List Int) (cap : Nat) (b : Nat) (e1 : Ex) (u1 : Value) (b1 : List Nat) (W : World) : Prop where
  st : St w B g A zs cap W
  part : Box W b (.int .i64 e1.kind) (.string e1.name) u1
  is : ExF W (.agg #[.int .i64 e1.kind, .string e1.name, u1]) e1 b1
theorem Two.alloc {w : World} {B g : Nat} {A : Option Addr} {zs : List Int} {cap : Nat} {b : Nat} {e1 : Ex} {u1 : Value} {b1 : List Nat} {W : World} (h : Two w B g A zs cap b e1 u1 b1 W) (hg : B ≤ g) (o : Obj) : Two w B g A zs cap b e1 u1 b1 (W.alloc o) :=
  ⟨h.st.alloc hg o, Row.alloc h.part o, h.is.below ((Below.refl _ _).alloc (Nat.le_refl _) o)⟩
theorem Two.drew {w : World} {B g : Nat} {A : Option Addr} {zs : List Int} {cap : Nat} {b : Nat} {e1 : Ex} {u1 : Value} {b1 : List Nat} {W : World} (h : Two w B g A zs cap b e1 u1 b1 W) (hg : B ≤ g) (hgl : g < w.heap.size) : Two w B g A zs cap b e1 u1 b1 W.drew :=
  ⟨h.st.below hgl hg (Below.refl _ _).drew, h.part, h.is.below (Below.refl _ _).drew⟩
theorem Two.call {w : World} {B g : Nat} {A : Option Addr} {zs : List Int} {cap : Nat} {b : Nat} {e1 : Ex} {u1 : Value} {b1 : List Nat} {W W2 : World} (h : Two w B g A zs cap b e1 u1 b1 W) (hg : B ≤ g) (hgl : g < w.heap.size) (hbg : b ≠ g) (hn : g ∉ b1) (hc : Cur W2 g A zs.length cap) (ho : Only g W W2) : Two w B g A zs cap b e1 u1 b1 W2 :=
  ⟨h.st.call hg hgl hc ho, Row.only h.part ho hbg, h.is.only ho hn⟩
theorem Two.set3 {w : World} {B g : Nat} {A : Option Addr} {zs : List Int} {cap : Nat} {b : Nat} {e1 : Ex} {u1 : Value} {b1 : List Nat} {W : World} (h : Two w B g A zs cap b e1 u1 b1 W) (hg : B ≤ g) (hgl : g < w.heap.size) (hb : b ≠ w.heap.size) (hn : w.heap.size ∉ b1) (v0 v1 v2 : Value) : Two w B g A zs cap b e1 u1 b1 (Ytbnghkgfbjipdaa.set3 W w.heap.size v0 v1 v2) := by
  obtain ⟨h1, h2, h3⟩ := h.st.fin hgl v0 v1 v2
  have hk := h3 [b] (by simp; omega)
  obtain ⟨q0, q1, q2, hq⟩ := h.st.box
  refine ⟨⟨h1, h2, h.st.bytes.below ?_, v0, v1, v2, ?_⟩, (hk.2 b (by simp) h.part.lt).trans h.part, h.is.keeps (h3 b1 hn)⟩
  · have hB : B ≤ w.heap.size := by omega
    have hBW : B ≤ W.heap.size := Nat.le_trans hg (Nat.le_of_lt h.st.cur.lt)
    exact (((Below.refl B W).setCell hB v0).setCell hB v1).setCell hB v2
  · unfold Box Row Ytbnghkgfbjipdaa.set3 at *
    rw [row_set (row_set (row_set hq 0 v0) 1 v1) 2 v2]
    simp
theorem Two.cells {w : World} {B g : Nat} {A : Option Addr} {zs : List Int} {cap : Nat} {b : Nat} {e1 : Ex} {u1 : Value} {b1 : List Nat} {W : World} (h : Hid (Two w B g A zs cap b e1 u1 b1 W)) :
    W.cell? ⟨b, 0, none⟩ = some (.int .i64 e1.kind) ∧ W.cell? ⟨b, 1, none⟩ = some (.string e1.name) ∧ W.cell? ⟨b, 2, none⟩ = some u1 ∧ Hid (Two w B g A zs cap b e1 u1 b1 W) :=
  ⟨h.out.part.facts.1, h.out.part.facts.2.1, h.out.part.facts.2.2.1, h⟩

theorem draw_high {w : World} {B g : Nat} {A : Option Addr} {zs : List Int} {cap : Nat} {W : World} (h : St w B g A zs cap W) {bs : List Nat} (hb : ∀ x ∈ bs, W.heap.size ≤ x) : ∀ x ∈ bs, w.heap.size < x := fun x hx => Nat.lt_of_lt_of_le h.lt (hb x hx)
theorem not_low {g n : Nat} (hg : g < n) {bs : List Nat} (hb : ∀ x ∈ bs, n < x) : g ∉ bs := fun hx => Nat.lt_asymm hg (hb g hx)
theorem Row.newd (w : World) (t : TypeId) (cs : List Value) : Row ((w.alloc (.cells cs.toArray t)).drew) w.heap.size t cs := Row.new w t cs
theorem ExF.alloc' {w : World} {v : Value} {e : Ex} {bs : List Nat} (h : ExF w v e bs) (o : Obj) : ExF (w.alloc o) v e bs := h.below ((Below.refl _ _).alloc (Nat.le_refl _) o)
theorem strs4_one : 1 ≤ strs4.length := by decide
theorem strs4_few : strs4.length ≤ 256 := by decide
theorem St.pickAt {w : World} {B g : Nat} {A : Option Addr} {zs : List Int} {cap : Nat} {W : World} (h : St w B g A zs cap W) (hg : B ≤ g) (hn : zs.length ≤ 1048576) (ss : List ByteArray) (h0 : 1 ≤ ss.length) (h1 : ss.length ≤ 256) {b : Nat} (hr : Row W b 9 (ss.map Value.string)) (hne : b ≠ g) :
    Calls Try.prog 68 #[.pointer (some ⟨g, 0, none⟩), .slice (some ⟨b, 0, none⟩) ss.length ss.length] W (PickPost ss g A zs.length cap W) :=
  pick_any B g b A zs cap ss.length ss W h.bytes hg h.cur hn hr hne h0 h1
set_option maxHeartbeats 4000000 in
theorem draw_step (d : Nat) (ih : ∀ d', d' + 1 = d → OwnDraw d') (hd9 : d ≤ 1000) : OwnDraw d := by
  intro B g A zs cap w hs hg hc hn
  have hgl := hc.lt
  have HS0 := Lib.hid (St.start hs hg hc)
  have HN := Lib.hid hn
  have HP := Lib.hid (pow_ge d)
  have HON := Lib.hid (fun (lim : Int) (W : World) (h : St w B g A zs cap W) (h0 : 1 ≤ lim) (h1 : lim ≤ 256) => once_any B g A zs cap lim W h.bytes hg h.cur hn h0 h1)
  clear hs hc hn
  by_cases hd : d < 2
  · have hd2 : (d : Int) < 2 := by omega
    clear hd ih
    go_enter Try.func52, Try.ntmps52
    go_wp2_with fail
    go_at_call 53
    refine (HON.out 12 _ HS0.out (by decide) (by decide)).mono ?_
    rintro r w2 ⟨x, rfl, hc2, ho2⟩
    have HS2 := Lib.hid (HS0.out.call hg hgl hc2 ho2)
    clear hc2 ho2 HS0
    cases x
    · go_wp2_with fail
      go_at_call 53
      refine (HON.out 3 _ HS2.out (by decide) (by decide)).mono ?_
      rintro r w3 ⟨x, rfl, hc3, ho3⟩
      have HS3 := Lib.hid (HS2.out.call hg hgl hc3 ho3)
      clear hc3 ho3 HS2
      cases x
      · have HPK := Lib.hid (HS3.out.pick hg HN.out strs2 (by decide) (by decide))
        have HAL := Lib.hid (HS3.out.alloc hg (.cells (strs2.map Value.string).toArray 9))
        go_wp2_with fail
        go_at_call 68
        refine HPK.out.mono ?_
        rintro r w4 ⟨y, hy, rfl, hc4, ho4⟩
        have HY := Lib.hid (strs2_size y hy)
        have HS4 := Lib.hid (HAL.out.call hg hgl hc4 ho4)
        clear hc4 ho4 hy HPK HAL
        have HV := Lib.hid (var_any y w4)
        go_wp2_with fail
        go_at_call 67
        refine HV.out.mono ?_
        rintro r w5 ⟨rfl, hb5⟩
        have HS5 := Lib.hid (HS4.out.below hgl hg hb5)
        clear hb5 HS4 HV
        obtain ⟨q0, q1, q2, hq⟩ := HS5.out.box
        obtain ⟨b0, b1, b2, bf⟩ := hq.facts
        go_wp2_with fail
        refine bodyPost_ret (v := .agg #[.int .i64 1, .string y, .slice none 0 0]) (by simp [results, Try.results52, go_sem, b0, b1, b2]) rfl ?_
        exact draw_leaf HS5.out hgl 1 y HY.out HP.out
      · have HPK := Lib.hid (HS3.out.pick hg HN.out strs1 (by decide) (by decide))
        have HAL := Lib.hid (HS3.out.alloc hg (.cells (strs1.map Value.string).toArray 9))
        go_wp2_with fail
        go_at_call 68
        refine HPK.out.mono ?_
        rintro r w4 ⟨y, hy, rfl, hc4, ho4⟩
        have HY := Lib.hid (strs1_size y hy)
        have HS4 := Lib.hid (HAL.out.call hg hgl hc4 ho4)
        clear hc4 ho4 hy HPK HAL
        obtain ⟨q0, q1, q2, hq⟩ := HS4.out.box
        obtain ⟨b0, b1, b2, bf⟩ := hq.facts
        go_wp2_with fail
        refine bodyPost_ret (v := .agg #[.int .i64 2, .string y, .slice none 0 0]) (by simp [results, Try.results52, go_sem, b0, b1, b2]) rfl ?_
        exact draw_leaf HS4.out hgl 2 y HY.out HP.out
    · obtain ⟨q0, q1, q2, hq⟩ := HS2.out.box
      obtain ⟨b0, b1, b2, bf⟩ := hq.facts
      go_wp2_with fail
      refine bodyPost_ret (v := .agg #[.int .i64 4, .string ⟨#[]⟩, .slice none 0 0]) (by simp [results, Try.results52, go_sem, b0, b1, b2]) rfl ?_
      exact draw_leaf HS2.out hgl 4 ⟨#[]⟩ (by decide) HP.out
  · have hd2 : 2 ≤ (d : Int) := by omega
    obtain ⟨d', rfl⟩ : ∃ d', d = d' + 1 := ⟨d - 1, by omega⟩
    have HT := Lib.hid (show 8 * 2 ^ (d' + 1) = 2 * (8 * 2 ^ d') by rw [Nat.pow_succ]; omega)
    obtain ⟨D, hD⟩ : ∃ D : Int, D = ((d' + 1 : Nat) : Int) := ⟨_, rfl⟩
    have HDR := Lib.hid (fun (W : World) (h : St w B g A zs cap W) => show Calls Try.prog 52 #[.pointer (some ⟨g, 0, none⟩), .int .i64 (D - 1)] W (DrawPost (8 * 2 ^ d') g A zs.length cap W) by
      rw [show D - 1 = ((d' : Nat) : Int) by omega]
      exact ih d' rfl B g A zs cap W h.bytes hg h.cur HN.out)
    have hDm : D ≤ 1000 := by omega
    have hD2 : 2 ≤ D := by omega
    have HDW := Lib.hid (fun (W : World) (h : St w B g A zs cap W) => show Calls Try.prog 52 #[.pointer (some ⟨g, 0, none⟩), .int .i64 (IntKind.i64.wrap (D - 1))] W (DrawPost (8 * 2 ^ d') g A zs.length cap W) by
      rw [IntWalk.i64_in _ (by omega)]
      exact HDR.out W h)
    have HBL := Lib.hid (fun (W : World) (h : St w B g A zs cap W) => below_small B g A zs cap 4 W h.bytes hg h.cur HN.out (by decide) (by decide))
    rw [← hD]
    rw [← hD] at hd2
    clear hD2
    generalize 8 * 2 ^ (d' + 1) = T at *
    generalize 8 * 2 ^ d' = T1 at *
    clear hd ih hD hd9
    go_enter Try.func52, Try.ntmps52
    go_wp2_with fail
    go_at_call 53
    refine (HON.out 4 _ HS0.out (by decide) (by decide)).mono ?_
    rintro r w1 ⟨x, rfl, hc1, ho1⟩
    have HS1 := Lib.hid (HS0.out.call hg hgl hc1 ho1)
    clear hc1 ho1 HS0
    cases x
    · go_wp2_with fail
      go_at_call 82
      refine (HBL.out _ HS1.out).mono ?_
      rintro r w2 ⟨x, rfl, x0, x1, hc2, ho2⟩
      have HS2 := Lib.hid (HS1.out.call hg hgl hc2 ho2)
      clear hc2 ho2 HS1
      rcases (show x = 0 ∨ x = 1 ∨ x = 2 ∨ x = 3 by omega) with rfl | rfl | rfl | rfl
      · go_wp2_with fail
        go_at_call 52
        refine (HDR.out _ HS2.out).mono ?_
        rintro r w3 ⟨_, e3, bs3, rfl, ⟨A3, rfl, his3⟩, hge3, ht3, hc3, ho3⟩
        have HI3 := Lib.hid his3
        have HG3 := Lib.hid hge3
        have HS3 := Lib.hid (HS2.out.call hg hgl hc3 ho3)
        clear his3 hge3 hc3 ho3
        obtain ⟨q0, q1, q2, hq⟩ := HS3.out.box
        obtain ⟨b0, b1, b2, bf⟩ := hq.facts
        have hbl := HS3.out.lt
        have hbn : w.heap.size ≠ w3.heap.size := by omega
        have hrd := read_alloc hq (.int .i64 2) (.string ⟨#[83]⟩) (.slice (some ⟨w3.heap.size, 0, none⟩) 1 1) (.cells #[.int .i64 e3.kind, .string e3.name, .slice A3 e3.args.length e3.args.length] 26)
        unfold set3 at hrd
        obtain ⟨r0, r1, r2⟩ := hrd
        go_wp2_with fail
        refine bodyPost_ret (v := .agg #[.int .i64 2, .string ⟨#[83]⟩, .slice (some ⟨w3.heap.size, 0, none⟩) 1 1]) (by simp [results, Try.results52, go_sem, r0, r1, r2]) rfl ?_
        exact draw_one HS3.out hgl 2 ⟨#[83]⟩ (by decide) HI3.out HG3.out HS2.out.lt ht3 HT.out
      · go_wp2_with fail
        go_at_call 52
        refine (HDR.out _ HS2.out).mono ?_
        rintro r w3 ⟨_, e3, bs3, rfl, ⟨A3, rfl, his3⟩, hge3, ht3, hc3, ho3⟩
        have HI3 := Lib.hid his3
        have HG3 := Lib.hid hge3
        have HS3 := Lib.hid (HS2.out.call hg hgl hc3 ho3)
        have HT3 := Lib.hid ht3
        obtain ⟨u3, hu3⟩ : ∃ u3, u3 = Value.slice A3 e3.args.length e3.args.length := ⟨_, rfl⟩
        have hbg : w3.heap.size ≠ g := by have := HS3.out.lt; omega
        have hnb : g ∉ bs3 := fun hx => by have := HG3.out g hx; have := HS2.out.lt; omega
        have H2 := Lib.hid (show Two w B g A zs cap w3.heap.size e3 (.slice A3 e3.args.length e3.args.length) bs3 (w3.alloc (.cells #[.int .i64 e3.kind, .string e3.name, .slice A3 e3.args.length e3.args.length] 26)) from
          ⟨HS3.out.alloc hg _, Row.new w3 _ [.int .i64 e3.kind, .string e3.name, .slice A3 e3.args.length e3.args.length], HI3.out.below ((Below.refl _ _).alloc (Nat.le_refl _) _)⟩)
        clear his3 hge3 hc3 ho3 ht3 hu3 HI3
        go_wp2_with fail
        generalize w3.alloc (.cells #[.int .i64 e3.kind, .string e3.name, .slice A3 e3.args.length e3.args.length] 26) = w4 at *
        have HK := Lib.hid (fun (X W : World) (h : Two w B g A zs cap w3.heap.size e3 (.slice A3 e3.args.length e3.args.length) bs3 X) (hc : Cur W g A zs.length cap) (ho : Only g X W) => Two.call h hg hgl hbg hnb hc ho)
        have hb3 : w3.heap.size ≠ w.heap.size := Nat.ne_of_gt HS3.out.lt
        have hn3 : w.heap.size ∉ bs3 := fun hx => by have := HG3.out _ hx; have := HS2.out.lt; omega
        go_region_held3 (fun X => X.cell? ⟨w3.heap.size, 0, none⟩ = some (.int .i64 e3.kind) ∧ X.cell? ⟨w3.heap.size, 1, none⟩ = some (.string e3.name) ∧ X.cell? ⟨w3.heap.size, 2, none⟩ = some (.slice A3 e3.args.length e3.args.length) ∧ Hid (Two w B g A zs cap w3.heap.size e3 (.slice A3 e3.args.length e3.args.length) bs3 X))
          (first
          | exact Two.cells (Lib.hid (H2.out.drew hg hgl))
          | exact Two.cells HT5
          | exact Two.cells (Lib.hid (Two.alloc HT5.out hg _))
          | exact Two.cells (Lib.hid ((Two.set3 (HT5.out) hg hgl hb3 hn3 _ _ _).alloc hg _)))
          (first | (go_at_call 52; have hh := (‹_ ∧ _ ∧ _ ∧ Hid (Two w B g A zs cap w3.heap.size e3 (.slice A3 e3.args.length e3.args.length) bs3 _)›).2.2.2; refine (HDW.out _ hh.out.st).mono ?_; rintro r w5 ⟨_, e5, bs5, rfl, ⟨A5, rfl, his5⟩, hge5, ht5, hc5, ho5⟩; have HG5 := Lib.hid (draw_high hh.out.st hge5); have HI5 := Lib.hid his5; clear his5 hge5; have hT5 := HK.out _ _ hh.out hc5 ho5; obtain ⟨q50, q51, q52, hq5⟩ := hT5.st.box; obtain ⟨b50, b51, b52, bf5⟩ := hq5.facts; have hbl5 : w.heap.size < w5.heap.size := hq5.lt; have hbn5 : w.heap.size ≠ w5.heap.size := Nat.ne_of_lt hq5.lt; have HT5 := Lib.hid hT5; clear hT5 hq5 hh))
        obtain ⟨q0, q1, q2, hq⟩ := HT5.out.st.box
        have hrd := read_alloc hq (.int .i64 2) (.string ⟨#[67]⟩) (.slice (some ⟨w5.heap.size, 0, none⟩) 2 2) (.cells #[.int .i64 e3.kind, .string e3.name, .slice A3 e3.args.length e3.args.length, .int .i64 e5.kind, .string e5.name, .slice A5 e5.args.length e5.args.length] 26)
        unfold set3 at hrd
        obtain ⟨r0, r1, r2⟩ := hrd
        go_wp2_with fail
        refine bodyPost_ret (v := .agg #[.int .i64 2, .string ⟨#[67]⟩, .slice (some ⟨w5.heap.size, 0, none⟩) 2 2]) (by simp [results, Try.results52, go_sem, r0, r1, r2]) rfl ?_
        exact draw_two HT5.out.st hgl 2 ⟨#[67]⟩ (by decide) HT5.out.is (fun x hx => Nat.lt_of_lt_of_le HS2.out.lt (HG3.out x hx)) HI5.out (fun x hx => HG5.out x hx) (Nat.lt_succ_self _) HT3.out ht5 HT.out
      · have HPK := Lib.hid (HS2.out.pick hg HN.out strs3 (by decide) (by decide))
        have HAL := Lib.hid (HS2.out.alloc hg (.cells (strs3.map Value.string).toArray 9))
        go_wp2_with fail
        go_at_call 68
        refine HPK.out.mono ?_
        rintro r w3 ⟨y, hy, rfl, hc3, ho3⟩
        have HY := Lib.hid (strs3_size y hy)
        have HS3 := Lib.hid (HAL.out.call hg hgl hc3 ho3)
        clear hc3 ho3 hy HPK HAL
        go_wp2_with fail
        go_at_call 52
        refine (HDR.out _ HS3.out).mono ?_
        rintro r w4 ⟨_, e4, bs4, rfl, ⟨A4, rfl, his4⟩, hge4, ht4, hc4, ho4⟩
        have HI4 := Lib.hid his4
        have HG4 := Lib.hid hge4
        have HS4 := Lib.hid (HS3.out.call hg hgl hc4 ho4)
        clear his4 hge4 hc4 ho4
        obtain ⟨q0, q1, q2, hq⟩ := HS4.out.box
        obtain ⟨b0, b1, b2, bf⟩ := hq.facts
        have hbl := HS4.out.lt
        have hbn : w.heap.size ≠ w4.heap.size := by omega
        have hrd := read_alloc hq (.int .i64 3) (.string y) (.slice (some ⟨w4.heap.size, 0, none⟩) 1 1) (.cells #[.int .i64 e4.kind, .string e4.name, .slice A4 e4.args.length e4.args.length] 26)
        unfold set3 at hrd
        obtain ⟨r0, r1, r2⟩ := hrd
        go_wp2_with fail
        refine bodyPost_ret (v := .agg #[.int .i64 3, .string y, .slice (some ⟨w4.heap.size, 0, none⟩) 1 1]) (by simp [results, Try.results52, go_sem, r0, r1, r2]) rfl ?_
        exact draw_one HS4.out hgl 3 y HY.out HI4.out HG4.out HS3.out.lt ht4 HT.out
      · go_wp2_with fail
        go_at_call 52
        refine (HDR.out _ HS2.out).mono ?_
        rintro r w3 ⟨_, e3, bs3, rfl, ⟨A3, rfl, his3⟩, hge3, ht3, hc3, ho3⟩
        have HI3 := Lib.hid his3
        have HG3 := Lib.hid hge3
        have HS3 := Lib.hid (HS2.out.call hg hgl hc3 ho3)
        have HT3 := Lib.hid ht3
        obtain ⟨u3, hu3⟩ : ∃ u3, u3 = Value.slice A3 e3.args.length e3.args.length := ⟨_, rfl⟩
        have hbg : w3.heap.size ≠ g := by have := HS3.out.lt; omega
        have hnb : g ∉ bs3 := fun hx => by have := HG3.out g hx; have := HS2.out.lt; omega
        have H2 := Lib.hid (show Two w B g A zs cap w3.heap.size e3 (.slice A3 e3.args.length e3.args.length) bs3 (w3.alloc (.cells #[.int .i64 e3.kind, .string e3.name, .slice A3 e3.args.length e3.args.length] 26)) from
          ⟨HS3.out.alloc hg _, Row.new w3 _ [.int .i64 e3.kind, .string e3.name, .slice A3 e3.args.length e3.args.length], HI3.out.below ((Below.refl _ _).alloc (Nat.le_refl _) _)⟩)
        clear his3 hge3 hc3 ho3 ht3 hu3 HI3
        go_wp2_with fail
        generalize w3.alloc (.cells #[.int .i64 e3.kind, .string e3.name, .slice A3 e3.args.length e3.args.length] 26) = w4 at *
        have HK := Lib.hid (fun (X W : World) (h : Two w B g A zs cap w3.heap.size e3 (.slice A3 e3.args.length e3.args.length) bs3 X) (hc : Cur W g A zs.length cap) (ho : Only g X W) => Two.call h hg hgl hbg hnb hc ho)
        have hb3 : w3.heap.size ≠ w.heap.size := Nat.ne_of_gt HS3.out.lt
        have hn3 : w.heap.size ∉ bs3 := fun hx => by have := HG3.out _ hx; have := HS2.out.lt; omega
        have hw4g : w4.heap.size ≠ g := Nat.ne_of_gt (Nat.lt_trans hgl H2.out.st.lt)
        go_region_held3 (fun X => X.cell? ⟨w3.heap.size, 0, none⟩ = some (.int .i64 e3.kind) ∧ X.cell? ⟨w3.heap.size, 1, none⟩ = some (.string e3.name) ∧ X.cell? ⟨w3.heap.size, 2, none⟩ = some (.slice A3 e3.args.length e3.args.length) ∧ Hid (Two w B g A zs cap w3.heap.size e3 (.slice A3 e3.args.length e3.args.length) bs3 X))
          (first
          | exact Two.cells (Lib.hid (H2.out.drew hg hgl))
          | exact Two.cells HT5
          | exact Two.cells HT6
          | exact Two.cells (Lib.hid ((H2.out.alloc hg _).drew hg hgl))
          | exact Two.cells (Lib.hid (Two.alloc HT5.out hg _))
          | exact Two.cells (Lib.hid ((Two.set3 (HT5.out) hg hgl hb3 hn3 _ _ _).alloc hg _))
          | exact Two.cells (Lib.hid (Two.alloc HT6.out hg _))
          | exact Two.cells (Lib.hid ((Two.set3 (HT6.out) hg hgl hb3 hn3 _ _ _).alloc hg _)))
          (first
          | (go_at_call 52; have hh := (‹_ ∧ _ ∧ _ ∧ Hid (Two w B g A zs cap w3.heap.size e3 (.slice A3 e3.args.length e3.args.length) bs3 _)›).2.2.2; refine (HDW.out _ hh.out.st).mono ?_; rintro r w5 ⟨_, e5, bs5, rfl, ⟨A5, rfl, his5⟩, hge5, ht5, hc5, ho5⟩; have HG5 := Lib.hid (draw_high hh.out.st hge5); have HI5 := Lib.hid his5; clear his5 hge5; have hT5 := HK.out _ _ hh.out hc5 ho5; obtain ⟨q50, q51, q52, hq5⟩ := hT5.st.box; obtain ⟨b50, b51, b52, bf5⟩ := hq5.facts; have hbl5 : w.heap.size < w5.heap.size := hq5.lt; have hbn5 : w.heap.size ≠ w5.heap.size := Nat.ne_of_lt hq5.lt; have HT5 := Lib.hid hT5; clear hT5 hq5 hh; have hh5g : w5.heap.size ≠ g := Nat.ne_of_gt (Nat.lt_trans hgl hbl5))
          | (go_at_call 68; have hh := (‹_ ∧ _ ∧ _ ∧ Hid (Two w B g A zs cap w3.heap.size e3 (.slice A3 e3.args.length e3.args.length) bs3 _)›).2.2.2; (first | refine (St.pickAt hh.out.st hg HN.out strs4 strs4_one strs4_few (Row.newd _ _ _) hw4g).mono ?_ | refine (St.pickAt hh.out.st hg HN.out strs4 strs4_one strs4_few (Row.new _ _ _) hh5g).mono ?_ | refine (St.pickAt hh.out.st hg HN.out strs4 strs4_one strs4_few (Row.only (Row.newd _ _ _) ho5 hw4g) hw4g).mono ?_); rintro r w6 ⟨y, hy, rfl, hc6, ho6⟩; have hT6 := HK.out _ _ hh.out hc6 ho6; obtain ⟨q60, q61, q62, hq6⟩ := hT6.st.box; obtain ⟨b60, b61, b62, bf6⟩ := hq6.facts; have hbl6 : w.heap.size < w6.heap.size := hq6.lt; have hbn6 : w.heap.size ≠ w6.heap.size := Nat.ne_of_lt hq6.lt; have HT6 := Lib.hid hT6; clear hT6 hq6 hh; have HY := Lib.hid (strs4_size y hy); (first | have HI6 := Lib.hid (ExIs.only HI5.out ho6 (not_low hgl HG5.out)) | have HI6 := Lib.hid (ExIs.only (ExF.alloc' HI5.out _) ho6 (not_low hgl HG5.out)) | skip)))
        obtain ⟨q0, q1, q2, hq⟩ := HT5.out.st.box
        have hrd := read_alloc hq (.int .i64 3) (.string y) (.slice (some ⟨w5.heap.size, 0, none⟩) 2 2) (.cells #[.int .i64 e3.kind, .string e3.name, .slice A3 e3.args.length e3.args.length, .int .i64 e5.kind, .string e5.name, .slice A5 e5.args.length e5.args.length] 26)
        unfold set3 at hrd
        obtain ⟨r0, r1, r2⟩ := hrd
        go_wp2_with fail
        refine bodyPost_ret (v := .agg #[.int .i64 3, .string y, .slice (some ⟨w5.heap.size, 0, none⟩) 2 2]) (by simp [results, Try.results52, go_sem, r0, r1, r2]) rfl ?_
        exact draw_two HT5.out.st hgl 3 y HY.out HT5.out.is (fun x hx => Nat.lt_of_lt_of_le HS2.out.lt (HG3.out x hx)) HI5.out (fun x hx => HG5.out x hx) (Nat.lt_succ_self _) HT3.out ht5 HT.out
    · go_wp2_with fail
      go_at_call 53
      refine (HON.out 12 _ HS1.out (by decide) (by decide)).mono ?_
      rintro r w2 ⟨x, rfl, hc2, ho2⟩
      have HS2 := Lib.hid (HS1.out.call hg hgl hc2 ho2)
      clear hc2 ho2 HS1
      cases x
      · go_wp2_with fail
        go_at_call 53
        refine (HON.out 3 _ HS2.out (by decide) (by decide)).mono ?_
        rintro r w3 ⟨x, rfl, hc3, ho3⟩
        have HS3 := Lib.hid (HS2.out.call hg hgl hc3 ho3)
        clear hc3 ho3 HS2
        cases x
        · have HPK := Lib.hid (HS3.out.pick hg HN.out strs2 (by decide) (by decide))
          have HAL := Lib.hid (HS3.out.alloc hg (.cells (strs2.map Value.string).toArray 9))
          go_wp2_with fail
          go_at_call 68
          refine HPK.out.mono ?_
          rintro r w4 ⟨y, hy, rfl, hc4, ho4⟩
          have HY := Lib.hid (strs2_size y hy)
          have HS4 := Lib.hid (HAL.out.call hg hgl hc4 ho4)
          clear hc4 ho4 hy HPK HAL
          have HV := Lib.hid (var_any y w4)
          go_wp2_with fail
          go_at_call 67
          refine HV.out.mono ?_
          rintro r w5 ⟨rfl, hb5⟩
          have HS5 := Lib.hid (HS4.out.below hgl hg hb5)
          clear hb5 HS4 HV
          obtain ⟨q0, q1, q2, hq⟩ := HS5.out.box
          obtain ⟨b0, b1, b2, bf⟩ := hq.facts
          go_wp2_with fail
          refine bodyPost_ret (v := .agg #[.int .i64 1, .string y, .slice none 0 0]) (by simp [results, Try.results52, go_sem, b0, b1, b2]) rfl ?_
          exact draw_leaf HS5.out hgl 1 y HY.out HP.out
        · have HPK := Lib.hid (HS3.out.pick hg HN.out strs1 (by decide) (by decide))
          have HAL := Lib.hid (HS3.out.alloc hg (.cells (strs1.map Value.string).toArray 9))
          go_wp2_with fail
          go_at_call 68
          refine HPK.out.mono ?_
          rintro r w4 ⟨y, hy, rfl, hc4, ho4⟩
          have HY := Lib.hid (strs1_size y hy)
          have HS4 := Lib.hid (HAL.out.call hg hgl hc4 ho4)
          clear hc4 ho4 hy HPK HAL
          obtain ⟨q0, q1, q2, hq⟩ := HS4.out.box
          obtain ⟨b0, b1, b2, bf⟩ := hq.facts
          go_wp2_with fail
          refine bodyPost_ret (v := .agg #[.int .i64 2, .string y, .slice none 0 0]) (by simp [results, Try.results52, go_sem, b0, b1, b2]) rfl ?_
          exact draw_leaf HS4.out hgl 2 y HY.out HP.out
      · obtain ⟨q0, q1, q2, hq⟩ := HS2.out.box
        obtain ⟨b0, b1, b2, bf⟩ := hq.facts
        go_wp2_with fail
        refine bodyPost_ret (v := .agg #[.int .i64 4, .string ⟨#[]⟩, .slice none 0 0]) (by simp [results, Try.results52, go_sem, b0, b1, b2]) rfl ?_
        exact draw_leaf HS2.out hgl 4 ⟨#[]⟩ (by decide) HP.out
/-- The draw of an expression of at most a depth. -/
theorem draw_any : ∀ d : Nat, d ≤ 1000 → OwnDraw d := by
  intro d
  induction d with
  | zero => intro h; exact draw_step 0 (fun d' e => by omega) h
  | succ d ih => intro h; exact draw_step (d + 1) (fun d' e => by rw [show d' = d by omega]; exact ih (by omega)) h
end Go.Proofs.Ytbnghkgfbjipdaa
