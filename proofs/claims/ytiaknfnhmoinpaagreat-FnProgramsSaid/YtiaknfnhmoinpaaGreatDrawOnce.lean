/- A part of the proof of the seat's statement: DrawOnce. Condition: as each says. -/
import Derived.Test.YtiaknfnhmoinpaaGreatZh
import Derived.Test.YtiaknfnhmoinpaaGreatRows
import Derived.WalkKit
import Derived.Lib.Hide
import Derived.WalkSpells
import Derived.WalkLawsBesides
import Derived.WalkSmall
import Derived.Deep.QuietTactic
import Derived.BigQuiet
import Derived.Laws.BitsLemmas
import Derived.Deep.Draws
set_option maxHeartbeats 8000000
namespace Go.Proofs.YtiaknfnhmoinpaaGreat
open Go Go.RowKit
inductive Ex where
 | mk (kind : Int) (name : ByteArray) (args : List Ex)
namespace Ex
def kind : Ex → Int
 | .mk k _ _ => k
def name : Ex → ByteArray
 | .mk _ s _ => s
def args : Ex → List Ex
 | .mk _ _ l => l
end Ex
mutual
def exSize : Ex → Nat
 | .mk _ _ l => exSizes l + 1
def exSizes : List Ex → Nat
 | [] => 0
 | e :: r => exSize e + exSizes r
end
theorem exSize_pos (e : Ex) : 1 ≤ exSize e := by cases e; simp [exSize]
theorem exSizes_mem : ∀ {l : List Ex} {e : Ex}, e ∈ l → exSize e ≤ exSizes l := by
 intro l
 induction l with
 | nil => intro e h; cases h
 | cons x r ih =>
  intro e h
  rw [exSizes]
  rcases List.mem_cons.1 h with rfl | h
  · omega
  have := ih h; omega
theorem sizes_len : ∀ l : List Ex, l.length ≤ exSizes l := by
 intro l
 induction l with
 | nil => simp
 | cons e r ih => rw [exSizes, lC]; have := exSize_pos e; omega
theorem exSize_args {e x : Ex} (h : x ∈ e.args) : exSize x < exSize e := by
 cases e with
 | mk k s l =>
  have := exSizes_mem (l := l) h
  rw [exSize]; omega
mutual
def ExsAt (w : World) (g o : Nat) : Nat → List Ex → List Nat → Prop
 | _, [], bs => bs = []
 | i, e :: r, bs => ∃ b1 b2, bs = b1 ++ b2 ∧ ExAt w g (o + i * 3) e b1 ∧ ExsAt w g o (i + 1) r b2
def ExAt (w : World) (g o : Nat) : Ex → List Nat → Prop
 | .mk k s l, bs => w.cell? ⟨g, o, none⟩ = some (.int .i64 k) ∧ w.cell? ⟨g, o + 1, none⟩ = some (.string s) ∧ s.size ≤ 9223372036854775807 ∧ ∃ A c, w.cell? ⟨g, o + 2, none⟩ = some (.slice A l.length c) ∧ l.length ≤ c ∧ c ≤ 9223372036854775807 ∧
  ((l = [] ∧ bs = []) ∨ ∃ g' o' bs', A = some ⟨g', o', none⟩ ∧ g' < w.heap.size ∧ bs = g' :: bs' ∧ ExsAt w g' o' 0 l bs')
end
def SlIs (w : World) (v : Value) (l : List Ex) (bs : List Nat) : Prop :=
 ∃ A c, v = .slice A l.length c ∧ l.length ≤ c ∧ c ≤ 9223372036854775807 ∧ ((l = [] ∧ bs = []) ∨ ∃ g' o' bs', A = some ⟨g', o', none⟩ ∧ g' < w.heap.size ∧ bs = g' :: bs' ∧ ExsAt w g' o' 0 l bs')
def ExIs (w : World) (v : Value) (e : Ex) (bs : List Nat) : Prop :=
 ∃ u, v = .agg #[.int .i64 e.kind, .string e.name, u] ∧ e.name.size ≤ 9223372036854775807 ∧ SlIs w u e.args bs
theorem ExAt.is {w : World} {g o : Nat} {e : Ex} {bs : List Nat} (h : ExAt w g o e bs) :
 ∃ u, w.cell? ⟨g, o, none⟩ = some (.int .i64 e.kind) ∧ w.cell? ⟨g, o + 1, none⟩ = some (.string e.name) ∧ w.cell? ⟨g, o + 2, none⟩ = some u ∧ ExIs w (.agg #[.int .i64 e.kind, .string e.name, u]) e bs := by
 cases e with
 | mk k s l =>
  rw [ExAt] at h
  obtain ⟨h1, h2, h3, A, c, h4, h5⟩ := h
  exact ⟨_, h1, h2, h4, _, rfl, h3, A, c, rfl, h5⟩
theorem ExAt.mk {w : World} {g o : Nat} {e : Ex} {bs : List Nat} {u : Value} (h1 : w.cell? ⟨g, o, none⟩ = some (.int .i64 e.kind)) (h2 : w.cell? ⟨g, o + 1, none⟩ = some (.string e.name)) (h3 : w.cell? ⟨g, o + 2, none⟩ = some u) (h : ExIs w (.agg #[.int .i64 e.kind, .string e.name, u]) e bs) : ExAt w g o e bs := by
 cases e with
 | mk k s l =>
  obtain ⟨u', e1, hs, A, c, e2, h5⟩ := h
  simp only [Value.agg.injEq, Array.mk.injEq, List.cons.injEq, and_true, true_and] at e1
  subst e1; subst e2
  rw [ExAt]
  exact ⟨h1, h2, hs, A, c, h3, h5⟩
theorem ExsAt.get {w : World} {g o : Nat} : ∀ (l : List Ex) (j : Nat) (bs : List Nat), ExsAt w g o j l bs → ∀ i e, l[i]? = some e → ∃ b1, ExAt w g (o + (j + i) * 3) e b1 ∧ ∀ x ∈ b1, x ∈ bs := by
 intro l
 induction l with
 | nil => intro j bs _ i e h; simp at h
 | cons x r ih =>
  intro j bs h i e he
  rw [ExsAt] at h
  obtain ⟨b1, b2, rfl, h1, h2⟩ := h
  cases i with
  | zero =>
   simp at he
   subst he
   exact ⟨b1, h1, fun y hy => List.mem_append_left _ hy⟩
  | succ i =>
   obtain ⟨b3, h3, h4⟩ := ih (j + 1) b2 h2 i e (by simpa using he)
   exact ⟨b3, by rw [show j + (i + 1) = j + 1 + i by omega]; exact h3, fun y hy => List.mem_append_right _ (h4 y hy)⟩
def Keeps (w w' : World) (bs : List Nat) : Prop := w.heap.size ≤ w'.heap.size ∧ ∀ x ∈ bs, x < w.heap.size → w'.heap[x]? = w.heap[x]?
theorem ex_keeps (n : Nat) : (∀ (e : Ex), exSize e ≤ n → ∀ (w w' : World) (g o : Nat) (bs : List Nat), ExAt w g o e bs → g < w.heap.size → Keeps w w' (g :: bs) → ExAt w' g o e bs) ∧
 (∀ (l : List Ex), exSizes l ≤ n → ∀ (w w' : World) (g o : Nat) (j : Nat) (bs : List Nat), ExsAt w g o j l bs → g < w.heap.size → Keeps w w' (g :: bs) → ExsAt w' g o j l bs) := by
 induction n with
 | zero =>
  refine ⟨fun e h => by have := exSize_pos e; omega, fun l h => ?_⟩
  cases l with
  | nil => intro w w' g o j bs h1 _ _; rw [ExsAt] at h1 ⊢; exact h1
  | cons e r => rw [exSizes] at h; have := exSize_pos e; omega
 | succ n ih =>
  have hE : ∀ (e : Ex), exSize e ≤ n + 1 → ∀ (w w' : World) (g o : Nat) (bs : List Nat), ExAt w g o e bs → g < w.heap.size → Keeps w w' (g :: bs) → ExAt w' g o e bs := by
   intro e he w w' g o bs h hlt hk
   cases e with
   | mk k s l =>
    rw [exSize] at he
    rw [ExAt] at h ⊢
    have hb : ∀ m, w'.cell? ⟨g, m, none⟩ = w.cell? ⟨g, m, none⟩ := fun m => World.cell?_of_block (w := w) (hk.2 _ (by simp) hlt)
    obtain ⟨h1, h2, h3, A, c, h4, h5, h6, h7⟩ := h
    refine ⟨(hb _).trans h1, (hb _).trans h2, h3, A, c, (hb _).trans h4, h5, h6, ?_⟩
    rcases h7 with h7 | ⟨g', o', bs', rfl, hbl, rfl, h8⟩
    · exact Or.inl h7
    exact Or.inr ⟨g', o', bs', rfl, nL hbl hk.1, rfl, ih.2 l (by omega) w w' g' o' 0 bs' h8 hbl ⟨hk.1, fun x hx => hk.2 x (by simp [hx])⟩⟩
  refine ⟨hE, ?_⟩
  intro l
  induction l with
  | nil => intro _ w w' g o j bs h _ _; rw [ExsAt] at h ⊢; exact h
  | cons e r ihl =>
   intro hl w w' g o j bs h hlt hk
   rw [exSizes] at hl
   have hp := exSize_pos e
   rw [ExsAt] at h ⊢
   obtain ⟨b1, b2, rfl, h1, h2⟩ := h
   refine ⟨b1, b2, rfl, hE e (by omega) w w' g _ b1 h1 hlt ⟨hk.1, fun x hx => hk.2 x ?_⟩, ihl (by omega) w w' g o (j + 1) b2 h2 hlt ⟨hk.1, fun x hx => hk.2 x ?_⟩⟩
   · simp only [List.mem_cons, List.mem_append] at hx ⊢
     rcases hx with h | h
     · exact Or.inl h
     exact Or.inr (Or.inl h)
   simp only [List.mem_cons, List.mem_append] at hx ⊢
   rcases hx with h | h
   · exact Or.inl h
   exact Or.inr (Or.inr h)
theorem SlIs.keeps {w w' : World} {v : Value} {l : List Ex} {bs : List Nat} (h : SlIs w v l bs) (hk : Keeps w w' bs) : SlIs w' v l bs := by
 obtain ⟨A, c, e, h1, h2, h3⟩ := h
 refine ⟨A, c, e, h1, h2, ?_⟩
 rcases h3 with h3 | ⟨g, o, bs', rfl, hb, rfl, h4⟩
 · exact Or.inl h3
 exact Or.inr ⟨g, o, bs', rfl, nL hb hk.1, rfl, (ex_keeps _).2 l (nR _) w w' g o 0 bs' h4 hb hk⟩
theorem ExIs.keeps {w w' : World} {v : Value} {e : Ex} {bs : List Nat} (h : ExIs w v e bs) (hk : Keeps w w' bs) : ExIs w' v e bs := by
 obtain ⟨u, e1, h1, h2⟩ := h
 exact ⟨u, e1, h1, h2.keeps hk⟩
theorem keeps_below {w w' : World} (h : Below w.heap.size w w') (bs : List Nat) : Keeps w w' bs := ⟨h.size, fun x _ hx => h.block x hx⟩
theorem ExIs.below {w w' : World} {v : Value} {e : Ex} {bs : List Nat} (h : ExIs w v e bs) (hb : Below w.heap.size w w') : ExIs w' v e bs := h.keeps (keeps_below hb bs)
theorem SlIs.below {w w' : World} {v : Value} {l : List Ex} {bs : List Nat} (h : SlIs w v l bs) (hb : Below w.heap.size w w') : SlIs w' v l bs := h.keeps (keeps_below hb bs)
theorem SlIs.get {w : World} {A : Option Addr} {n c : Nat} {l : List Ex} {bs : List Nat} (h : SlIs w (.slice A n c) l bs) (k : Nat) (hk : k < l.length) :
 ∃ g o e u b1, A = some ⟨g, o, none⟩ ∧ g < w.heap.size ∧ l[k]? = some e ∧ e ∈ l ∧ w.cell? ⟨g, o + k * 3, none⟩ = some (.int .i64 e.kind) ∧ w.cell? ⟨g, o + k * 3 + 1, none⟩ = some (.string e.name) ∧ w.cell? ⟨g, o + k * 3 + 2, none⟩ = some u ∧ ExIs w (.agg #[.int .i64 e.kind, .string e.name, u]) e b1 ∧ ∀ x ∈ b1, x ∈ bs := by
 obtain ⟨A', c', e1, h1, h2, h3⟩ := h
 cases e1
 rcases h3 with ⟨rfl, -⟩ | ⟨g, o, bs', rfl, hb, rfl, h4⟩
 · simp at hk
 have he := List.getElem?_eq_getElem hk
 obtain ⟨b1, h5, h6⟩ := ExsAt.get l 0 bs' h4 k _ he
 rw [Nat.zero_add] at h5
 obtain ⟨u, c1, c2, c3, h7⟩ := h5.is
 exact ⟨g, o, _, u, b1, rfl, hb, he, List.getElem_mem hk, c1, c2, c3, h7, fun x hx => List.mem_cons_of_mem _ (h6 x hx)⟩
theorem SlIs.len {w : World} {A : Option Addr} {n c : Nat} {l : List Ex} {bs : List Nat} (h : SlIs w (.slice A n c) l bs) : n = l.length ∧ n ≤ c ∧ c ≤ 9223372036854775807 := by
 obtain ⟨A', c', e1, h1, h2, h3⟩ := h
 cases e1
 exact ⟨rfl, h1, h2⟩
open Go Go.RowKit
mutual
def exTot : Ex → Nat
 | .mk _ s l => s.size + exTots l
def exTots : List Ex → Nat
 | [] => 0
 | e :: r => exTot e + 1 + exTots r
end
theorem tots_ge : ∀ l : List Ex, l.length ≤ exTots l := by
 intro l
 induction l with
 | nil => simp
 | cons e r ih => rw [exTots, lC]; omega
theorem tot_size (n : Nat) : (∀ e : Ex, exSize e ≤ n → exSize e ≤ exTot e + 1) ∧ (∀ l : List Ex, exSizes l ≤ n → exSizes l ≤ exTots l) := by
 induction n with
 | zero =>
  refine ⟨fun e h => by have := exSize_pos e; omega, fun l h => by omega⟩
 | succ n ih =>
  have hE : ∀ e : Ex, exSize e ≤ n + 1 → exSize e ≤ exTot e + 1 := by
   intro e h
   cases e with
   | mk k s l =>
    rw [exSize] at h ⊢
    rw [exTot]
    have := ih.2 l (by omega)
    omega
  refine ⟨hE, ?_⟩
  intro l
  induction l with
  | nil => intro _; simp [exSizes, exTots]
  | cons e r ihl =>
   intro h
   rw [exSizes] at h ⊢
   rw [exTots]
   have h1 := hE e (by omega)
   have h2 := ihl (by omega)
   omega
def RetPost (r : Value) (w : World) (e : Ending) (w' : World) : Prop := e = .returned r ∧ Below w.heap.size w w'
theorem box_cells2 (w : World) (K : Int) (S : ByteArray) (u : Value) (W : World) (hb : Below (w.alloc (.cells #[.int .i64 K, .string S, u] 32)).heap.size (w.alloc (.cells #[.int .i64 K, .string S, u] 32)) W) :
 W.cell? ⟨w.heap.size, 0, none⟩ = some (.int .i64 K) ∧ W.cell? ⟨w.heap.size, 1, none⟩ = some (.string S) ∧ W.cell? ⟨w.heap.size, 2, none⟩ = some u := by
 have h : ∀ m, W.cell? ⟨w.heap.size, m, none⟩ = (w.alloc (.cells #[.int .i64 K, .string S, u] 32)).cell? ⟨w.heap.size, m, none⟩ := fun m => hb.cell (p := ⟨w.heap.size, m, none⟩) (by simp)
 refine ⟨(h 0).trans ?_, (h 1).trans ?_, (h 2).trans ?_⟩ <;> simp [go_sem]
def Bytes (w : World) (B : Nat) (A : Option Addr) (zs : List Int) : Prop :=
 ∀ i z, zs[i]? = some z → ∃ a, A = some a ∧ w.cell? (a.add i) = some (.int .u8 z) ∧ 0 ≤ z ∧ z ≤ 255 ∧ a.block < B
theorem block_addD (a : Addr) (n : Nat) : (a.add n).block = a.block := by unfold Addr.add; split <;> rfl
theorem Bytes.below {w w' : World} {B : Nat} {A : Option Addr} {zs : List Int} (h : Bytes w B A zs) (hb : Below B w w') : Bytes w' B A zs := fun i z hz => by
 obtain ⟨a, e, hc, h0, h1, hl⟩ := h i z hz
 exact ⟨a, e, (hb.cell (p := a.add i) (by rw [block_addD]; exact hl)).trans hc, h0, h1, hl⟩
theorem Bytes.get {w : World} {B : Nat} {A : Option Addr} {zs : List Int} (h : Bytes w B A zs) (k : Nat) (hk : k < zs.length) : ∃ a z, A = some a ∧ w.cell? (a.add k) = some (.int .u8 z) ∧ 0 ≤ z ∧ z ≤ 255 ∧ a.block < B := by
 obtain ⟨a, e, hc, h0, h1, hl⟩ := h k zs[k] (List.getElem?_eq_getElem hk)
 exact ⟨a, zs[k], e, hc, h0, h1, hl⟩
def Cur (w : World) (g : Nat) (A : Option Addr) (n cap : Nat) : Prop :=
 ∃ (k : Nat) (h : Int), k ≤ n ∧ w.heap[g]? = some (.cells #[.slice A n cap, .int .i64 (k : Int), .int .i64 h] 80 (0, 0))
theorem mask_and (n : Int) (j : Nat) (m : Int) (hm : (BitVec.ofInt 64 m).toNat = 2 ^ j - 1) (hj : j ≤ 62) : 0 ≤ bits .and .i64 n m ∧ bits .and .i64 n m < ((2 ^ j : Nat) : Int) := by
 have key : (BitVec.ofInt 64 n &&& BitVec.ofInt 64 m).toNat = (n % ((2 ^ 64 : Nat) : Int)).toNat % 2 ^ j := by
  rw [BitVec.toNat_and, BitVec.toNat_ofInt, hm, Nat.and_two_pow_sub_one_eq_mod]
 have e : bits .and .i64 n m = IntKind.i64.wrap ((BitVec.ofInt 64 n &&& BitVec.ofInt 64 m).toNat : Nat) := rfl
 have hlt := Nat.mod_lt (n % ((2 ^ 64 : Nat) : Int)).toNat (Nat.two_pow_pos j)
 have hp : 2 ^ j ≤ 2 ^ 62 := Nat.pow_le_pow_right (by decide) hj
 have e62 : (2 : Nat) ^ 62 = 4611686018427387904 := by decide
 rw [e, key, IntKind.wrap_i64]
 generalize (n % ((2 ^ 64 : Nat) : Int)).toNat % 2 ^ j = r at *
 generalize 2 ^ j = M at *
 omega
theorem and255 (n : Int) : 0 ≤ bits .and .i64 n 255 ∧ bits .and .i64 n 255 ≤ 255 := by
 have h := mask_and n 8 255 (by decide) (by decide)
 have e : ((2 ^ 8 : Nat) : Int) = 256 := by decide
 rw [e] at h
 omega
def NewPost (B : Nat) (A : Option Addr) (n cap : Nat) (w : World) (e : Ending) (w' : World) : Prop :=
 ∃ g, e = .returned (.pointer (some ⟨g, 0, none⟩)) ∧ Cur w' g A n cap ∧ B ≤ g ∧ Below B w w'
theorem new_any (B : Nat) (A : Option Addr) (zs : List Int) (cap : Nat) (w : World) (hs : Bytes w B A zs) (hB : B ≤ w.heap.size) (hn : zs.length ≤ 1048576) :
 Calls Tryz.prog 22 #[.slice A zs.length cap] w (NewPost B A zs.length cap w) := by
 obtain ⟨n, hnn⟩ : ∃ n, n = zs.length := ⟨_, rfl⟩
 have HN := zH hnn
 have HS := zH hs
 rw [← hnn]
 rw [← hnn] at hn
 have HB := zH hB
 clear hs hnn hB
 go_enter Tryz.func22, Tryz.ntmps22
 go_wp2
 go_loop [3, 4] (fun h i => ∃ (k : Nat) (hh : Int), k ≤ n ∧ i = .int .i64 (k : Int) ∧ h = .int .i64 hh) (fun _ i => n - (intOf i).toNat)
 case atStart => exact ⟨0, _, Nat.zero_le _, rfl, rfl⟩
 case round =>
  obtain ⟨k, hh, hk, rfl, rfl⟩ := hrel
  have HP := zH (fun (h : Int) => show NewPost B A n cap w (.returned (.pointer (some ⟨w.heap.size, 0, none⟩))) (w.alloc (.cells #[.slice A n cap, .int .i64 0, .int .i64 h] 80)) from
   ⟨w.heap.size, rfl, ⟨0, h, Nat.zero_le _, heap_alloc_new w _⟩, HB.out, (wB B w).alloc HB.out _⟩)
  by_cases hlt : k < n
  · by_cases h4 : (k : Int) < 4000
    · obtain ⟨a, z, rfl, hc, hz0, hz1, -⟩ := HS.out.get k (by rw [← HN.out]; exact hlt)
      go_wp2
      go_round
      case rel => exact ⟨k + 1, _, by omega, by go_num, rfl⟩
      case measure => simp [intOf]; omega
    go_wp2
    go_ret
    exact HP.out _
  go_wp2
  go_ret
  exact HP.out _
def Only (g : Nat) (w w' : World) : Prop := w.grownBy w' (some g)
theorem Only.refl (g : Nat) (w : World) : Only g w w := World.grownBy.refl w _
theorem Only.trans {g : Nat} {a b c : World} (h : Only g a b) (k : Only g b c) : Only g a c :=
 ⟨k.os.trans h.os, k.tape.trans h.tape, k.output.trans h.output, nT h.size k.size, fun i hi hn => (k.block i (nL hi h.size) hn).trans (h.block i hi hn)⟩
theorem Only.drewN {g : Nat} {a b : World} (h : Only g a b) (n : Nat) : Only g a (b.drewN n) := ⟨h.os, h.tape, h.output, h.size, h.block⟩
theorem Only.set_ {g : Nat} {a w : World} (h : Only g a w) (k : Nat) (u : Value) : Only g a (w.setCell ⟨g, k, none⟩ u) :=
 ⟨h.os, h.tape, h.output, by simpa [World.setCell] using h.size, fun i hi hne => (Below.heap_setCell w ⟨g, k, none⟩ u i (fun e => hne (by rw [e]))).trans (h.block i hi hne)⟩
theorem Only.below {g B : Nat} {a b : World} (h : Only g a b) (hg : B ≤ g) (hB : B ≤ a.heap.size) : Below B a b :=
 ⟨h.os, h.tape, h.output, h.size, fun k hk => h.block k (nL hk hB) (fun e => by have := Option.some.inj e; omega)⟩
theorem Cur.lt {w : World} {g n cap : Nat} {A : Option Addr} (h : Cur w g A n cap) : g < w.heap.size := by
 obtain ⟨k, x, -, hr⟩ := h
 rcases Nat.lt_or_ge g w.heap.size with h' | h'
 · exact h'
 rw [Array.getElem?_eq_none h'] at hr; cases hr
theorem Bytes.only {w w' : World} {B g : Nat} {A : Option Addr} {zs : List Int} (h : Bytes w B A zs) (ho : Only g w w') (hg : B ≤ g) (hB : B ≤ w.heap.size) : Bytes w' B A zs := h.below (ho.below hg hB)
def BytePost (g : Nat) (A : Option Addr) (n cap : Nat) (w : World) (e : Ending) (w' : World) : Prop :=
 ∃ x : Int, e = .returned (.int .i64 x) ∧ 0 ≤ x ∧ x ≤ 255 ∧ Cur w' g A n cap ∧ Only g w w'
theorem row_set {w : World} {g : Nat} {cs : Array Value} {t : TypeId} (h : w.heap[g]? = some (.cells cs t (0, 0))) (i : Nat) (u : Value) : (w.setCell ⟨g, i, none⟩ u).heap[g]? = some (.cells (cs.setIfInBounds i u) t (0, 0)) := by
 simp [World.setCell, Array.getElem?_modify, h]
theorem byte_end {g k n cap : Nat} {A : Option Addr} {h : Int} {w W : World} (hrow : W.heap[g]? = some (.cells #[.slice A n cap, .int .i64 (k : Int), .int .i64 h] 80 (0, 0))) (hb : Only g w W) (hlt : k < n) (y : Int) :
 BytePost g A n cap w (.returned (.int .i64 (bits BinOp.and IntKind.i64 y 255))) (W.setCell ⟨g, 1, none⟩ (.int .i64 ((k : Int) + 1))) := by
 refine ⟨_, rfl, (and255 y).1, (and255 y).2, ⟨k + 1, h, hlt, ?_⟩, hb.set_ 1 _⟩
 have h2 := row_set hrow 1 (.int .i64 ((k : Int) + 1))
 simpa using h2
theorem byte_any (B g : Nat) (A : Option Addr) (zs : List Int) (cap : Nat) (w : World) (hs : Bytes w B A zs) (hg : B ≤ g) (hc : Cur w g A zs.length cap) (hn : zs.length ≤ 1048576) :
 Calls Tryz.prog 67 #[.pointer (some ⟨g, 0, none⟩)] w (BytePost g A zs.length cap w) := by
 obtain ⟨n, hnn⟩ : ∃ n, n = zs.length := ⟨_, rfl⟩
 rw [← hnn]
 rw [← hnn] at hn hc
 have hlt0 := hc.lt
 obtain ⟨k, h, hk, hrow⟩ := hc
 have hc2 : w.cell? ⟨g, 2, none⟩ = some (.int .i64 h) := cell_of_row w g 2 _ 80 (0, 0) hrow
 have hf2 : w.frozen? ⟨g, 2, none⟩ = false := by simp [World.frozen?, hrow]
 have HN := zH hnn
 have HROW := zH hrow
 have HS := zH hs
 have HG := zH hg
 have HBS := zH (nT hg (Nat.le_of_lt hlt0))
 clear hs hnn hrow hg hlt0
 go_enter Tryz.func67, Tryz.ntmps67
 go_wp2
 generalize wrap64 (h * 6364136223846793005) = m1
 generalize wrap64 (m1 + 1442695040888963407) = h1
 have hrow1 := row_set HROW.out 2 (.int .i64 h1)
 have hb1 : Only g w (w.setCell ⟨g, 2, none⟩ (.int .i64 h1)) := (Only.refl g w).set_ 2 _
 have hs1 := HS.out.only hb1 HG.out HBS.out
 clear hc2 hf2
 generalize w.setCell ⟨g, 2, none⟩ (.int .i64 h1) = W1 at *
 simp only [sJ, uJ, tJ] at hrow1
 have c0 : W1.cell? ⟨g, 0, none⟩ = some (.slice A n cap) := cell_of_row W1 g 0 _ 80 (0, 0) hrow1
 have c1 : W1.cell? ⟨g, 1, none⟩ = some (.int .i64 (k : Int)) := cell_of_row W1 g 1 _ 80 (0, 0) hrow1
 have c2 : W1.cell? ⟨g, 2, none⟩ = some (.int .i64 h1) := cell_of_row W1 g 2 _ 80 (0, 0) hrow1
 have f1 : W1.frozen? ⟨g, 1, none⟩ = false := by simp [World.frozen?, hrow1]
 have HROW1 := zH hrow1
 have HB1 := zH hb1
 have HS1 := zH hs1
 clear hrow1 hb1 hs1
 go_quiet (fail)
 go_wp2
 obtain ⟨x0, x1⟩ := and255 (bits BinOp.xor IntKind.i64 (h1 / 8589934592) (h1 / 35184372088832))
 generalize bits BinOp.and IntKind.i64 (bits BinOp.xor IntKind.i64 (h1 / 8589934592) (h1 / 35184372088832)) 255 = x at *
 generalize bits BinOp.xor IntKind.i64 (h1 / 8589934592) (h1 / 35184372088832) = y1
 generalize h1 / 8589934592 = y2
 generalize h1 / 35184372088832 = y3
 by_cases hlt : k < n
 · obtain ⟨a, z, rfl, hcz, hz0, hz1, -⟩ := HS1.out.get k (by rw [← HN.out]; exact hlt)
   have hk0 : 0 ≤ (k : Int) := by omega
   have hkn : (k : Int) < (n : Int) := by omega
   go_quiet (fail)
   go_wp2
   go_quiet (fail)
   go_wp2
   go_ret
   refine byte_end (h := h1) ?_ ?_ hlt (x + z)
   · exact HROW1.out
   exact HB1.out.drewN _
 go_quiet (fail)
 go_wp2
 go_ret
 exact ⟨x, rfl, x0, x1, ⟨k, h1, hk, HROW1.out⟩, (HB1.out.drewN _).drewN _⟩
def NumPost (lim : Int) (g : Nat) (A : Option Addr) (n cap : Nat) (w : World) (e : Ending) (w' : World) : Prop :=
 ∃ x : Int, e = .returned (.int .i64 x) ∧ 0 ≤ x ∧ x < lim ∧ Cur w' g A n cap ∧ Only g w w'
theorem below_small (B g : Nat) (A : Option Addr) (zs : List Int) (cap : Nat) (lim : Int) (w : World) (hs : Bytes w B A zs) (hg : B ≤ g) (hc : Cur w g A zs.length cap) (hn : zs.length ≤ 1048576) (h0 : 1 ≤ lim) (h1 : lim ≤ 256) :
 Calls Tryz.prog 47 #[.pointer (some ⟨g, 0, none⟩), .int .i64 lim] w (NumPost lim g A zs.length cap w) := by
 have HA := zH (byte_any B g A zs cap w hs hg hc hn)
 clear hs hg hc hn
 go_enter Tryz.func47, Tryz.ntmps47
 go_wp2_with (go_at_call 67; refine HA.out.mono ?_; rintro e w1 ⟨x, rfl, x0, x1, hc1, hb1⟩)
 go_ret
 exact ⟨x % lim, rfl, Int.emod_nonneg _ (by omega), Int.emod_lt_of_pos _ (by omega), hc1, hb1⟩
theorem Cur.alloc {w : World} {g n cap : Nat} {A : Option Addr} (h : Cur w g A n cap) (o : Obj) : Cur (w.alloc o) g A n cap := by
 have hl := h.lt
 obtain ⟨k, x, hk, hr⟩ := h
 exact ⟨k, x, hk, (Below.heap_alloc w o g hl).trans hr⟩
theorem Bytes.alloc {w : World} {B : Nat} {A : Option Addr} {zs : List Int} (h : Bytes w B A zs) (hB : B ≤ w.heap.size) (o : Obj) : Bytes (w.alloc o) B A zs := h.below ((wB B w).alloc hB o)
def Row (w : World) (b : Nat) (t : TypeId) (cs : List Value) : Prop := w.heap[b]? = some (.cells cs.toArray t (0, 0))
theorem Row.new (w : World) (t : TypeId) (cs : List Value) : Row (w.alloc (.cells cs.toArray t)) w.heap.size t cs := heap_alloc_new w _
theorem Row.lt {w : World} {b : Nat} {t : TypeId} {cs : List Value} (h : Row w b t cs) : b < w.heap.size := by
 rcases Nat.lt_or_ge b w.heap.size with h' | h'
 · exact h'
 unfold Row at h; rw [Array.getElem?_eq_none h'] at h; cases h
theorem Row.only {w w' : World} {b g : Nat} {t : TypeId} {cs : List Value} (h : Row w b t cs) (ho : Only g w w') (hne : b ≠ g) : Row w' b t cs :=
 (ho.block b h.lt (fun e => hne (Option.some.inj e))).trans h
theorem Row.cell {w : World} {b : Nat} {t : TypeId} {cs : List Value} (h : Row w b t cs) (i : Nat) (v : Value) (hv : cs[i]? = some v) : w.cell? ⟨b, i, none⟩ = some v := by
 rw [cell_of_row w b i cs.toArray t (0, 0) h]; simpa using hv
theorem Only.alloc {g : Nat} {a w : World} (h : Only g a w) (o : Obj) : Only g a (w.alloc o) :=
 ⟨h.os, h.tape, h.output, nT h.size (by simp), fun i hi hne => (Below.heap_alloc w o i (nL hi h.size)).trans (h.block i hi hne)⟩
def PickPost (ss : List ByteArray) (g : Nat) (A : Option Addr) (n cap : Nat) (w : World) (e : Ending) (w' : World) : Prop :=
 ∃ x, x ∈ ss ∧ e = .returned (.string x) ∧ Cur w' g A n cap ∧ Only g w w'
theorem pick_any (B g b : Nat) (A : Option Addr) (zs : List Int) (cap c2 : Nat) (ss : List ByteArray) (w : World) (hs : Bytes w B A zs) (hg : B ≤ g) (hc : Cur w g A zs.length cap) (hn : zs.length ≤ 1048576) (hr : Row w b 9 (ss.map Value.string)) (hne : b ≠ g) (h0 : 1 ≤ ss.length) (h1 : ss.length ≤ 256) :
 Calls Tryz.prog 39 #[.pointer (some ⟨g, 0, none⟩), .slice (some ⟨b, 0, none⟩) ss.length c2] w (PickPost ss g A zs.length cap w) := by
 have HA := zH (below_small B g A zs cap (ss.length : Int) w hs hg hc hn (by omega) (by omega))
 have HC := zH (fun (W : World) (ho : Only g w W) (j : Nat) (hj : j < ss.length) => (hr.only ho hne).cell j (.string ss[j]) (by rw [List.getElem?_map, List.getElem?_eq_getElem hj]; rfl))
 have hl : ss.length ≤ 9223372036854775807 := by omega
 clear hs hg hc hn hr hne
 go_enter Tryz.func39, Tryz.ntmps39
 go_wp2_with fail
 go_at_call 47
 refine HA.out.mono ?_
 rintro e w1 ⟨x, rfl, x0, x1, hc1, ho1⟩
 obtain ⟨j, rfl⟩ : ∃ j : Nat, x = (j : Int) := ⟨x.toNat, by omega⟩
 have hj : j < ss.length := by omega
 have hcell := HC.out w1 ho1 j hj
 go_wp2
 go_ret
 exact ⟨ss[j], List.getElem_mem hj, rfl, hc1, ho1⟩
def OncePost (g : Nat) (A : Option Addr) (n cap : Nat) (w : World) (e : Ending) (w' : World) : Prop :=
 ∃ x : Bool, e = .returned (.bool x) ∧ Cur w' g A n cap ∧ Only g w w'
theorem once_any (B g : Nat) (A : Option Addr) (zs : List Int) (cap : Nat) (lim : Int) (w : World) (hs : Bytes w B A zs) (hg : B ≤ g) (hc : Cur w g A zs.length cap) (hn : zs.length ≤ 1048576) (h0 : 1 ≤ lim) (h1 : lim ≤ 256) :
 Calls Tryz.prog 35 #[.pointer (some ⟨g, 0, none⟩), .int .i64 lim] w (OncePost g A zs.length cap w) := by
 have HA := zH (below_small B g A zs cap lim w hs hg hc hn h0 h1)
 clear hs hg hc hn h0 h1
 go_enter Tryz.func35, Tryz.ntmps35
 go_wp2_with (go_at_call 47; refine HA.out.mono ?_; rintro e w1 ⟨x, rfl, x0, x1, hc1, ho1⟩)
 go_ret
 exact ⟨x == 0, by simp, hc1, ho1⟩
end Go.Proofs.YtiaknfnhmoinpaaGreat
