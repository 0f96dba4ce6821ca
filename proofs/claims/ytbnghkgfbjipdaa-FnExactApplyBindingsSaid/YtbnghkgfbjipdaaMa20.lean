/- The contract of the library's slices.Collect over what hands out expressions: a row of the call's own. Condition: fewer than 2^40 of them. As the contract of slices.Backward over a slice of expressions, and the blocks of what it hands out are told apart. No condition. As NodesKit, where one block of the expression lies among the iterator's own. Condition: fewer than 2^40 nodes. As BackK, where what is read lies below what the rounds may turn. No condition. -/
import Derived.Test.YtbnghkgfbjipdaaMa19
import Derived.Test.YtbnghkgfbjipdaaMa01
import Derived.Test.YtbnghkgfbjipdaaMa14
import Derived.Test.YtbnghkgfbjipdaaMa15
namespace Go.Proofs.Ytbnghkgfbjipdaa
open Go Go.RowKit Go.Shelf
attribute [local go_sem] Oper.semAt_some

def cellsOf : Value → List Value
  | .agg cs => cs.toList
  | _ => []
/-- What has come so far. -/
def ColI {α : Type} (enc : α → Value) (B n₀ : Nat) (xs : List α) (Fp : List Nat) (W : World) : Prop :=
  ∃ (AO : Option Addr) (co : Nat), Fp = B :: (Value.ownBlock (.slice AO xs.length co)).toList ∧ Boxed W B 24 (.slice AO xs.length co) ∧ W.ownsRow n₀ 26 3 (.slice AO xs.length co) xs.length (xs.flatMap (fun x => cellsOf (enc x)))
theorem col_foot {α : Type} (enc : α → Value) (B n₀ : Nat) (xs : List α) : Foot (ColI enc B n₀ xs) := by
  rintro Fp X Y ⟨AO, co, rfl, h1, h2⟩ _ hk
  exact ⟨AO, co, rfl, box_on h1 (hk _ (by simp)), row_on h2 (fun j hj => hk _ (by simp [hj]))⟩
/-- The next one lies in a box of its own. -/
def Coled {α : Type} (I : List α → List Nat → World → Prop) (enc : α → Value) (tm : Nat → α → Array Value) (ks : List α) (x : α) (a : Act) (Fp : List Nat) (X : World) : Prop := ∃ nb Fp0, Fp = nb :: Fp0 ∧ X.heap[nb]? = some (.cells (cellsOf (enc x)).toArray 26 (0, 0)) ∧ nb ∉ Fp0 ∧ I ks Fp0 X ∧ a = { tmps := tm nb x, defers := [] }
theorem coled_foot {α : Type} {I : List α → List Nat → World → Prop} (hI : ∀ ks, Foot (I ks)) {enc : α → Value} (tm : Nat → α → Array Value) (ks : List α) (x : α) (a : Act) : Foot (Coled I enc tm ks x a) := by
  rintro Fp X Y ⟨nb, Fp0, rfl, h1, h2, h3, h4⟩ hs hk
  exact ⟨nb, Fp0, rfl, (hk nb (by simp)).trans h1, h2, hI ks Fp0 X Y h3 hs (fun k h => hk k (by simp [h])), h4⟩
theorem coled_new {α : Type} {I : List α → List Nat → World → Prop} {enc : α → Value} (hI : ∀ ks, Foot (I ks)) {tm : Nat → α → Array Value} {ks : List α} {x : α} {Fp : List Nat} {X : World} {kk : Int} {ss : ByteArray} {A : Option Addr} {q c : Nat} (h : I ks Fp X) (hFp : ∀ k ∈ Fp, k < X.heap.size) (hu : enc x = .agg #[.int .i64 kk, .string ss, .slice A q c]) {a : Act} (ha : a = { tmps := tm X.heap.size x, defers := [] }) :
    Fr Fp X (X.alloc (.cells #[.int .i64 kk, .string ss, .slice A q c] 26)) ∧ (∀ k ∈ X.heap.size :: Fp, (k ∈ Fp ∨ X.heap.size ≤ k) ∧ k < (X.alloc (.cells #[.int .i64 kk, .string ss, .slice A q c] 26)).heap.size) ∧ Coled I enc tm ks x a (X.heap.size :: Fp) (X.alloc (.cells #[.int .i64 kk, .string ss, .slice A q c] 26)) := by
  refine ⟨Fr.alloc _ _, fun k hk => ?_, X.heap.size, Fp, rfl, by rw [hu]; exact World.alloc_heap_new X _, fun hm => by have := hFp _ hm; omega, hI ks Fp X _ h (by simp) (fun k hk => Below.heap_alloc X _ k (hFp k hk)), ha⟩
  rcases List.mem_cons.1 hk with rfl | hk
  · exact ⟨Or.inr (Nat.le_refl _), by simp⟩
  · exact ⟨Or.inl hk, by have := hFp k hk; simp; omega⟩
theorem col_step {α : Type} {enc : α → Value} {pre : List α} {x : α} {B n₀ pb co q c : Nat} {AO A : Option Addr} {kk : Int} {ss : ByteArray} {X Y : World} (h : PushEnd n₀ B pre.length (.slice AO pre.length co) (pre.flatMap (fun x => cellsOf (enc x))) [.int .i64 kk, .string ss, .slice A q c] X Y) (hu : enc x = .agg #[.int .i64 kk, .string ss, .slice A q c]) :
    ∃ Fp2, Fr (pb :: B :: (Value.ownBlock (.slice AO pre.length co)).toList) X Y ∧ (∀ k ∈ Fp2, (k ∈ pb :: B :: (Value.ownBlock (.slice AO pre.length co)).toList ∨ X.heap.size ≤ k) ∧ k < Y.heap.size) ∧ ColI enc B n₀ (pre ++ [x]) Fp2 Y := by
  obtain ⟨g2, cap2, h1, h2, h3, h4, h5⟩ := h
  have hx : cellsOf (enc x) = [.int .i64 kk, .string ss, .slice A q c] := by rw [hu]; rfl
  refine ⟨[B, g2], h3.mono (fun k hk => Or.inl (List.mem_cons_of_mem _ hk)), fun k hk => ?_, some ⟨g2, 0, none⟩, cap2, by simp [Value.ownBlock], by simpa using h1, ?_⟩
  · simp at hk
    rcases hk with rfl | rfl
    · exact ⟨Or.inl (by simp), h1.lt⟩
    · exact ⟨h4.imp (fun e => by simp [e]) id, h5⟩
  · rw [List.flatMap_append, List.flatMap_cons, List.flatMap_nil, List.append_nil, hx, List.length_append]
    exact h2
set_option maxRecDepth 100000 in
set_option maxHeartbeats 2000000 in
theorem appendSeq_in (F : Fence) (n : Nat) (hFw : F = Fence.wide) (hro : F.round = none) (hF : ∀ k, F.fn k) (hn : 2 ≤ n) {α : Type} (enc : α → Value) (henc : ∀ x, ExV (enc x)) (gf : Nat) (lb : Array Value) (n₀ N : Nat) (S Sp : List α → Prop) (M0 : List Nat) (w : World) (eg : ∀ args w, (callFunc gf args).run Try.prog w = .ok (.enter gf args) w)
    (hseq : SeqF F (n - 1) Try.prog gf lb (fun x => #[enc x]) n₀ S Sp N M0 w) (hn0 : n₀ ≤ w.heap.size) (hM0 : ∀ k ∈ M0, n₀ ≤ k ∧ k < w.heap.size) (hN : N ≤ 1099511627776) :
    CallsIn F n Try.prog 130 #[.slice none 0 0, .func (.func gf) #[] lb] w (fun r w2 => ∃ xs AO co, S xs ∧ r = .returned (.slice AO xs.length co) ∧ w2.ownsRow w.heap.size 26 3 (.slice AO xs.length co) xs.length (xs.flatMap (fun x => cellsOf (enc x))) ∧ Fr M0 w w2) := by
  have h1 : 1 ≤ n := by omega
  refine callsIn_of_wp_marks Try.func130 rfl (hF _) ?_ hro
  simp only [Try.ntmps130, List.size_toArray, List.length_cons, List.length_nil, Nat.reduceAdd, Nat.reduceSub, Array.replicate_succ, Array.replicate_zero, List.push_toArray, List.append_toArray, List.nil_append, List.cons_append]
  gi_wp2
  obtain ⟨W0, hW0⟩ : ∃ W, W = w.alloc (.cells #[.slice none 0 0] 24) := ⟨_, rfl⟩
  rw [← hW0]
  have HX := Lib.hid (show Below w.heap.size w W0 ∧ W0.heap.size = w.heap.size + 1 ∧ Boxed W0 w.heap.size 24 (.slice none 0 0) from by
    rw [hW0]; exact ⟨(Below.refl _ w).alloc (Nat.le_refl _) _, by simp, Boxed.new w _ _⟩)
  have HFW := Lib.hid hFw
  have HN := Lib.hid hN
  have HM0 := Lib.hid hM0
  clear hW0 hFw hN
  have hx1 := HX.out.2.1
  refine wpIn_rangeFunc_frame hro h1 (gf := gf) (lb := lb) rfl (hF _) eg hseq HX.out.1 (by omega) (fun k hk => ⟨(hM0 k hk).1, by have := (hM0 k hk).2; omega⟩) (fun _ => rfl)
    (ColI enc w.heap.size w.heap.size) (fun _ _ _ _ => False) (col_foot enc _ _) (fun _ _ _ _ _ h _ _ => h) [w.heap.size] (fun k hk => by simp at hk; subst hk; exact ⟨hn0, by omega, fun h => by have := (hM0 _ h).2; omega⟩) ⟨none, 0, rfl, HX.out.2.2, World.ownsRow_nil _ _ _ _⟩
    (Coled (ColI enc w.heap.size w.heap.size) enc (fun pb x => #[.slice none 0 0, .func (.func gf) #[] lb, .pointer (some ⟨w.heap.size, 0, none⟩), undef, .slice none 0 0, .pointer (some ⟨pb, 0, none⟩), .func (.func gf) #[] lb, enc x, undef, undef, undef, undef, undef, undef, undef])) (coled_foot (col_foot enc _ _) _) ?assign ?body ?done ?stop
  case assign =>
    intro l pre x Fp X KX hI hFp hFr hK
    obtain ⟨kk, ss, A2, q2, c2, hv⟩ := henc x
    have HI2 := Lib.hid hI
    have HV2 := Lib.hid hv
    have HFP := Lib.hid hFp
    have HKX := Lib.hid hK
    dsimp only
    rw [hv]
    clear hv hI hFp hFr hK
    gi_wp2
    obtain ⟨q1, q3, q4⟩ := coled_new (col_foot enc _ _) (tm := (fun pb x => #[.slice none 0 0, .func (.func gf) #[] lb, .pointer (some ⟨w.heap.size, 0, none⟩), undef, .slice none 0 0, .pointer (some ⟨pb, 0, none⟩), .func (.func gf) #[] lb, enc x, undef, undef, undef, undef, undef, undef, undef])) HI2.out (fun k hk => (HFP.out k hk).2) HV2.out rfl
    refine HKX.out _ _ _ q1 q3 ?_
    exact (by simpa only [HV2.out] using q4)
  case body =>
    rintro l pre x _ Fp X ⟨pb, _, rfl, hpb, hnb, ⟨AO, co, rfl, hB, hR⟩, rfl⟩ hFp hFr hlen
    obtain ⟨kk, ss, A2, q2, c2, hv⟩ := henc x
    have HFP := Lib.hid hFp
    have HFR := Lib.hid hFr
    have HV := Lib.hid hv
    have hpb2 : X.heap[pb]? = some (.cells #[.int .i64 kk, .string ss, .slice A2 q2 c2] 26 (0, 0)) := by rw [hv] at hpb; exact hpb
    have HPB := Lib.hid hpb2
    have HB := Lib.hid hB
    have HR := Lib.hid hR
    have HNB := Lib.hid hnb
    have HLE := Lib.hid (show pre.length ≤ 1099511627776 by have := HN.out; omega)
    clear hpb hpb2 hB hR hFp hFr hnb hv hlen
    have hfw := HFW.out
    subst hfw
    gi_wp2
    refine region_round (R := PushEnd w.heap.size w.heap.size pre.length (.slice AO pre.length co) (pre.flatMap (fun x => cellsOf (enc x))) [.int .i64 kk, .string ss, .slice A2 q2 c2] X) (by kernel_rfl) (all_not (by rfl))
      (pushC_any "iter.go:52" [] w.heap.size w.heap.size pb pre.length co q2 c2 AO A2 kk ss (pre.flatMap (fun x => cellsOf (enc x))) X _ _ _ _ _ _ _ _ _ _ _ _ _
        HB.out HR.out ⟨fun e => HNB.out (by simp [e]), fun e => HNB.out (by simp [e])⟩ HPB.out (by have := HFR.out.size; omega) HLE.out (fun Y hY => hY)) (fun _ Y hY => ?_)
    exact col_step hY HV.out
  case done =>
    rintro D ks Fp X hD hDF hFl hS2 ⟨AO, co, rfl, hB, hR⟩ hFr hK
    have hc := hB.cell
    have HRR := Lib.hid (show ∀ o, (X.putObj D o).ownsRow w.heap.size 26 3 (.slice AO ks.length co) ks.length (ks.flatMap (fun x => cellsOf (enc x))) from fun o => row_on hR (fun j hj => World.putObj_heap_other (fun e => hDF (by rw [← e]; simp [hj]))))
    have HFF := Lib.hid (show ∀ o, Fr M0 w (X.putObj D o) from fun o => (((Fr.of_below HX.out.1).trans hFr (fun x hx => by
      rcases List.mem_append.1 hx with h | h
      · simp at h; exact Or.inr (by omega)
      · exact Or.inl h)).trans (Fr.put (S := [D]) X D o (by simp)) (fun x hx => by simp at hx; exact Or.inr (by omega))))
    have HK := Lib.hid hK
    have HS2 := Lib.hid hS2
    clear hB hR hFr hK hDF hFl hS2
    gi_wp2
    refine ⟨by simp, .inl ⟨_, _, rfl, run_takeDeferred HK.out, ?_⟩⟩
    exact ⟨_, results_tmp rfl _ _ _, ks, AO, co, HS2.out, rfl, HRR.out _, HFF.out _⟩
  case stop =>
    rintro D c pre Fp X _ _ _ _ h _ _
    exact h.elim
set_option maxHeartbeats 1000000 in
theorem collect_in (F : Fence) (n : Nat) (hFw : F = Fence.wide) (hro : F.round = none) (hF : ∀ k, F.fn k) (hn : 3 ≤ n) {α : Type} (enc : α → Value) (henc : ∀ x, ExV (enc x)) (gf : Nat) (lb : Array Value) (n₀ N : Nat) (S Sp : List α → Prop) (M0 : List Nat) (w : World) (eg : ∀ args w, (callFunc gf args).run Try.prog w = .ok (.enter gf args) w)
    (hseq : SeqF F (n - 1 - 1) Try.prog gf lb (fun x => #[enc x]) n₀ S Sp N M0 w) (hn0 : n₀ ≤ w.heap.size) (hM0 : ∀ k ∈ M0, n₀ ≤ k ∧ k < w.heap.size) (hN : N ≤ 1099511627776) :
    CallsIn F n Try.prog 117 #[.func (.func gf) #[] lb] w (fun r w2 => ∃ xs AO co, S xs ∧ r = .returned (.slice AO xs.length co) ∧ w2.ownsRow w.heap.size 26 3 (.slice AO xs.length co) xs.length (xs.flatMap (fun x => cellsOf (enc x))) ∧ Fr M0 w w2) := by
  have HA := Lib.hid (appendSeq_in F (n - 1) hFw hro hF (by omega) enc henc gf lb n₀ N S Sp M0 w eg hseq hn0 hM0 hN)
  clear hseq henc hM0 eg hFw
  have h1 : 1 ≤ n := by omega
  refine callsIn_of_wp Try.func117 rfl (hF _) ?_ hro
  simp only [Try.ntmps117, List.size_toArray, List.length_cons, List.length_nil, Nat.reduceAdd, Nat.reduceSub, Array.replicate_succ, Array.replicate_zero, List.push_toArray, List.append_toArray, List.nil_append, List.cons_append]
  gi_wp2_with (gi_at_call 130; refine HA.out.mono ?_; rintro r w4 ⟨xs, AO, co, h1, rfl, h3, h4⟩; have HH := Lib.hid (And.intro h1 (And.intro h3 h4)); clear h1 h3 h4)
  go_ret
  exact ⟨xs, AO, co, HH.out.1, rfl, HH.out.2.1, HH.out.2.2⟩
end Go.Proofs.Ytbnghkgfbjipdaa

namespace Go.Proofs.Ytbnghkgfbjipdaa
open Go Go.RowKit Go.Shelf
attribute [local go_sem] Oper.semAt_some

theorem exsAt_snoc {w : World} {g o : Nat} (e : Ex) : ∀ (l : List Ex) (j : Nat) (bs : List Nat), ExsAt w g o j (l ++ [e]) bs → ∃ b1 b2, bs = b1 ++ b2 ∧ ExsAt w g o j l b1 ∧ ExAt w g (o + (j + l.length) * 3) e b2 := by
  intro l
  induction l with
  | nil =>
    intro j bs h
    rw [List.nil_append, ExsAt] at h
    obtain ⟨b1, b2, rfl, h1, h2⟩ := h
    rw [ExsAt] at h2
    subst h2
    exact ⟨[], b1, by simp, by rw [ExsAt], h1⟩
  | cons x r ih =>
    intro j bs h
    rw [List.cons_append, ExsAt] at h
    obtain ⟨b1, b2, rfl, h1, h2⟩ := h
    obtain ⟨b3, b4, rfl, h3, h4⟩ := ih (j + 1) b2 h2
    refine ⟨b1 ++ b3, b4, by simp, by rw [ExsAt]; exact ⟨b1, b3, rfl, h1, h3⟩, ?_⟩
    rw [show j + (x :: r).length = j + 1 + r.length by simp; omega]
    exact h4
def It.bs {wo : World} (x : It wo) : List Nat := x.1.2.2.2
/-- The blocks of what was handed out, and of what is still to come. -/
def KidI (wo : World) (A : Option Addr) (L : List Ex) (bs : List Nat) (k : Nat) (pre : List (It wo)) : Prop :=
  (L = [] ∧ bs = [] ∧ pre = []) ∨ ∃ g o fr, A = some ⟨g, o, none⟩ ∧ g < wo.heap.size ∧ ExsAt wo g o 0 (L.take k) fr ∧ bs = g :: (fr ++ pre.reverse.flatMap It.bs)
/-- The blocks of all of xs, last first, behind the block in which they stand. -/
def KidB {wo : World} (bs : List Nat) (xs : List (It wo)) : Prop := (xs = [] ∧ bs = []) ∨ ∃ g, bs = g :: xs.reverse.flatMap It.bs
theorem kid_start {wo : World} {A : Option Addr} {m c : Nat} {L : List Ex} {bs : List Nat} (h : SlIs wo (.slice A m c) L bs) (hm : m = L.length) : KidI wo A L bs m [] := by
  obtain ⟨A', c', e, h1, h2, h3⟩ := h
  cases e
  rcases h3 with ⟨rfl, rfl⟩ | ⟨g, o, bs', rfl, hg, rfl, h4⟩
  · exact Or.inl ⟨rfl, rfl, rfl⟩
  · exact Or.inr ⟨g, o, bs', rfl, hg, by rw [List.take_length]; exact h4, by simp⟩
theorem kid_get {wo : World} {A : Option Addr} {L : List Ex} {bs : List Nat} {k : Nat} {pre : List (It wo)} (h : KidI wo A L bs (k + 1) pre) (hk : k < L.length) :
    ∃ g o e u b1, A = some ⟨g, o, none⟩ ∧ g < wo.heap.size ∧ L[k]? = some e ∧ wo.cell? ⟨g, o + k * 3 + 2, none⟩ = some u ∧ ExIs wo (.agg #[.int .i64 e.kind, .string e.name, u]) e b1 ∧ (∀ x : It wo, x.bs = b1 → KidI wo A L bs k (pre ++ [x])) ∧ g ∈ bs := by
  rcases h with ⟨rfl, -, -⟩ | ⟨g, o, fr, rfl, hg, h4, rfl⟩
  · simp at hk
  · rw [List.take_succ_eq_append_getElem hk] at h4
    obtain ⟨b1, b2, rfl, h5, h6⟩ := exsAt_snoc _ _ _ _ h4
    rw [List.length_take, Nat.min_eq_left (by omega), Nat.zero_add] at h6
    obtain ⟨u, c1, c2, c3, h7⟩ := h6.is
    exact ⟨g, o, _, u, b2, rfl, hg, List.getElem?_eq_getElem hk, c3, h7, fun x hx => Or.inr ⟨g, o, b1, rfl, hg, h5, by simp [hx]⟩, by simp⟩
theorem kid_done {wo : World} {A : Option Addr} {L : List Ex} {bs : List Nat} {pre : List (It wo)} (h : KidI wo A L bs 0 pre) : KidB bs pre := by
  rcases h with ⟨-, rfl, rfl⟩ | ⟨g, o, fr, -, -, h4, rfl⟩
  · exact Or.inl ⟨rfl, rfl⟩
  · rw [List.take_zero, ExsAt] at h4
    subst h4
    exact Or.inr ⟨g, by simp⟩

set_option maxRecDepth 100000 in
set_option maxHeartbeats 2000000 in
theorem back_inK (F : Fence) (n : Nat) (hF : F.fn 129) (hro : F.round = none) (hn : 1 ≤ n) (l Bs : Nat) (wo : World) (A : Option Addr) (m c : Nat) (L : List Ex) (bs : List Nat) (hsl : SlIs wo (.slice A m c) L bs)
    (J Jx : List (It wo) → List Nat → World → Prop)
    (hY : ∀ pre x M W1, J pre M W1 → (∀ k ∈ M, k < W1.heap.size) → pre.length < L.length → YieldAt F (n - 1) Try.prog l #[.int .i64 (x.1.1 : Int), x.val] W1 fun e W2 =>
      (e = .returned (.bool true) ∧ J (pre ++ [x]) M W2 ∧ Kept wo.heap.size M W1 W2) ∨ (e = .returned (.bool false) ∧ Jx (pre ++ [x]) M W2 ∧ Kept wo.heap.size M W1 W2))
    (W : World) (hBs : W.cell? ⟨Bs, 0, none⟩ = some (.slice A m c)) (hW : Below wo.heap.size wo W) (h0 : J [] [Bs] W) :
    CallsIn F n Try.prog 129 #[.func (.yield l) #[] #[], .pointer (some ⟨Bs, 0, none⟩)] W fun e W2 => (∃ v, e = .returned v) ∧
      ((∃ (xs : List (It wo)) (M : List Nat), (xs.map It.ex = L.reverse ∧ KidB bs xs) ∧ J xs M W2) ∨ (∃ (pre : List (It wo)) (M : List Nat), True ∧ Jx pre M W2)) := by
  obtain ⟨hm, hmc, hc⟩ := hsl.len
  have hm3 : (m : Int) ≤ 9223372036854775807 := by omega
  have HS := Lib.hid hsl
  have HM := Lib.hid hm
  have HY := Lib.hid hY
  have HW := Lib.hid hW
  clear hsl hm hY hW
  refine callsIn_of_wp Try.func129 rfl hF ?_ hro
  simp only [Try.ntmps129, List.size_toArray, List.length_cons, List.length_nil, Nat.reduceAdd, Nat.reduceSub, Array.replicate_succ, Array.replicate_zero, List.push_toArray, List.append_toArray, List.nil_append, List.cons_append]
  gi_wp2
  gi_loopw [3] (fun i wr => ∃ (z : Int), i = .int .i64 z ∧ -1 ≤ z ∧ z < m ∧ Hid (∃ (k : Nat) (pre : List (It wo)), z = (k : Int) - 1 ∧ J pre [Bs] wr ∧ pre.map It.ex = (L.drop k).reverse ∧ KidI wo A L bs k pre) ∧ wr.cell? ⟨Bs, 0, none⟩ = some (.slice A m c) ∧ Hid (Below wo.heap.size wo wr))
    (fun i _ => (intOf i + 1).toNat)
  case atStart =>
    exact ⟨(m : Int) - 1, rfl, by omega, by omega, Lib.hid ⟨m, [], rfl, h0, by rw [HM.out]; simp, kid_start HS.out HM.out⟩, hBs, HW⟩
  case round =>
    obtain ⟨z, rfl, hz0, hz1, HJ, hbx, HB⟩ := hrel
    by_cases hlt : 0 ≤ z
    · obtain ⟨k1, pre, hk, hJs, hpre, hsub⟩ := HJ.out
      obtain ⟨k, rfl⟩ : ∃ k, k1 = k + 1 := ⟨k1 - 1, by omega⟩
      obtain rfl : z = (k : Int) := by omega
      have hsw : SlIs wr (.slice A m c) L bs := HS.out.below HB.out
      obtain ⟨g, o, e1, u, b1, rfl, hbl, hget, hmem, c1, c2, c3, -, -⟩ := hsw.get k (by rw [← HM.out]; omega)
      obtain ⟨g', o', e1', u', b1', hA', hbl', hget', c3', his, hsb, hgm'⟩ := kid_get hsub (by rw [← HM.out]; omega)
      obtain ⟨rfl, rfl⟩ : g = g' ∧ o = o' := by cases hA'; exact ⟨rfl, rfl⟩
      obtain rfl : e1 = e1' := by rw [hget] at hget'; cases hget'; rfl
      obtain rfl : u = u' := by
        have h := HB.out.cell (p := ⟨g, o + k * 3 + 2, none⟩) hbl'
        rw [c3, c3'] at h
        cases h; rfl
      clear c3' hget' hA' hbl' hgm'
      have hlen : pre.length < L.length := by
        have h : (pre.map It.ex).length = (L.drop (k + 1)).reverse.length := by rw [hpre]
        simp at h
        have h2 := (List.getElem?_eq_some_iff.1 hget).1
        omega
      obtain ⟨fn, tmps, assign, body, hy, hR⟩ := HY.out pre ⟨(k, e1, u, b1'), his⟩ [Bs] wr hJs (by
        intro k hk
        rw [List.mem_singleton] at hk
        subst hk
        obtain ⟨o, ho, -⟩ := cells_of_cell hbx
        exact (Array.getElem?_eq_some_iff.1 ho).1) hlen
      dsimp only [It.val] at hy
      have HPX := Lib.hid (map_push L k pre ⟨(k, e1, u, b1'), his⟩ hpre hget)
      have HSB := Lib.hid (hsb ⟨(k, e1, u, b1'), his⟩ rfl)
      have HR := Lib.hid hR
      clear hR hJs hpre hget hmem hsw hk HJ hsub hsb
      gi_wp2
      refine HR.out.mono ?_
      rintro e W3 (⟨rfl, hJ3, hk3, hkm3⟩ | ⟨rfl, hJx3, -⟩)
      · have HJ3 := Lib.hid hJ3
        have HB3 := Lib.hid (HB.out.trans hk3)
        have hbx3 : W3.cell? ⟨Bs, 0, none⟩ = some (.slice (some ⟨g, o, none⟩) m c) := (World.cell?_of_block (w := wr) (hkm3 Bs (by simp))).trans hbx
        clear hJ3 hk3 hkm3
        gi_wp2
        go_roundw
        case rel => exact ⟨(k : Int) - 1, by first | rfl | go_num, by omega, by omega, Lib.hid ⟨k, _, rfl, HJ3.out, HPX.out, HSB.out⟩, hbx3, HB3⟩
        case measure => first | (simp [intOf]; done) | (simp [intOf]; omega)
      · have HJ3 := Lib.hid hJx3
        clear hJx3
        gi_wp2
        refine bodyPost_ret (results_none rfl _ _ _) rfl ?_
        exact ⟨⟨_, rfl⟩, .inr ⟨_, _, trivial, HJ3.out⟩⟩
    · obtain rfl : z = -1 := by omega
      gi_wp2
      go_end0
      obtain ⟨k1, pre, hk, hJs, hpre, hsub⟩ := HJ.out
      obtain rfl : k1 = 0 := by omega
      exact ⟨⟨_, rfl⟩, .inl ⟨pre, ⟨by simpa using hpre, kid_done hsub⟩, _, hJs⟩⟩

end Go.Proofs.Ytbnghkgfbjipdaa

namespace Go.Proofs.Ytbnghkgfbjipdaa
open Go Go.RowKit Go.Shelf
attribute [local go_sem] Oper.semAt_some

/-- What is below n₀ is as in wo, and the block gx too. -/
structure RdG (n₀ gx : Nat) (wo W : World) : Prop where
  below : Below n₀ wo W
  at_ : W.heap[gx]? = wo.heap[gx]?
  le : n₀ ≤ wo.heap.size
theorem RdG.size {n₀ gx : Nat} {wo W : World} (h : RdG n₀ gx wo W) : wo.heap.size ≤ W.heap.size := h.below.size
theorem RdG.trans {n₀ gx : Nat} {wo A B : World} (h : RdG n₀ gx wo A) (hb : Below n₀ A B) (hg : B.heap[gx]? = A.heap[gx]?) : RdG n₀ gx wo B := ⟨h.below.trans hb, hg.trans h.at_, h.le⟩
theorem RdG.keeps {n₀ gx : Nat} {wo W : World} (h : RdG n₀ gx wo W) {bs : List Nat} (hb : ∀ z ∈ bs, z < n₀ ∨ z = gx) : Keeps wo W bs :=
  ⟨h.below.size, fun x hx _ => (hb x hx).elim (fun hl => h.below.block x hl) (fun e => by rw [e]; exact h.at_)⟩
/-- The list under way, between two rounds of the outer loop. Bg: the box of the function that tells which arguments are gone into; M0: the blocks that are the iterator's from the beginning on. -/
structure NdG (wo : World) (n₀ gx n1 N Bg : Nat) (gv : Value) (M0 : List Nat) (Inv : List (It wo) → List (It wo) → Prop) (B : Nat) (pre : List (It wo)) (st : List (It wo)) (lv : Value) (M : List Nat) (W : World) : Prop where
  inv : Inv pre st
  bnd : pre.length + (due st).length ≤ N
  box : Boxed W B 24 lv
  row : W.ownsRow n1 26 3 lv st.length (flat st)
  inB : B ∈ M
  inR : ∀ k, lv.ownBlock = some k → k ∈ M
  lt : ∀ k ∈ M, k < W.heap.size
  low : RdG n₀ gx wo W
  Bn : n1 ≤ B
  Mn : ∀ k ∈ M, n₀ ≤ k
  own : ∀ k ∈ M0, k ∈ M
  gbox : Boxed W Bg 159 gv

theorem NdG.bound {wo : World} {n₀ gx n1 N Bg : Nat} {gv : Value} {M0 : List Nat} {Inv : List (It wo) → List (It wo) → Prop} {B : Nat} {pre st : List (It wo)} {lv : Value} {M : List Nat} {W : World} (h : NdG wo n₀ gx n1 N Bg gv M0 Inv B pre st lv M W) : pre.length + (due st).length ≤ N ∧ st.length ≤ N := by
  have h1 := h.bnd
  have := due_len st
  omega
/-- The last element of the list, written out. -/
theorem NdG.top {wo : World} {n₀ gx n1 N Bg : Nat} {gv : Value} {M0 : List Nat} {Inv : List (It wo) → List (It wo) → Prop} {B : Nat} {pre st : List (It wo)} {x : It wo} {lv : Value} {M : List Nat} {W : World} (h : NdG wo n₀ gx n1 N Bg gv M0 Inv B pre (st ++ [x]) lv M W) :
    ∃ g cap, lv = .slice (some ⟨g, 0, none⟩) (st.length + 1) cap ∧ g ∈ M ∧ n1 ≤ g ∧ W.cell? ⟨g, st.length * 3, none⟩ = some (.int .i64 x.ex.kind) ∧ W.cell? ⟨g, st.length * 3 + 1, none⟩ = some (.string x.ex.name) ∧ W.cell? ⟨g, st.length * 3 + 2, none⟩ = some x.1.2.2.1 ∧ st.length + 1 ≤ cap ∧
      W.ownsRow n1 26 3 (.slice (some ⟨g, 0, none⟩) st.length cap) st.length (flat st) := by
  have hl : (st ++ [x]).length = st.length + 1 := by simp
  have hr := h.row
  rw [hl, flat_one] at hr
  obtain ⟨g, cap, rfl, h1, h2⟩ := hr.form (by simp)
  have hc : ∀ (j : Nat) (v : Value), x.cells[j]? = some v → W.cell? ⟨g, st.length * 3 + j, none⟩ = some v := by
    intro j v hj
    have hj3 : j < 3 := (List.getElem?_eq_some_iff.1 hj).1
    rw [hr.cellAt (st.length * 3 + j) (by omega), List.getElem?_append_right (by rw [flat_len]; omega), flat_len, Nat.add_sub_cancel_left]
    exact hj
  refine ⟨g, cap, rfl, h.inR g rfl, h1, hc 0 _ rfl, hc 1 _ rfl, hc 2 _ rfl, ?_, ownsRow_pop (flat_len st) hr⟩
  rcases hr.2 with ⟨h0, -⟩ | ⟨g', cap', cur, hv, -, -, hn, -⟩
  · cases h0
  · cases hv; exact hn

/-- Between the pop and the push: nb is the box of the element that was taken. -/
structure MdG (wo : World) (n₀ gx n1 Bg : Nat) (gv : Value) (M0 : List Nat) (B g cap m nb : Nat) (o : Obj) (st0 : List (It wo)) (M Ds : List Nat) (Wy : World) : Prop where
  lt : ∀ k ∈ nb :: M, k < Wy.heap.size
  box : Boxed Wy B 24 (.slice (some ⟨g, 0, none⟩) m cap)
  row : Wy.ownsRow n1 26 3 (.slice (some ⟨g, 0, none⟩) m cap) m (flat st0)
  nx : Wy.heap[nb]? = some o
  inB : B ∈ M
  inG : g ∈ M
  low : RdG n₀ gx wo Wy
  Bn : n1 ≤ B
  Mn : ∀ k ∈ nb :: M, n₀ ≤ k
  marks : Marks n1 Ds (nb :: M) Wy
  own : ∀ k ∈ M0, k ∈ nb :: M
  gbox : Boxed Wy Bg 159 gv
  gn : n1 ≤ g
  nn : n1 ≤ nb
theorem NdG.pop {wo : World} {n₀ gx n1 N Bg : Nat} {gv : Value} {M0 : List Nat} {Inv : List (It wo) → List (It wo) → Prop} {B : Nat} {pre st st0 : List (It wo)} {lv : Value} {M Ds : List Nat} {wr : World} {g m cap : Nat} (h : NdG wo n₀ gx n1 N Bg gv M0 Inv B pre st lv M wr) (hBg : Bg < n1) (hgl : gx < n1) (hnw : n1 ≤ wr.heap.size) (hr : wr.ownsRow n1 26 3 (.slice (some ⟨g, 0, none⟩) m cap) m (flat st0)) (hg : g ∈ M) (hgn : n1 ≤ g) (hm : Marks n1 Ds M wr) (o : Obj) :
    MdG wo n₀ gx n1 Bg gv M0 B g cap m wr.heap.size o st0 M Ds ((wr.setCell ⟨B, 0, none⟩ (.slice (some ⟨g, 0, none⟩) m cap)).alloc o) ∧ Fr M wr ((wr.setCell ⟨B, 0, none⟩ (.slice (some ⟨g, 0, none⟩) m cap)).alloc o) ∧ ∀ k ∈ wr.heap.size :: M, k ∈ M ∨ wr.heap.size ≤ k := by
  obtain ⟨W1, hW1⟩ : ∃ W1, W1 = wr.setCell ⟨B, 0, none⟩ (.slice (some ⟨g, 0, none⟩) m cap) := ⟨_, rfl⟩
  rw [← hW1]
  have hs1 : W1.heap.size = wr.heap.size := by rw [hW1]; simp [World.setCell]
  have ho1 : ∀ k, k ≠ B → W1.heap[k]? = wr.heap[k]? := fun k hk => by rw [hW1]; exact Below.heap_setCell _ _ _ _ hk
  have hal : ∀ k, k < W1.heap.size → (W1.alloc o).heap[k]? = W1.heap[k]? := fun k hk => Below.heap_alloc W1 o k hk
  have hf1 : Fr M wr W1 := by rw [hW1]; exact Fr.set _ _ _ h.inB
  have hf : Fr M wr (W1.alloc o) := hf1.trans (Fr.alloc (S := []) W1 o) (by simp)
  have hgB : g ≠ B := fun e => Boxed.not_row h.box (by decide) hr (by simp [Value.ownBlock, e])
  have hgl : g < wr.heap.size := h.lt g hg
  have hsz : (W1.alloc o).heap.size = wr.heap.size + 1 := by simp [hs1]
  refine ⟨⟨fun k hk => ?_, ?_, ?_, ?_, h.inB, hg, h.low.trans (hf.below ?_ (Nat.le_trans h.low.le h.low.size)) ((hal _ (by omega)).trans (ho1 _ (by have := h.Bn; omega))), h.Bn, fun k hk => ?_, ⟨hm.1, fun D hD => ⟨by simp [(hm.2 D hD).1], ?_, (hm.2 D hD).2.2⟩⟩, fun k hk => List.mem_cons_of_mem _ (h.own k hk), ?_, hgn, hnw⟩, hf, fun k hk => ?_⟩
  · rcases List.mem_cons.1 hk with rfl | hk
    · omega
    · have := h.lt k hk; omega
  · refine Boxed.alloc ?_ o
    rw [hW1]; exact h.box.set _
  · refine row_on hr (fun k hk => ?_)
    obtain rfl : g = k := by simpa [Value.ownBlock] using hk
    exact (hal _ (by omega)).trans (ho1 _ hgB)
  · rw [← hs1]; exact World.alloc_heap_new W1 o
  · exact h.Mn
  · rcases List.mem_cons.1 hk with rfl | hk
    · exact Nat.le_trans h.low.le h.low.size
    · exact h.Mn k hk
  · obtain ⟨h1, h2, -⟩ := hm.2 D hD
    have hne : D ≠ B := fun e => by
      subst e
      have hb := h.box
      unfold Boxed at hb
      rw [h2] at hb
      cases hb
    exact (hal _ (by have := h.lt D h1; omega)).trans ((ho1 _ hne).trans h2)
  · refine box_on h.gbox ((hal _ (by have := h.gbox.lt; omega)).trans (ho1 _ (by have := h.Bn; omega)))
  · rcases List.mem_cons.1 hk with rfl | hk
    · exact Or.inr (Nat.le_refl _)
    · exact Or.inl hk
theorem MdG.keep {wo : World} {n₀ gx n1 Bg : Nat} {gv : Value} {M0 : List Nat} {B g cap m nb : Nat} {o : Obj} {st0 : List (It wo)} {M Ds : List Nat} {Wy W3 : World} (h : MdG wo n₀ gx n1 Bg gv M0 B g cap m nb o st0 M Ds Wy) (hBg : Bg ∈ M0) (hq : W3.heap[gx]? = Wy.heap[gx]?) (hk : Kept n₀ (nb :: M) Wy W3) : MdG wo n₀ gx n1 Bg gv M0 B g cap m nb o st0 M Ds W3 where
  lt := fun k hm => Nat.lt_of_lt_of_le (h.lt k hm) hk.1.size
  box := box_on h.box (hk.2 _ (by simp [h.inB]))
  row := row_on h.row (fun k e => by
    obtain rfl : g = k := by simpa [Value.ownBlock] using e
    exact hk.2 _ (by simp [h.inG]))
  nx := (hk.2 _ (by simp)).trans h.nx
  inB := h.inB
  inG := h.inG
  low := h.low.trans hk.1 hq
  Bn := h.Bn
  Mn := h.Mn
  marks := ⟨h.marks.1, fun D hD => ⟨(h.marks.2 D hD).1, (hk.2 D (h.marks.2 D hD).1).trans (h.marks.2 D hD).2.1, (h.marks.2 D hD).2.2⟩⟩
  own := h.own
  gbox := box_on h.gbox (hk.2 _ (h.own _ hBg))
  gn := h.gn
  nn := h.nn

/-- The function that was asked has turned blocks of its own alone. -/
theorem MdG.asked {wo : World} {n₀ gx n1 Bg : Nat} {gv : Value} {M0 Fg : List Nat} {B g cap m nb : Nat} {o : Obj} {st0 : List (It wo)} {M Ds : List Nat} {Wy W3 : World} (h : MdG wo n₀ gx n1 Bg gv M0 B g cap m nb o st0 M Ds Wy) (hf : Fr Fg Wy W3) (hFg : ∀ k ∈ Fg, k < n1 ∧ k ≠ Bg ∧ n₀ ≤ k) (hgx : gx < wo.heap.size) (hgF : gx ∉ Fg) : MdG wo n₀ gx n1 Bg gv M0 B g cap m nb o st0 M Ds W3 where
  lt := fun k hm => Nat.lt_of_lt_of_le (h.lt k hm) hf.size
  box := box_on h.box (hf.block _ h.box.lt (fun e => by have := (hFg _ e).1; have := h.Bn; omega))
  row := row_on h.row (fun k e => by
    obtain rfl : g = k := by simpa [Value.ownBlock] using e
    exact hf.block _ (h.lt _ (by simp [h.inG])) (fun e => by have := (hFg _ e).1; have := h.gn; omega))
  nx := (hf.block _ (h.lt _ (by simp)) (fun e => by have := (hFg _ e).1; have := h.nn; omega)).trans h.nx
  inB := h.inB
  inG := h.inG
  low := h.low.trans (hf.below (fun k hk => (hFg k hk).2.2) (Nat.le_trans h.low.le h.low.size)) (hf.block _ (Nat.lt_of_lt_of_le hgx h.low.size) hgF)
  Bn := h.Bn
  Mn := h.Mn
  marks := ⟨h.marks.1, fun D hD => ⟨(h.marks.2 D hD).1, (hf.block D (h.lt D (h.marks.2 D hD).1) (fun e => by have := (hFg _ e).1; have := (h.marks.2 D hD).2.2; omega)).trans (h.marks.2 D hD).2.1, (h.marks.2 D hD).2.2⟩⟩
  own := h.own
  gbox := box_on h.gbox (hf.block _ h.gbox.lt (fun e => (hFg _ e).2.1 rfl))
  gn := h.gn
  nn := h.nn

end Go.Proofs.Ytbnghkgfbjipdaa

namespace Go.Proofs.Ytbnghkgfbjipdaa
open Go Go.RowKit Go.Shelf
attribute [local go_sem] Oper.semAt_some

theorem back_keeps {wo W X : World} {bs : List Nat} {n₁ : Nat} (h : Keeps wo W bs) (hbs : ∀ z ∈ bs, z < n₁) (hb : Below n₁ W X) : Keeps wo X bs :=
  ⟨Nat.le_trans h.1 hb.size, fun z hz hl => (hb.block z (hbs z hz)).trans (h.2 z hz hl)⟩
set_option maxRecDepth 100000 in
set_option maxHeartbeats 2000000 in
theorem back_inN (F : Fence) (n : Nat) (hF : F.fn 129) (hro : F.round = none) (hn : 1 ≤ n) (l Bs : Nat) (wo : World) (A : Option Addr) (m c : Nat) (L : List Ex) (bs : List Nat) (n₁ : Nat) (hsl : SlIs wo (.slice A m c) L bs) (hbs : ∀ z ∈ bs, z < n₁)
    (J Jx : List (It wo) → List Nat → World → Prop)
    (hY : ∀ pre x M W1, J pre M W1 → (∀ k ∈ M, k < W1.heap.size) → pre.length < L.length → YieldAt F (n - 1) Try.prog l #[.int .i64 (x.1.1 : Int), x.val] W1 fun e W2 =>
      (e = .returned (.bool true) ∧ J (pre ++ [x]) M W2 ∧ Kept n₁ M W1 W2) ∨ (e = .returned (.bool false) ∧ Jx (pre ++ [x]) M W2 ∧ Kept n₁ M W1 W2))
    (W : World) (hBs : W.cell? ⟨Bs, 0, none⟩ = some (.slice A m c)) (hW : Keeps wo W bs) (h0 : J [] [Bs] W) :
    CallsIn F n Try.prog 129 #[.func (.yield l) #[] #[], .pointer (some ⟨Bs, 0, none⟩)] W fun e W2 => (∃ v, e = .returned v) ∧
      ((∃ (xs : List (It wo)) (M : List Nat), (xs.map It.ex = L.reverse ∧ KidB bs xs) ∧ J xs M W2) ∨ (∃ (pre : List (It wo)) (M : List Nat), True ∧ Jx pre M W2)) := by
  obtain ⟨hm, hmc, hc⟩ := hsl.len
  have hm3 : (m : Int) ≤ 9223372036854775807 := by omega
  have HS := Lib.hid hsl
  have HM := Lib.hid hm
  have HY := Lib.hid hY
  have HW := Lib.hid hW
  clear hsl hm hY hW
  refine callsIn_of_wp Try.func129 rfl hF ?_ hro
  simp only [Try.ntmps129, List.size_toArray, List.length_cons, List.length_nil, Nat.reduceAdd, Nat.reduceSub, Array.replicate_succ, Array.replicate_zero, List.push_toArray, List.append_toArray, List.nil_append, List.cons_append]
  gi_wp2
  gi_loopw [3] (fun i wr => ∃ (z : Int), i = .int .i64 z ∧ -1 ≤ z ∧ z < m ∧ Hid (∃ (k : Nat) (pre : List (It wo)), z = (k : Int) - 1 ∧ J pre [Bs] wr ∧ pre.map It.ex = (L.drop k).reverse ∧ KidI wo A L bs k pre) ∧ wr.cell? ⟨Bs, 0, none⟩ = some (.slice A m c) ∧ Hid (Below n₁ W wr))
    (fun i _ => (intOf i + 1).toNat)
  case atStart =>
    exact ⟨(m : Int) - 1, rfl, by omega, by omega, Lib.hid ⟨m, [], rfl, h0, by rw [HM.out]; simp, kid_start HS.out HM.out⟩, hBs, Lib.hid (Below.refl _ _)⟩
  case round =>
    obtain ⟨z, rfl, hz0, hz1, HJ, hbx, HB⟩ := hrel
    by_cases hlt : 0 ≤ z
    · obtain ⟨k1, pre, hk, hJs, hpre, hsub⟩ := HJ.out
      obtain ⟨k, rfl⟩ : ∃ k, k1 = k + 1 := ⟨k1 - 1, by omega⟩
      obtain rfl : z = (k : Int) := by omega
      have hsw : SlIs wr (.slice A m c) L bs := HS.out.keeps (back_keeps HW.out hbs HB.out)
      obtain ⟨g, o, e1, u, b1, rfl, hbl, hget, hmem, c1, c2, c3, -, -⟩ := hsw.get k (by rw [← HM.out]; omega)
      obtain ⟨g', o', e1', u', b1', hA', hbl', hget', c3', his, hsb, hgm'⟩ := kid_get hsub (by rw [← HM.out]; omega)
      obtain ⟨rfl, rfl⟩ : g = g' ∧ o = o' := by cases hA'; exact ⟨rfl, rfl⟩
      obtain rfl : e1 = e1' := by rw [hget] at hget'; cases hget'; rfl
      obtain rfl : u = u' := by
        have h := World.cell?_of_block (w := wo) (a := ⟨g, o + k * 3 + 2, none⟩) ((back_keeps HW.out hbs HB.out).2 g hgm' hbl')
        rw [c3, c3'] at h
        cases h; rfl
      clear c3' hget' hA' hbl' hgm'
      have hlen : pre.length < L.length := by
        have h : (pre.map It.ex).length = (L.drop (k + 1)).reverse.length := by rw [hpre]
        simp at h
        have h2 := (List.getElem?_eq_some_iff.1 hget).1
        omega
      obtain ⟨fn, tmps, assign, body, hy, hR⟩ := HY.out pre ⟨(k, e1, u, b1'), his⟩ [Bs] wr hJs (by
        intro k hk
        rw [List.mem_singleton] at hk
        subst hk
        obtain ⟨o, ho, -⟩ := cells_of_cell hbx
        exact (Array.getElem?_eq_some_iff.1 ho).1) hlen
      dsimp only [It.val] at hy
      have HPX := Lib.hid (map_push L k pre ⟨(k, e1, u, b1'), his⟩ hpre hget)
      have HSB := Lib.hid (hsb ⟨(k, e1, u, b1'), his⟩ rfl)
      have HR := Lib.hid hR
      clear hR hJs hpre hget hmem hsw hk HJ hsub hsb
      gi_wp2
      refine HR.out.mono ?_
      rintro e W3 (⟨rfl, hJ3, hk3, hkm3⟩ | ⟨rfl, hJx3, -⟩)
      · have HJ3 := Lib.hid hJ3
        have HB3 := Lib.hid (HB.out.trans hk3)
        have hbx3 : W3.cell? ⟨Bs, 0, none⟩ = some (.slice (some ⟨g, o, none⟩) m c) := (World.cell?_of_block (w := wr) (hkm3 Bs (by simp))).trans hbx
        clear hJ3 hk3 hkm3
        gi_wp2
        go_roundw
        case rel => exact ⟨(k : Int) - 1, by first | rfl | go_num, by omega, by omega, Lib.hid ⟨k, _, rfl, HJ3.out, HPX.out, HSB.out⟩, hbx3, HB3⟩
        case measure => first | (simp [intOf]; done) | (simp [intOf]; omega)
      · have HJ3 := Lib.hid hJx3
        clear hJx3
        gi_wp2
        refine bodyPost_ret (results_none rfl _ _ _) rfl ?_
        exact ⟨⟨_, rfl⟩, .inr ⟨_, _, trivial, HJ3.out⟩⟩
    · obtain rfl : z = -1 := by omega
      gi_wp2
      go_end0
      obtain ⟨k1, pre, hk, hJs, hpre, hsub⟩ := HJ.out
      obtain rfl : k1 = 0 := by omega
      exact ⟨⟨_, rfl⟩, .inl ⟨pre, ⟨by simpa using hpre, kid_done hsub⟩, _, hJs⟩⟩

end Go.Proofs.Ytbnghkgfbjipdaa
