/- The contract of the program's own UniteNames. Conditions: lists of fewer than 2^40 elements, strings of a size that an int holds. The contract of the program's own VarsOf. Condition: fewer than 2^40 nodes. -/
import Derived.Test.YtmndlhbgacgnlaaSet
import Derived.Test.YtmndlhbgacgnlaaSpecNames
import Derived.Test.YtmndlhbgacgnlaaOwnsL
import Derived.Deep.QuietTactic
import Derived.BigQuiet
import Derived.Deep.LoopGhost
import Derived.Deep.Cut
import Derived.Test.YtmndlhbgacgnlaaOwnSize
import Derived.Test.YtmndlhbgacgnlaaOwnDepth
import Derived.Test.YtmndlhbgacgnlaaSpecVars
import Derived.Maps.OwnIn
namespace Go.Proofs.Ytmndlhbgacgnlaa
open Go Go.RowKit

theorem unite_hit {xs out : List ByteArray} {k : Nat} {x : ByteArray} (h : xs[k]? = some x) (hi : 0 ≤ idx out x) : uniteFrom out (xs.drop k) = uniteFrom out (xs.drop (k + 1)) := by
  have hk : k < xs.length := (List.getElem?_eq_some_iff.1 h).1
  have e : xs[k] = x := (List.getElem?_eq_some_iff.1 h).2
  rw [List.drop_eq_getElem_cons hk, e, uniteFrom, if_pos hi]
theorem unite_miss {xs out : List ByteArray} {k : Nat} {x : ByteArray} (h : xs[k]? = some x) (hi : ¬ 0 ≤ idx out x) : uniteFrom out (xs.drop k) = uniteFrom (out ++ [x]) (xs.drop (k + 1)) := by
  have hk : k < xs.length := (List.getElem?_eq_some_iff.1 h).1
  have e : xs[k] = x := (List.getElem?_eq_some_iff.1 h).2
  rw [List.drop_eq_getElem_cons hk, e, uniteFrom, if_neg hi]
theorem unite_end {xs out : List ByteArray} {k : Nat} (h : xs.length ≤ k) : uniteFrom out (xs.drop k) = out := by
  rw [List.drop_eq_nil_of_le h, uniteFrom]
def UnitePost (a b : List ByteArray) (w : World) (e : Ending) (w' : World) : Prop :=
  ∃ v, e = .returned v ∧ OwnsL w.heap.size w' v (unite a b) ∧ Below w.heap.size w w'

/-- What stands while the lists are united: the row, the set of the same strings, the two lists' slices. -/
structure Uni (w wr : World) (v : Value) (out : List ByteArray) (S0 S1 : Value) : Prop where
  own : wr.ownsRow (w.heap.size + 2) 9 1 v out.length (out.map Value.string)
  set : SetIs wr w.heap.size out.length out
  two : wr.heap[w.heap.size + 1]? = some (.cells #[S0, S1] 31 (0, 0))
  low : Below w.heap.size w wr
  size : w.heap.size + 2 ≤ wr.heap.size
theorem uni_start (w : World) (S0 S1 : Value) : Uni w ((w.alloc (.map #[] 0)).alloc (.cells #[S0, S1] 31)) (.slice none 0 0) [] S0 S1 := by
  refine ⟨World.ownsRow_nil _ _ _ _, (set_made w).alloc _, ?_, ((Below.refl _ _).alloc (Nat.le_refl _) _).alloc (by simp) _, by simp⟩
  have e : (w.alloc (.map #[] 0)).heap.size = w.heap.size + 1 := by simp
  rw [← e]; exact heap_alloc_new _ _
theorem Uni.cell0 {w wr : World} {v : Value} {out : List ByteArray} {S0 S1 : Value} (h : Uni w wr v out S0 S1) : wr.cell? ⟨w.heap.size + 1, 0, none⟩ = some S0 := by
  simp [World.cell?, h.two]
theorem Uni.cell1 {w wr : World} {v : Value} {out : List ByteArray} {S0 S1 : Value} (h : Uni w wr v out S0 S1) : wr.cell? ⟨w.heap.size + 1, 1, none⟩ = some S1 := by
  simp [World.cell?, h.two]
theorem own_ne {w : World} {B e s n b : Nat} {v : Value} {l : List Value} (h : w.ownsRow B e s v n l) (hb : b < B) : some b ≠ v.ownBlock := fun e1 => by
  have := (h.lt b e1.symm).1
  omega
theorem ne_own {w : World} {B e s n b : Nat} {v : Value} {l : List Value} (h : w.ownsRow B e s v n l) (hb : b < B) : v.ownBlock = none ∨ v.ownBlock ≠ some b := Or.inr (own_ne h hb).symm
theorem Uni.row {w wr w1 : World} {v : Value} {out : List ByteArray} {S0 S1 : Value} (h : Uni w wr v out S0 S1) (hg : wr.grownBy w1 (some w.heap.size)) (o : Obj) :
    (w1.alloc o).ownsRow (w.heap.size + 2) 9 1 v out.length (out.map Value.string) := (h.own.kept hg (ne_own h.own (by omega))).alloc o
theorem Uni.step {w wr w1 w2 : World} {v v2 : Value} {out : List ByteArray} {S0 S1 : Value} (h : Uni w wr v out S0 S1) (x : ByteArray) (hs : SetIs w1 w.heap.size (out.length + 1) (out ++ [x])) (hg : wr.grownBy w1 (some w.heap.size))
    (ho : w2.ownsRow (w.heap.size + 2) 9 1 v2 (out.length + 1) (out.map Value.string ++ [Value.string x])) (hg2 : (w1.alloc (.cells #[.string x] 9)).grownBy w2 v.ownBlock) : Uni w w2 v2 (out ++ [x]) S0 S1 := by
  have hr := h.row hg (.cells #[.string x] 9)
  have z1 := hg.size
  have z2 := hg2.size
  have z := h.size
  simp at z2
  have ha := World.grownBy_alloc w1 (.cells #[.string x] 9) none
  refine ⟨?_, ?_, ?_, ?_, by omega⟩
  · rw [List.length_append, List.map_append]; exact ho
  · have := (hs.alloc (.cells #[.string x] 9)).kept hg2 (own_ne hr (by omega))
    rw [List.length_append]; exact this
  · rw [hg2.block _ (by simp; omega) (own_ne hr (by omega)), ha.block _ (by omega) (by simp), hg.block _ (by omega) (by simp)]
    exact h.two
  · exact ((h.low.grown hg h.low.size (fun j hj => by cases hj; exact Nat.le_refl _)).alloc (by omega) _).grown hg2 (by simp; omega) (fun j hj => by have := (hr.lt j hj).1; omega)
theorem Uni.read {w wr : World} {v : Value} {out : List ByteArray} {S0 S1 : Value} (h : Uni w wr v out S0 S1) : ∃ A cap, v = .slice A out.length cap := by
  obtain ⟨A, c, e, -⟩ := OwnsL.shape (show OwnsL (w.heap.size + 2) wr v out from h.own)
  exact ⟨A, c, e⟩
theorem own_down {w : World} {B C : Nat} {v : Value} {out : List ByteArray} (h : OwnsL B w v out) (hC : C ≤ B) : OwnsL C w v out := by
  refine ⟨h.1, ?_⟩
  rcases h.2 with h2 | ⟨g, cap, cur, e, hb, r⟩
  · exact Or.inl h2
  · exact Or.inr ⟨g, cap, cur, e, Nat.le_trans hC hb, r⟩
/-- What is still to come when m of the two lists are done. -/
def restU (xs ys out : List ByteArray) : Nat → List ByteArray
  | 0 => uniteFrom (uniteFrom out xs) ys
  | 1 => uniteFrom out ys
  | _ => out
/-- The list of a round, and where it lies. -/
structure CurU (w wr : World) (A : Option Addr) (l : List ByteArray) (cap m : Nat) (xs ys out : List ByteArray) : Prop where
  cell : wr.cell? ⟨w.heap.size + 1, m, none⟩ = some (.slice A l.length cap)
  strs : Strs w A l
  len : l.length ≤ 1099511627776
  sizes : ∀ x ∈ l, x.size ≤ 9223372036854775807
  rest : restU xs ys out m = restU xs ys (uniteFrom out l) (m + 1)

theorem bound0 (q : Nat) : ([] : List ByteArray).length ≤ 1099511627776 * q := Nat.zero_le _

set_option maxHeartbeats 4000000 in
theorem own_unite (A B : Option Addr) (xs ys : List ByteArray) (cap cap2 : Nat) (w : World) (hs : Strs w A xs) (hs2 : Strs w B ys) (hn : xs.length ≤ 1099511627776) (hm : ys.length ≤ 1099511627776) (hx : ∀ x ∈ xs, x.size ≤ 9223372036854775807) (hy : ∀ x ∈ ys, x.size ≤ 9223372036854775807) :
    Calls Try.prog 64 #[.slice A xs.length cap, .slice B ys.length cap2] w (UnitePost xs ys w) := by
  obtain ⟨i0, hi, hz0, hz1, hz2⟩ := info_parts Try.info9u
  have HI := Lib.hid (And.intro hi (And.intro hz0 (And.intro hz1 hz2)))
  clear hi hz0 hz1 hz2
  have HCU := Lib.hid (fun (wr : World) (v : Value) (out : List ByteArray) (h : Uni w wr v out (.slice A xs.length cap) (.slice B ys.length cap2)) (m : Nat) (hm2 : m < 2) => show ∃ A' l c', CurU w wr A' l c' m xs ys out by
    rcases m with _ | _ | m
    · exact ⟨A, xs, cap, h.cell0, hs, hn, hx, rfl⟩
    · exact ⟨B, ys, cap2, h.cell1, hs2, hm, hy, rfl⟩
    · omega)
  obtain ⟨n, hnn⟩ : ∃ n, n = xs.length := ⟨_, rfl⟩
  obtain ⟨m, hmm⟩ : ∃ m, m = ys.length := ⟨_, rfl⟩
  have H0 := uni_start w (.slice A xs.length cap) (.slice B ys.length cap2)
  rw [← hnn, ← hmm] at HCU
  rw [← hnn, ← hmm] at H0
  have H0 := Lib.hid H0
  rw [← hnn, ← hmm]
  rw [← hnn] at hn
  rw [← hmm] at hm
  clear hs hnn hs2 hmm hx hy
  have hmk := run_makeHint
  go_enter Try.func64, Try.ntmps64
  go_wp2
  clear hmk
  go_loopg [5, 21] 2 (fun g v j wr => ∃ (q : Nat) (out : List ByteArray), q ≤ 2 ∧ g = 2 - q ∧ j = .int .i64 (q : Int) ∧ Hid (out.length ≤ 1099511627776 * q) ∧ Hid (Uni w wr v out (.slice A n cap) (.slice B m cap2)) ∧ Hid (unite xs ys = restU xs ys out q))
  case atStart => exact ⟨0, [], by omega, rfl, rfl, Lib.hid (bound0 0), H0, Lib.hid rfl⟩
  case round =>
    obtain ⟨q, out, hq, rfl, rfl, HOL, HU, HR⟩ := hrel
    clear H0
    by_cases hlt : q < 2
    · obtain ⟨A', l, c', hcur⟩ := HCU.out wr _ _ HU.out q hlt
      have hc := hcur.cell
      obtain ⟨L, hL⟩ : ∃ L, L = l.length := ⟨_, rfl⟩
      rw [← hL] at hc
      have HL := Lib.hid hL
      have hLn : L ≤ 1099511627776 := by rw [hL]; exact hcur.len
      have HS := Lib.hid hcur.strs
      have HX := Lib.hid hcur.sizes
      have HR2 := Lib.hid (HR.out.trans hcur.rest)
      clear hcur hL
      obtain ⟨A2, c2, hv⟩ := HU.out.read
      subst hv
      have hqd : decide ((q : Int) < 2) = true := by simp; omega
      go_wp2
      go_loopg [5, 27] L (fun g v i wi => ∃ (k : Nat) (o : List ByteArray), k ≤ L ∧ g = L - k ∧ i = .int .i64 (k : Int) ∧ Hid (o.length ≤ 1099511627776 * q + k) ∧ Hid (Uni w wi v o (.slice A n cap) (.slice B m cap2)) ∧ Hid (uniteFrom out l = uniteFrom o (l.drop k)))
      case atStart => exact ⟨0, out, Nat.zero_le _, rfl, rfl, HOL, HU, Lib.hid rfl⟩
      case round =>
        clear HU hc HOL
        obtain ⟨k, o, hk, rfl, rfl, HOL, HU, HK⟩ := hrel
        obtain ⟨A3, c3, hv⟩ := HU.out.read
        subst hv
        by_cases hlt2 : k < L
        · obtain ⟨a, x, rfl, hc0, hmem, hx, -, hab⟩ := HS.out.get k (by rw [← HL.out]; exact hlt2)
          have hc := (HU.out.low.cell (p := a.add k) (by rw [block_add]; exact hab)).trans hc0
          have HX1 := Lib.hid (show x.size ≤ maxLen from HX.out x hmem)
          have HXX := Lib.hid hx
          clear hx hc0 hmem hab
          by_cases hr : 0 ≤ idx o x
          · have HIN := Lib.hid (show inL o x = true from decide_eq_true hr)
            have HK2 := Lib.hid (HK.out.trans (unite_hit HXX.out hr))
            clear hr
            go_wp2_with (at_lookup; refine look_set _ rfl _ _ rfl w.heap.size o.length o rfl HU.out.set x rfl HX1.out true HIN.out ?_)
            go_roundg (L - (k + 1))
            case measure => omega
            case rel => exact ⟨k + 1, o, by omega, rfl, by go_num, Lib.hid (by have := HOL.out; omega), HU, HK2⟩
          · have HIN := Lib.hid (show inL o x = false from decide_eq_false hr)
            have HK2 := Lib.hid (HK.out.trans (unite_miss HXX.out hr))
            have C0 := Lib.hid (show o.length < maxLen by have := HOL.out; unfold maxLen; omega)
            have C1 := Lib.hid (show o.length + 1 ≤ maxLen by have := HOL.out; unfold maxLen; omega)
            have C2 := Lib.hid (show (o.length + 1) * 16 ≤ 140737488355328 by have := HOL.out; omega)
            have HDL := Lib.hid (show (o ++ [x]).length ≤ 1099511627776 * q + (k + 1) by have := HOL.out; rw [List.length_append]; simp; omega)
            have H1C := Lib.hid (one_new (x := x))
            clear hr
            go_wp2_with (first
              | (at_lookup; refine look_set _ rfl _ _ rfl w.heap.size o.length o rfl HU.out.set x rfl HX1.out false HIN.out ?_)
              | (at_mapUpdate; refine add_set _ rfl _ _ _ rfl w.heap.size o.length o rfl HU.out.set C0.out x rfl rfl HX1.out ?_; intro w1 hs1 hg1; have HS1 := Lib.hid hs1; have HG1 := Lib.hid hg1; have HO2 := Lib.hid (HU.out.row hg1 (.cells #[.string x] 9)); have HNW := Lib.hid (cell_new (W := w1) (x := x)); have C4 := Lib.hid (show w.heap.size + 2 ≤ (w1.alloc (.cells #[.string x] 9)).heap.size by have h1 := HU.out.size; have h2 := hg1.size; simp; omega); clear hs1 hg1)
              | (at_builtin; (refine wpList_append_own _ rfl (.tmp 37) (.tmp 39) 31 rfl (w.heap.size + 2) 9 i0 (.string ⟨#[]⟩) 1 16 Try.underlying31 HI.out.1 HI.out.2.1 HI.out.2.2.1 HI.out.2.2.2 rfl (by decide) (.slice A3 o.length c3) _ _ rfl HO2.out ⟨w1.heap.size, 0, none⟩ 1 1 [.string x] rfl rfl HNW.out H1C.out C1.out C2.out C4.out ?_); intro v2 w2 ho2 hg2 _; have HU2 := Lib.hid (HU.out.step x HS1.out HG1.out ho2 hg2); clear ho2 hg2))
            go_roundg (L - (k + 1))
            case measure => omega
            case rel => exact ⟨k + 1, _, by omega, rfl, by go_num, HDL, HU2, HK2⟩
        · have HE := Lib.hid (show uniteFrom out l = o from HK.out.trans (unite_end (by rw [← HL.out]; omega)))
          have HRX := Lib.hid (show unite xs ys = restU xs ys o (q + 1) by rw [← HE.out]; exact HR2.out)
          go_wp2
          go_roundg (2 - (q + 1))
          case measure => omega
          case rel => exact ⟨q + 1, o, by omega, rfl, by go_num, Lib.hid (by have := HOL.out; omega), HU, HRX⟩
    · have HE := Lib.hid (show unite xs ys = out by
        have h := HR.out
        rw [show q = 2 by omega] at h
        exact h)
      go_wp2
      go_ret
      exact ⟨_, rfl, by rw [HE.out]; exact own_down HU.out.own (by omega), HU.out.low⟩
end Go.Proofs.Ytmndlhbgacgnlaa

namespace Go.Proofs.Ytmndlhbgacgnlaa
open Go Go.RowKit Go.Shelf
attribute [local go_sem] Oper.semAt_some

def varE (e : Ex) : Bool := decide (e.kind = 1)
theorem unite_add (out : List ByteArray) (s : ByteArray) (r : List ByteArray) : uniteFrom out (s :: r) = uniteFrom (addName out s) r := by
  rw [uniteFrom, addName]
  split <;> rfl
theorem unite_app : ∀ (a b out : List ByteArray), uniteFrom out (a ++ b) = uniteFrom (uniteFrom out a) b := by
  intro a
  induction a with
  | nil => intro b out; simp [uniteFrom]
  | cons x r ih => intro b out; rw [List.cons_append, unite_add, unite_add, ih]
theorem vars_nodes (n : Nat) : (∀ (e : Ex) (out : List ByteArray), exSize e ≤ n → exVars out e = uniteFrom out (((exNodes e).filter varE).map Ex.name)) ∧ (∀ (l : List Ex) (out : List ByteArray), exSizes l ≤ n → exVarsL out l = uniteFrom out (((exNodesL l).filter varE).map Ex.name)) := by
  induction n with
  | zero =>
    refine ⟨fun e out h => by have := exSize_pos e; omega, fun l out h => ?_⟩
    cases l with
    | nil => simp [exNodesL, exVarsL, uniteFrom]
    | cons e r => rw [exSizes] at h; have := exSize_pos e; omega
  | succ n ih =>
    have hE : ∀ (e : Ex) (out : List ByteArray), exSize e ≤ n + 1 → exVars out e = uniteFrom out (((exNodes e).filter varE).map Ex.name) := by
      intro e out h
      cases e with
      | mk k s l =>
        rw [exSize] at h
        rw [exNodes, exVars, ih.2 l _ (by omega), List.filter_cons]
        by_cases hk : k = 1
        · rw [if_pos hk, if_pos (by simp [varE, Ex.kind, hk]), List.map_cons, unite_add]; rfl
        · rw [if_neg hk, if_neg (by simp [varE, Ex.kind, hk])]
    refine ⟨hE, ?_⟩
    intro l
    induction l with
    | nil => intro out _; simp [exNodesL, exVarsL, uniteFrom]
    | cons e r ihl =>
      intro out h
      rw [exSizes] at h
      rw [exNodesL, exVarsL, List.filter_append, List.map_append, unite_app, hE e out (by omega), ihl _ (by omega)]

theorem asV_no (k : Int) (hk : ¬ k = 1) (v : Value) (w : World) : (Instr.typeAssert (.iface (formTy k) v) 79 85 true).run Try.prog w = .ok (.tuple #[.agg #[.string ⟨#[]⟩, .slice none 0 0], .bool false]) w := by
  unfold formTy
  by_cases h2 : k = 2
  · rw [if_neg hk, if_pos h2]; exact asCV v w
  · by_cases h3 : k = 3
    · rw [if_neg hk, if_neg h2, if_pos h3]; exact asKV v w
    · by_cases h4 : k = 4
      · rw [if_neg hk, if_neg h2, if_neg h3, if_pos h4]; exact asSV v w
      · rw [if_neg hk, if_neg h2, if_neg h3, if_neg h4]; exact asOV v w

def vnames {wo : World} (ks : List (It wo)) : List ByteArray := ((ks.map It.ex).filter varE).map Ex.name
theorem vnames_yes {wo : World} (ks : List (It wo)) (x : It wo) (h : x.ex.kind = 1) : vnames (ks ++ [x]) = vnames ks ++ [x.ex.name] := by simp [vnames, varE, h]
theorem vnames_no {wo : World} (ks : List (It wo)) (x : It wo) (h : ¬ x.ex.kind = 1) : vnames (ks ++ [x]) = vnames ks := by simp [vnames, varE, h]
theorem vnames_le {wo : World} (ks : List (It wo)) : (vnames ks).length ≤ ks.length := by
  have := List.length_filter_le varE (ks.map It.ex)
  simpa [vnames] using this
theorem vnames_size {wo : World} (ks : List (It wo)) : ∀ s ∈ vnames ks, s.size ≤ 9223372036854775807 := by
  intro s hs
  simp only [vnames, List.mem_map, List.mem_filter] at hs
  obtain ⟨e, ⟨⟨x, -, rfl⟩, -⟩, rfl⟩ := hs
  obtain ⟨u, -, h, -⟩ := x.2
  exact h

def VarI {wo : World} (B n₀ : Nat) (ks : List (It wo)) (Fp : List Nat) (X : World) : Prop := ∃ AO co, Fp = B :: (Value.ownBlock (.slice AO (vnames ks).length co)).toList ∧ Boxed X B 31 (.slice AO (vnames ks).length co) ∧ OwnsL n₀ X (.slice AO (vnames ks).length co) (vnames ks)
theorem vari_foot {wo : World} (B n₀ : Nat) (ks : List (It wo)) : Foot (VarI B n₀ ks) := by
  rintro Fp X Y ⟨AO, co, rfl, h1, h2⟩ _ hk
  exact ⟨AO, co, rfl, box_on h1 (hk B (by simp)), row_on h2 (fun k e => hk k (by rw [e]; simp))⟩
theorem var_same {wo : World} {B n₀ nb : Nat} {ks : List (It wo)} {x : It wo} {X w2 : World} {AO : Option Addr} {co : Nat} (hB : Boxed X B 31 (.slice AO (vnames ks).length co)) (hO : OwnsL n₀ X (.slice AO (vnames ks).length co) (vnames ks)) (hb : Below X.heap.size X w2) (o : Obj) (hx : vnames (ks ++ [x]) = vnames ks) :
    ∃ Fp2, Fr (nb :: B :: (Value.ownBlock (.slice AO (vnames ks).length co)).toList) X (w2.alloc o) ∧ (∀ k ∈ Fp2, (k ∈ (nb :: B :: (Value.ownBlock (.slice AO (vnames ks).length co)).toList) ∨ X.heap.size ≤ k) ∧ k < (w2.alloc o).heap.size) ∧ VarI B n₀ (ks ++ [x]) Fp2 (w2.alloc o) := by
  have hsz := hb.size
  have h1 := hB.lt
  refine ⟨B :: (Value.ownBlock (.slice AO (vnames ks).length co)).toList, (Fr.of_below hb).trans (Fr.alloc (S := nb :: B :: (Value.ownBlock (.slice AO (vnames ks).length co)).toList) _ _) (fun x h => Or.inl h), fun k hk => ⟨Or.inl (List.mem_cons_of_mem _ hk), ?_⟩, AO, co, by rw [hx], by rw [hx]; exact (box_on hB (hb.block _ h1)).alloc o, ?_⟩
  · rcases List.mem_cons.1 hk with rfl | hk
    · simp; omega
    · have := (World.ownsRow.lt hO k (by simpa using hk)).2
      simp; omega
  · rw [hx]
    exact World.ownsRow.alloc (row_on hO (fun k e => hb.block _ (World.ownsRow.lt hO k e).2)) o

/-- What the walk of the push wants of the world behind formOf. -/
theorem var_mid {wo : World} {B n₀ : Nat} {pre : List (It wo)} {X w2 : World} {AO : Option Addr} {co : Nat} {s : ByteArray} {o : Obj} (hB : Boxed X B 31 (.slice AO (vnames pre).length co)) (hO : OwnsL n₀ X (.slice AO (vnames pre).length co) (vnames pre)) (hn : n₀ ≤ X.heap.size) (hb : Below X.heap.size X w2) :
    (w2.cell? ⟨B, 0, none⟩ = some (.slice AO (vnames pre).length co) ∧ w2.frozen? ⟨B, 0, none⟩ = false ∧ B < w2.heap.size) ∧ OwnsL n₀ ((w2.alloc o).alloc (.cells #[.string s] 9)) (.slice AO (vnames pre).length co) (vnames pre) ∧
      (∀ j u, [Value.string s][j]? = some u → ((w2.alloc o).alloc (.cells #[.string s] 9)).cell? ((⟨w2.heap.size + 1, 0, none⟩ : Addr).add j) = some u) ∧ n₀ ≤ ((w2.alloc o).alloc (.cells #[.string s] 9)).heap.size := by
  have h2 : Boxed w2 B 31 (.slice AO (vnames pre).length co) := box_on hB (hb.block _ hB.lt)
  have hs := hb.size
  refine ⟨⟨h2.cell, h2.frozen, h2.lt⟩, (World.ownsRow.alloc (World.ownsRow.alloc (row_on hO (fun k e => hb.block _ (World.ownsRow.lt hO k e).2)) _) _), ?_, by simp; omega⟩
  have := cell_new (W := w2.alloc o) (x := s)
  rw [World.size_alloc] at this
  exact this
theorem var_box {B n₀ n : Nat} {w2 w4 : World} {AO : Option Addr} {co : Nat} {o o2 : Obj} {xs : List Value} (hB : Boxed w2 B 31 (.slice AO n co)) (hO : ((w2.alloc o).alloc o2).ownsRow n₀ 9 1 (.slice AO n co) n xs) (hg : ((w2.alloc o).alloc o2).grownBy w4 (Value.ownBlock (.slice AO n co))) :
    Boxed w4 B 31 (.slice AO n co) := by
  have h3 : Boxed ((w2.alloc o).alloc o2) B 31 (.slice AO n co) := (hB.alloc o).alloc o2
  exact h3.kept hg (Boxed.not_row h3 (by decide) hO)
theorem var_push {wo : World} {B n₀ nb : Nat} {ks : List (It wo)} {x : It wo} {X w2 w4 : World} {AO : Option Addr} {co g4 cap4 : Nat} {o o2 : Obj} (hB : Boxed X B 31 (.slice AO (vnames ks).length co)) (hb : Below X.heap.size X w2) (hx : vnames (ks ++ [x]) = vnames ks ++ [x.ex.name])
    (hg : ((w2.alloc o).alloc o2).grownBy w4 (Value.ownBlock (.slice AO (vnames ks).length co))) (ho : w4.ownsRow n₀ 9 1 (.slice (some ⟨g4, 0, none⟩) ((vnames ks).length + 1) cap4) ((vnames ks).length + 1) ((vnames ks).map Value.string ++ [.string x.ex.name])) (hb4 : Boxed w4 B 31 (.slice AO (vnames ks).length co))
    (hat : Value.ownBlock (.slice (some ⟨g4, 0, none⟩) ((vnames ks).length + 1) cap4) = Value.ownBlock (.slice AO (vnames ks).length co) ∨ Value.ownBlock (.slice (some ⟨g4, 0, none⟩) ((vnames ks).length + 1) cap4) = some ((w2.alloc o).alloc o2).heap.size) :
    ∃ Fp2, Fr (nb :: B :: (Value.ownBlock (.slice AO (vnames ks).length co)).toList) X (w4.setCell ⟨B, 0, none⟩ (.slice (some ⟨g4, 0, none⟩) ((vnames ks).length + 1) cap4)) ∧ (∀ k ∈ Fp2, (k ∈ (nb :: B :: (Value.ownBlock (.slice AO (vnames ks).length co)).toList) ∨ X.heap.size ≤ k) ∧ k < (w4.setCell ⟨B, 0, none⟩ (.slice (some ⟨g4, 0, none⟩) ((vnames ks).length + 1) cap4)).heap.size) ∧ VarI B n₀ (ks ++ [x]) Fp2 (w4.setCell ⟨B, 0, none⟩ (.slice (some ⟨g4, 0, none⟩) ((vnames ks).length + 1) cap4)) := by
  have hsz := hb.size
  have hs4 := hg.size
  simp only [World.size_alloc] at hs4 hat
  have hBl := hB.lt
  have hgl := (ho.lt g4 rfl).2
  have hgB : g4 ≠ B := fun e => Boxed.not_row hb4 (by decide) ho (by simp [Value.ownBlock, e])
  have hl : (vnames (ks ++ [x])).length = (vnames ks).length + 1 := by rw [hx]; simp
  have hgm : g4 ∈ (Value.ownBlock (.slice AO (vnames ks).length co)).toList ∨ X.heap.size ≤ g4 := by
    rcases hat with h | h
    · exact Or.inl (by rw [← h]; simp [Value.ownBlock])
    · exact Or.inr (by have : g4 = w2.heap.size + 1 + 1 := (by simpa [Value.ownBlock] using h); omega)
  refine ⟨[B, g4], ?_, fun k hk => ?_, some ⟨g4, 0, none⟩, cap4, rfl, by rw [hl]; exact hb4.set _, ?_⟩
  · refine (((Fr.of_below hb).trans ((Fr.alloc (S := nb :: B :: (Value.ownBlock (.slice AO (vnames ks).length co)).toList) _ o).trans (Fr.alloc _ o2) (fun x h => Or.inl h)) (fun x h => Or.inl h)).trans (Fr.grown (S := nb :: B :: (Value.ownBlock (.slice AO (vnames ks).length co)).toList) hg (fun k e => by rw [e]; simp)) (fun x h => Or.inl h)).trans (Fr.set (S := nb :: B :: (Value.ownBlock (.slice AO (vnames ks).length co)).toList) _ _ _ (by simp)) (fun x h => Or.inl h)
  · simp at hk
    rcases hk with rfl | rfl
    · exact ⟨Or.inl (by simp), by simp [World.setCell]; omega⟩
    · exact ⟨hgm.imp (fun h => List.mem_cons_of_mem _ (List.mem_cons_of_mem _ h)) id, by simp [World.setCell]; omega⟩
  · unfold OwnsL
    rw [hl, hx, List.map_append]
    exact row_on ho (fun j hj => Below.heap_setCell _ _ _ _ (by rw [show j = g4 by simpa [Value.ownBlock, eq_comm] using hj]; exact hgB))

theorem start_vars (e : Ex) (A : Option Addr) (m c : Nat) (w w0 W0 : World) (hw0 : w0 = ((w.alloc (.cells #[.int .i64 e.kind, .string e.name, .slice A m c] 26)).alloc (.cells #[.slice none 0 0] 31))) (h : W0 = nodesW w0 e.kind e.name (.slice A m c)) :
    W0.heap.size = w.heap.size + 5 ∧ Below w.heap.size w W0 ∧ Boxed W0 (w.heap.size + 1) 31 (.slice none 0 0) ∧ w.heap.size + 1 + 1 = w0.heap.size ∧ Below w.heap.size w w0 := by
  have hs : w0.heap.size = w.heap.size + 2 := by rw [hw0]; simp
  have hb : Below w.heap.size w w0 := by rw [hw0]; exact ((Below.refl _ w).alloc (Nat.le_refl _) _).alloc (by simp) _
  refine ⟨by rw [h, nodesW_size, hs], by rw [h]; exact nodesW_below hb (by omega) _ _ _, ?_, by omega, hb⟩
  have := Boxed.new (w.alloc (.cells #[.int .i64 e.kind, .string e.name, .slice A m c] 26)) 31 (.slice none 0 0)
  rw [World.size_alloc, ← hw0] at this
  exact box_on this (by rw [h]; exact nodesW_old _ _ _ (by omega))

set_option maxRecDepth 100000 in
set_option maxHeartbeats 2000000 in
theorem vars_in (F : Fence) (n : Nat) (hFw : F = Fence.wide) (hro : F.round = none) (hF : ∀ k, F.fn k) (hn : 9 ≤ n) (e : Ex) (v : Value) (bs : List Nat) (w : World) (hv : ExIs w v e bs) (hb : exSize e ≤ 1099511627776) :
    CallsIn F n Try.prog 18 #[v] w (NamesPost (exVars [] e) w) := by
  obtain ⟨i0, hi, hz0, hz1, hz2⟩ := info_parts Try.info9u
  have HI := Lib.hid (And.intro hi (And.intro hz0 (And.intro hz1 hz2)))
  clear hi hz0 hz1 hz2
  obtain ⟨u, rfl, hs, hu⟩ := id hv
  obtain ⟨A, c, rfl, hc1, hc2, -⟩ := id hu
  have HV := Lib.hid hv
  have HN := Lib.hid ((vars_nodes _).1 e [] (Nat.le_refl _))
  have h1 : 1 ≤ n := by omega
  have HFW := Lib.hid hFw
  obtain ⟨m, hm⟩ : ∃ m, m = e.args.length := ⟨_, rfl⟩
  rw [← hm] at HV hc1 ⊢
  have HM := Lib.hid hm
  have HBD := Lib.hid hb
  clear hv hu hFw hm
  refine callsIn_of_wp_marks Try.func18 rfl (hF _) ?_ hro
  simp only [Try.ntmps18, List.size_toArray, List.length_cons, List.length_nil, Nat.reduceAdd, Nat.reduceSub, Array.replicate_succ, Array.replicate_zero, List.push_toArray, List.append_toArray, List.nil_append, List.cons_append]
  gi_wp2_with (gi_at_call 57; refine (nodesOf_in F (n - 1) hF hro (by omega) _ _ _ _ _ _).mono ?_; rintro e w' ⟨rfl, rfl⟩)
  obtain ⟨w0, hw0⟩ : ∃ w0, w0 = ((w.alloc (.cells #[.int .i64 e.kind, .string e.name, .slice A m c] 26)).alloc (.cells #[.slice none 0 0] 31)) := ⟨_, rfl⟩
  rw [← hw0]
  obtain ⟨W0, hW0⟩ : ∃ W0, W0 = nodesW w0 e.kind e.name (.slice A m c) := ⟨_, rfl⟩
  rw [← hW0]
  have HX := Lib.hid (start_vars e A m c w w0 W0 hw0 hW0)
  have HW0 := Lib.hid hW0
  clear hW0 hw0
  have hx1 := HX.out.1
  refine wpIn_rangeFunc_frame hro h1 (gf := 143) (lb := nodesLb (w.heap.size + 1 + 1)) rfl (hF _) (enters_of Try.func143 (by kernel_rfl) rfl)
    (nodes_stops F (n - 1) HFW.out hro hF (by omega) w e (.slice A m c) bs HV.out hb (w.heap.size + 1 + 1) w0 W0 HX.out.2.2.2.1 HW0.out HX.out.2.2.2.2) (Below.refl _ _) (by omega) (by simp; omega) (fun _ => rfl)
    (VarI (w.heap.size + 1) w.heap.size) (fun _ _ _ _ => False) (vari_foot _ _) (fun _ _ _ _ _ h _ _ => h) [w.heap.size + 1] (fun k hk => by simp at hk; subst hk; simp; omega) ⟨none, 0, rfl, HX.out.2.2.1, World.ownsRow_nil _ _ _ _⟩
    (Noded (VarI (w.heap.size + 1) w.heap.size) (fun nb x => #[.agg #[.int .i64 e.kind, .string e.name, .slice A m c], .pointer (some ⟨w.heap.size, 0, none⟩), .slice none 0 0, .pointer (some ⟨w.heap.size + 1, 0, none⟩), .pointer (some ⟨nb, 0, none⟩), undef, undef, .agg #[.int .i64 e.kind, .string e.name, .slice A m c], nodesFun (w.heap.size + 1 + 1), x.val, undef, undef, undef, undef, undef, undef, undef, undef, undef, undef, undef, undef, undef, undef, undef])) (noded_foot (vari_foot _ _) _) ?assign ?body ?done ?stop
  case assign =>
    intro l pre x Fp X KX hI hFp hFr hK
    obtain ⟨A2, c2, hu2, -, -, -⟩ := x.slice
    have hv : x.val = .agg #[.int .i64 x.ex.kind, .string x.ex.name, .slice A2 x.ex.args.length c2] := by rw [← hu2]; rfl
    have HI2 := Lib.hid hI
    have HU2 := Lib.hid hu2
    have HV2 := Lib.hid hv
    have HFP := Lib.hid hFp
    have HKX := Lib.hid hK
    dsimp only
    rw [hv]
    clear hu2 hv hI hFp hFr hK
    gi_wp2
    obtain ⟨q1, q2, q3⟩ := noded_new (vari_foot _ _) (tm := (fun nb x => #[.agg #[.int .i64 e.kind, .string e.name, .slice A m c], .pointer (some ⟨w.heap.size, 0, none⟩), .slice none 0 0, .pointer (some ⟨w.heap.size + 1, 0, none⟩), .pointer (some ⟨nb, 0, none⟩), undef, undef, .agg #[.int .i64 e.kind, .string e.name, .slice A m c], nodesFun (w.heap.size + 1 + 1), x.val, undef, undef, undef, undef, undef, undef, undef, undef, undef, undef, undef, undef, undef, undef, undef])) HI2.out (fun k hk => (HFP.out k hk).2) HU2.out rfl
    refine HKX.out _ _ _ q1 q2 ?_
    exact (by simpa only [HV2.out] using q3)
  case body =>
    rintro l pre x _ Fp X ⟨nb, _, rfl, hnx, hnb, ⟨AO, co, rfl, hB, hO⟩, rfl⟩ hFp hFr hlen
    have hn3 : 1 ≤ n - 1 - 1 := by omega
    obtain ⟨A2, c2, hu2, -, -, -⟩ := x.slice
    obtain ⟨q2, hq2⟩ : ∃ q2, q2 = x.ex.args.length := ⟨_, rfl⟩
    rw [← hq2] at hu2
    rw [hu2] at hnx
    have hn0 : X.cell? ⟨nb, 0, none⟩ = some (.int .i64 x.ex.kind) := by simp [World.cell?, hnx]
    have hn1 : X.cell? ⟨nb, 1, none⟩ = some (.string x.ex.name) := by simp [World.cell?, hnx]
    have hn2 : X.cell? ⟨nb, 2, none⟩ = some (.slice A2 q2 c2) := by simp [World.cell?, hnx]
    have HB := Lib.hid hB
    have HO := Lib.hid hO
    have HMID := Lib.hid (fun (w2 : World) (hb2 : Below X.heap.size X w2) => var_mid (s := x.ex.name) (o := (.cells #[.string x.ex.name, .slice A2 q2 c2] 85)) hB hO (by have := (hFp nb (by simp)); omega) hb2)
    have HLE := Lib.hid (show (vnames pre).length + 1 ≤ 1099511627776 by have := vnames_le pre; have := HBD.out; omega)
    clear hu2 hq2 hnx hB hO hlen hFp hFr hnb
    by_cases hk : x.ex.kind = 1
    · have HC := Lib.hid (vnames_yes pre x hk)
      have aV := asVV
      have HT := Lib.hid (show formTy x.ex.kind = 85 by rw [hk]; rfl)
      have CM := Lib.hid (show (vnames pre).length + 1 ≤ maxLen by have := HLE.out; unfold maxLen; omega)
      have CB := Lib.hid (show ((vnames pre).length + 1) * 16 ≤ 140737488355328 by have := HLE.out; omega)
      clear hk
      gi_wp2_with (first
        | (gi_at_call 60; refine (at_wide HFW.out (own_form _ _ _ _ _ _) l).mono ?_; rintro r w2 ⟨rfl, hb2⟩; rw [HT.out]; obtain ⟨⟨hc2, hf2, hl2⟩, hr2⟩ := HMID.out w2 hb2; have HR2 := Lib.hid hr2; have HB2 := Lib.hid hb2; clear hb2 hr2)
        | (gi_at_builtin; refine wpListIn_append_own_at _ rfl _ _ 31 rfl w.heap.size 9 i0 (.string ⟨#[]⟩) 1 16 Try.underlying31 HI.out.1 HI.out.2.1 HI.out.2.2.1 HI.out.2.2.2 rfl (by decide) (.slice AO (vnames pre).length co) _ _ rfl HR2.out.1 ⟨w2.heap.size + 1, 0, none⟩ 1 1 [.string x.ex.name] rfl rfl HR2.out.2.1 one_new CM.out CB.out HR2.out.2.2 ?_; intro v4 w4 ho4 hg4 _ hat4; obtain ⟨g4, cap4, rfl⟩ := ownsRow_succ ho4; have hb4 := var_box (box_on HB.out (HB2.out.block _ HB.out.lt)) HR2.out.1 hg4; have hc4 := hb4.cell; have hf4 := hb4.frozen; have hl4 := hb4.lt; have H4 := Lib.hid (And.intro ho4 (And.intro hg4 (And.intro hat4 hb4))); clear ho4 hg4 hat4 hb4))
      exact var_push HB.out HB2.out HC.out H4.out.2.1 H4.out.1 H4.out.2.2.2 H4.out.2.2.1
    · have HC := Lib.hid (vnames_no pre x hk)
      have aV := asV_no x.ex.kind hk
      clear hk
      gi_wp2_with (gi_at_call 60; refine (at_wide HFW.out (own_form _ _ _ _ _ _) l).mono ?_; rintro r w2 ⟨rfl, hb2⟩; have HB2 := Lib.hid hb2; clear hb2)
      exact var_same HB.out HO.out HB2.out _ HC.out
  case done =>
    rintro D ks Fp X hD hDF hFl hS ⟨AO, co, rfl, hB, hO⟩ hFr hK
    have HNM := Lib.hid (show exVars [] e = unite (vnames ks) [] by rw [HN.out, ← hS]; rfl)
    obtain ⟨A9, c9, hsh, hst⟩ := OwnsL.shape hO
    cases hsh
    have HUN := Lib.hid (wide_in (n := n - 1) HFW.out (own_unite AO none (vnames ks) [] co 0 X hst (fun i x hx => by simp at hx) (by have := vnames_le ks; have h2 := congrArg List.length hS; rw [List.length_map, nodes_len] at h2; have := HBD.out; omega) (by simp) (vnames_size ks) (by simp)))
    have hc := hB.cell
    have HK := Lib.hid hK
    have HLW := Lib.hid (show Below w.heap.size w X from HX.out.2.1.trans (hFr.below (by simp; omega) (by omega)))
    have HDX := Lib.hid (Array.getElem?_eq_some_iff.1 hK).1
    clear hB hO hK hFr hS hst
    gi_wp2_with (gi_at_call 64; refine HUN.out.mono ?_; rintro r w2 ⟨v2, rfl, ho2, hb2⟩; have HU2 := Lib.hid (And.intro ho2 hb2); clear ho2 hb2)
    have hK2 := (HU2.out.2.block _ HDX.out).trans HK.out
    refine ⟨by simp, .inl ⟨D, _, rfl, run_takeDeferred hK2, ?_⟩⟩
    refine ⟨_, results_tmp rfl _ _ _, v2, rfl, ?_, (HLW.out.trans (HU2.out.2.mono HLW.out.size)).trans ((Fr.put (S := [D]) w2 _ _ (by simp)).below (by simp; omega) (by have := HU2.out.2.size; have := HLW.out.size; omega))⟩
    rw [HNM.out]
    refine row_base (row_on HU2.out.1 (fun k e => World.putObj_heap_other ?_)) HLW.out.size
    have := (World.ownsRow.lt HU2.out.1 k e).1
    have := HDX.out
    omega
  case stop =>
    rintro D c pre Fp X _ _ _ _ h _ _
    exact h.elim
theorem own_vars (e : Ex) (v : Value) (bs : List Nat) (w : World) (hv : ExIs w v e bs) (hb : exSize e ≤ 1099511627776) : Calls Try.prog 18 #[v] w (NamesPost (exVars [] e) w) :=
  callsIn_wide.1 (vars_in Fence.wide 9 rfl rfl (fun _ => trivial) (Nat.le_refl _) e v bs w hv hb)
end Go.Proofs.Ytmndlhbgacgnlaa
