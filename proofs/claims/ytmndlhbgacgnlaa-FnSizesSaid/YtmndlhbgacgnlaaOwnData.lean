/- The contract of the program's own CallsOf. Condition: fewer than 2^40 nodes. The contract of the program's own IsData. Condition: fewer than 2^40 nodes. -/
import Derived.Test.YtmndlhbgacgnlaaOwnSize
import Derived.Test.YtmndlhbgacgnlaaOwnValid
namespace Go.Proofs.Ytmndlhbgacgnlaa
open Go Go.RowKit Go.Shelf
attribute [local go_sem] Oper.semAt_some

def isK (k : Int) (e : Ex) : Bool := decide (e.kind = k)
theorem calls_nodes (n : Nat) : (∀ e : Ex, exSize e ≤ n → exCalls e = ((exNodes e).filter (isK 3)).length) ∧ (∀ l : List Ex, exSizes l ≤ n → exCallsL l = ((exNodesL l).filter (isK 3)).length) := by
  induction n with
  | zero =>
    refine ⟨fun e h => by have := exSize_pos e; omega, fun l h => ?_⟩
    cases l with
    | nil => simp [exNodesL, exCallsL]
    | cons e r => rw [exSizes] at h; have := exSize_pos e; omega
  | succ n ih =>
    have hE : ∀ e : Ex, exSize e ≤ n + 1 → exCalls e = ((exNodes e).filter (isK 3)).length := by
      intro e h
      cases e with
      | mk k s l =>
        rw [exSize] at h
        rw [exNodes, exCalls, ih.2 l (by omega), List.filter_cons]
        by_cases hk : k = 3
        · simp [isK, Ex.kind, hk]; omega
        · simp [isK, Ex.kind, hk]
    refine ⟨hE, ?_⟩
    intro l
    induction l with
    | nil => intro _; simp [exNodesL, exCallsL]
    | cons e r ihl =>
      intro h
      rw [exSizes] at h
      rw [exNodesL, exCallsL, List.filter_append, List.length_append, hE e (by omega), ihl (by omega)]
def cnt3 {wo : World} (ks : List (It wo)) : Nat := ((ks.map It.ex).filter (isK 3)).length
theorem cnt3_yes {wo : World} (ks : List (It wo)) (x : It wo) (h : x.ex.kind = 3) : cnt3 (ks ++ [x]) = cnt3 ks + 1 := by simp [cnt3, isK, h]
theorem cnt3_no {wo : World} (ks : List (It wo)) (x : It wo) (h : ¬ x.ex.kind = 3) : cnt3 (ks ++ [x]) = cnt3 ks := by simp [cnt3, isK, h]
theorem cnt3_le {wo : World} (ks : List (It wo)) : cnt3 ks ≤ ks.length := by
  have := List.length_filter_le (isK 3) (ks.map It.ex)
  simpa [cnt3] using this

theorem asK_no (k : Int) (hk : ¬ k = 3) (v : Value) (w : World) : (Instr.typeAssert (.iface (formTy k) v) 79 89 true).run Try.prog w = .ok (.tuple #[.agg #[.string ⟨#[]⟩, .slice none 0 0], .bool false]) w := by
  unfold formTy
  by_cases h1 : k = 1
  · rw [if_pos h1]; exact asVK v w
  · by_cases h2 : k = 2
    · rw [if_neg h1, if_pos h2]; exact asCK v w
    · by_cases h4 : k = 4
      · rw [if_neg h1, if_neg h2, if_neg hk, if_pos h4]; exact asSK v w
      · rw [if_neg h1, if_neg h2, if_neg hk, if_neg h4]; exact asOK v w

set_option maxRecDepth 100000 in
set_option maxHeartbeats 2000000 in
theorem calls_in (F : Fence) (n : Nat) (hFw : F = Fence.wide) (hro : F.round = none) (hF : ∀ k, F.fn k) (hn : 9 ≤ n) (e : Ex) (v : Value) (bs : List Nat) (w : World) (hv : ExIs w v e bs) (hb : exSize e ≤ 1099511627776) :
    CallsIn F n Try.prog 20 #[v] w (RetPost (.int .i64 (exCalls e : Int)) w) := by
  obtain ⟨u, rfl, hs, hu⟩ := id hv
  obtain ⟨A, c, rfl, hc1, hc2, -⟩ := id hu
  have HV := Lib.hid hv
  have HN := Lib.hid ((calls_nodes _).1 e (Nat.le_refl _))
  have h1 : 1 ≤ n := by omega
  have HFW := Lib.hid hFw
  obtain ⟨m, hm⟩ : ∃ m, m = e.args.length := ⟨_, rfl⟩
  rw [← hm] at HV hc1 ⊢
  have HM := Lib.hid hm
  clear hv hu hFw hm
  refine callsIn_of_wp_marks Try.func20 rfl (hF _) ?_ hro
  simp only [Try.ntmps20, List.size_toArray, List.length_cons, List.length_nil, Nat.reduceAdd, Nat.reduceSub, Array.replicate_succ, Array.replicate_zero, List.push_toArray, List.append_toArray, List.nil_append, List.cons_append]
  gi_wp2_with (gi_at_call 57; refine (nodesOf_in F (n - 1) hF hro (by omega) _ _ _ _ _ _).mono ?_; rintro e w' ⟨rfl, rfl⟩)
  obtain ⟨w0, hw0⟩ : ∃ w0, w0 = ((w.alloc (.cells #[.int .i64 e.kind, .string e.name, .slice A m c] 26)).alloc (.cells #[.int .i64 0] 3)) := ⟨_, rfl⟩
  rw [← hw0]
  obtain ⟨W0, hW0⟩ : ∃ W0, W0 = nodesW w0 e.kind e.name (.slice A m c) := ⟨_, rfl⟩
  rw [← hW0]
  have HX := Lib.hid (start_facts e A m c w w0 W0 hw0 hW0)
  have HW0 := Lib.hid hW0
  clear hW0 hw0
  have hx1 := HX.out.1
  refine wpIn_rangeFunc_frame hro h1 (gf := 143) (lb := nodesLb (w.heap.size + 1 + 1)) rfl (hF _) (enters_of Try.func143 (by kernel_rfl) rfl)
    (nodes_stops F (n - 1) HFW.out hro hF (by omega) w e (.slice A m c) bs HV.out hb (w.heap.size + 1 + 1) w0 W0 HX.out.2.2.2.1 HW0.out HX.out.2.2.2.2) (Below.refl _ _) (by omega) (by simp; omega) (fun _ => rfl)
    (CountI (w.heap.size + 1) cnt3) (fun _ _ _ _ => False) (count_foot _ _) (fun _ _ _ _ _ h _ _ => h) [w.heap.size + 1] (fun k hk => by simp at hk; subst hk; simp; omega) ⟨rfl, HX.out.2.2.1⟩
    (Noded (CountI (w.heap.size + 1) cnt3) (fun nb x => #[.agg #[.int .i64 e.kind, .string e.name, .slice A m c], .pointer (some ⟨w.heap.size, 0, none⟩), .int .i64 0, .pointer (some ⟨w.heap.size + 1, 0, none⟩), .pointer (some ⟨nb, 0, none⟩), undef, undef, .agg #[.int .i64 e.kind, .string e.name, .slice A m c], nodesFun (w.heap.size + 1 + 1), x.val, undef, undef, undef, undef, undef, undef, undef, undef, undef, undef])) (noded_foot (count_foot _ _) _) ?assign ?body ?done ?stop
  case assign =>
    intro l pre x Fp X KX hI hFp hFr hK
    obtain ⟨A2, c2, hu2, -, -, -⟩ := x.slice
    have hv : x.val = .agg #[.int .i64 x.ex.kind, .string x.ex.name, .slice A2 x.ex.args.length c2] := by rw [← hu2]; rfl
    have HI := Lib.hid hI
    have HU2 := Lib.hid hu2
    have HV2 := Lib.hid hv
    have HFP := Lib.hid hFp
    have HKX := Lib.hid hK
    dsimp only
    rw [hv]
    clear hu2 hv hI hFp hFr hK
    gi_wp2
    obtain ⟨q1, q2, q3⟩ := noded_new (count_foot _ _) (tm := (fun nb x => #[.agg #[.int .i64 e.kind, .string e.name, .slice A m c], .pointer (some ⟨w.heap.size, 0, none⟩), .int .i64 0, .pointer (some ⟨w.heap.size + 1, 0, none⟩), .pointer (some ⟨nb, 0, none⟩), undef, undef, .agg #[.int .i64 e.kind, .string e.name, .slice A m c], nodesFun (w.heap.size + 1 + 1), x.val, undef, undef, undef, undef, undef, undef, undef, undef, undef, undef])) HI.out (fun k hk => (HFP.out k hk).2) HU2.out rfl
    refine HKX.out _ _ _ q1 q2 ?_
    exact (by simpa only [HV2.out] using q3)
  case body =>
    rintro l pre x _ Fp X ⟨nb, _, rfl, hnx, hnb, ⟨rfl, hB⟩, rfl⟩ hFp hFr hlen
    have hn3 : 1 ≤ n - 1 - 1 := by omega
    obtain ⟨A2, c2, hu2, -, -, -⟩ := x.slice
    obtain ⟨q2, hq2⟩ : ∃ q2, q2 = x.ex.args.length := ⟨_, rfl⟩
    rw [← hq2] at hu2
    rw [hu2] at hnx
    have hn0 : X.cell? ⟨nb, 0, none⟩ = some (.int .i64 x.ex.kind) := by simp [World.cell?, hnx]
    have hn1 : X.cell? ⟨nb, 1, none⟩ = some (.string x.ex.name) := by simp [World.cell?, hnx]
    have hn2 : X.cell? ⟨nb, 2, none⟩ = some (.slice A2 q2 c2) := by simp [World.cell?, hnx]
    have HP := Lib.hid (cnt3_le pre)
    have HLEN := Lib.hid hlen
    have HB := Lib.hid hB
    have HBX := Lib.hid (fun (w2 : World) (hb2 : Below X.heap.size X w2) => And.intro (box_on hB (hb2.block _ hB.lt)).cell (And.intro (box_on hB (hb2.block _ hB.lt)).frozen (box_on hB (hb2.block _ hB.lt)).lt))
    have hp : (cnt3 pre : Int) ≤ 1099511627776 := by have := HP.out; have := HLEN.out; omega
    clear hu2 hq2 hnx hB hlen hFp hFr
    by_cases hk : x.ex.kind = 3
    · have HC := Lib.hid (cnt3_yes pre x hk)
      have aK := asKK
      have HT := Lib.hid (show formTy x.ex.kind = 89 by rw [hk]; rfl)
      clear hk
      gi_wp2_with (gi_at_call 60; refine (at_wide HFW.out (own_form _ _ _ _ _ _) l).mono ?_; rintro r w2 ⟨rfl, hb2⟩; rw [HT.out]; obtain ⟨hc2, hf2, hl2⟩ := HBX.out w2 hb2; have HB2 := Lib.hid hb2; clear hb2)
      exact count_up HB.out HB2.out _ HC.out
    · have HC := Lib.hid (cnt3_no pre x hk)
      have aK := asK_no x.ex.kind hk
      clear hk
      gi_wp2_with (gi_at_call 60; refine (at_wide HFW.out (own_form _ _ _ _ _ _) l).mono ?_; rintro r w2 ⟨rfl, hb2⟩; obtain ⟨hc2, hf2, hl2⟩ := HBX.out w2 hb2; have HB2 := Lib.hid hb2; clear hb2)
      exact count_same HB.out HB2.out _ HC.out
  case done =>
    rintro D ks Fp X hD hDF hFl hS ⟨rfl, hB⟩ hFr hK
    have hlen : cnt3 ks = exCalls e := by rw [HN.out, ← hS]; rfl
    rw [hlen] at hB
    have hc := hB.cell
    have HB := Lib.hid hB
    have HK := Lib.hid hK
    have HFR := Lib.hid hFr
    clear hB hK hFr hlen hS
    gi_wp2
    refine ⟨by simp, .inl ⟨_, _, rfl, run_takeDeferred HK.out, ?_⟩⟩
    exact ⟨_, results_tmp rfl _ _ _, rfl, (HX.out.2.1.trans (HFR.out.below (by simp; omega) (by omega))).trans ((Fr.put (S := [D]) X _ _ (by simp)).below (by simp; omega) (by have := HFR.out.size; omega))⟩
  case stop =>
    rintro D c pre Fp X _ _ _ _ h _ _
    exact h.elim
theorem own_calls (e : Ex) (v : Value) (bs : List Nat) (w : World) (hv : ExIs w v e bs) (hb : exSize e ≤ 1099511627776) : Calls Try.prog 20 #[v] w (RetPost (.int .i64 (exCalls e : Int)) w) :=
  callsIn_wide.1 (calls_in Fence.wide 9 rfl rfl (fun _ => trivial) (Nat.le_refl _) e v bs w hv hb)
end Go.Proofs.Ytmndlhbgacgnlaa

namespace Go.Proofs.Ytmndlhbgacgnlaa
open Go Go.RowKit Go.Shelf
attribute [local go_sem] Oper.semAt_some

def conE (e : Ex) : Bool := decide (e.kind = 2)
theorem dat_nodes (n : Nat) : (∀ e : Ex, exSize e ≤ n → exDat e = (exNodes e).all conE) ∧ (∀ l : List Ex, exSizes l ≤ n → exDatL l = (exNodesL l).all conE) := by
  induction n with
  | zero =>
    refine ⟨fun e h => by have := exSize_pos e; omega, fun l h => ?_⟩
    cases l with
    | nil => simp [exNodesL, exDatL]
    | cons e r => rw [exSizes] at h; have := exSize_pos e; omega
  | succ n ih =>
    have hE : ∀ e : Ex, exSize e ≤ n + 1 → exDat e = (exNodes e).all conE := by
      intro e h
      cases e with
      | mk k s l =>
        rw [exSize] at h
        rw [exNodes, exDat, ih.2 l (by omega), List.all_cons, Bool.and_comm]
        rfl
    refine ⟨hE, ?_⟩
    intro l
    induction l with
    | nil => intro _; simp [exNodesL, exDatL]
    | cons e r ihl =>
      intro h
      rw [exSizes] at h
      rw [exNodesL, exDatL, List.all_append, hE e (by omega), ihl (by omega)]

theorem asC_no (k : Int) (hk : ¬ k = 2) (v : Value) (w : World) : (Instr.typeAssert (.iface (formTy k) v) 79 93 true).run Try.prog w = .ok (.tuple #[.agg #[.string ⟨#[]⟩, .slice none 0 0], .bool false]) w := by
  unfold formTy
  by_cases h1 : k = 1
  · rw [if_pos h1]; exact asVC v w
  · by_cases h3 : k = 3
    · rw [if_neg h1, if_neg hk, if_pos h3]; exact asKC v w
    · by_cases h4 : k = 4
      · rw [if_neg h1, if_neg hk, if_neg h3, if_pos h4]; exact asSC v w
      · rw [if_neg h1, if_neg hk, if_neg h3, if_neg h4]; exact asOC v w

def DatI {wo : World} (rb : Nat) (ks : List (It wo)) (Fp : List Nat) (X : World) : Prop := Fp = [rb] ∧ Boxed X rb 4 (.bool false) ∧ (ks.map It.ex).all conE = true
def DatX {wo : World} (rb : Nat) (c : Code) (ks : List (It wo)) (Fp : List Nat) (X : World) : Prop := c = .ret ∧ Fp = [rb] ∧ Boxed X rb 4 (.bool false) ∧ (ks.map It.ex).all conE = false
theorem dati_foot {wo : World} (rb : Nat) (ks : List (It wo)) : Foot (DatI rb ks) := by
  rintro Fp X Y ⟨rfl, h1, h3⟩ _ hk
  exact ⟨rfl, box_on h1 (hk rb (by simp)), h3⟩
theorem datx_foot {wo : World} (rb : Nat) (c : Code) (ks : List (It wo)) : Foot (DatX rb c ks) := by
  rintro Fp X Y ⟨h0, rfl, h1, h2⟩ _ hk
  exact ⟨h0, rfl, box_on h1 (hk rb (by simp)), h2⟩
theorem dat_go {wo : World} {rb nb : Nat} {ks : List (It wo)} {x : It wo} {X w2 : World} (hr : Boxed X rb 4 (.bool false)) (hb : Below X.heap.size X w2) (o : Obj) (ha : (ks.map It.ex).all conE = true) (hx : conE x.ex = true) :
    ∃ Fp2, Fr [nb, rb] X (w2.alloc o) ∧ (∀ k ∈ Fp2, (k ∈ [nb, rb] ∨ X.heap.size ≤ k) ∧ k < (w2.alloc o).heap.size) ∧ DatI rb (ks ++ [x]) Fp2 (w2.alloc o) := by
  have hsz := hb.size
  have h1 := hr.lt
  refine ⟨[rb], (Fr.of_below hb).trans (Fr.alloc (S := [nb, rb]) _ _) (fun x h => Or.inl h), fun k hk => ?_, rfl, (box_on hr (hb.block _ h1)).alloc o, by simp only [List.map_append, List.all_append, ha, List.map_cons, List.map_nil, List.all_cons, List.all_nil, hx, Bool.and_true]⟩
  simp at hk
  subst hk
  exact ⟨Or.inl (by simp), by simp; omega⟩
theorem dat_stop {wo : World} {rb nb : Nat} {ks : List (It wo)} {x : It wo} {X w2 : World} (hr : Boxed X rb 4 (.bool false)) (hb : Below X.heap.size X w2) (o : Obj) (hx : conE x.ex = false) :
    ∃ Fp2, Fr [nb, rb] X ((w2.setCell ⟨rb, 0, none⟩ (.bool false)).alloc o) ∧ (∀ k ∈ Fp2, (k ∈ [nb, rb] ∨ X.heap.size ≤ k) ∧ k < ((w2.setCell ⟨rb, 0, none⟩ (.bool false)).alloc o).heap.size) ∧ DatX rb .ret (ks ++ [x]) Fp2 ((w2.setCell ⟨rb, 0, none⟩ (.bool false)).alloc o) := by
  have hsz := hb.size
  have h1 := hr.lt
  refine ⟨[rb], ((Fr.of_below hb).trans (Fr.set (S := [nb, rb]) _ _ _ (by simp)) (fun x h => Or.inl h)).trans (Fr.alloc (S := [nb, rb]) _ _) (fun x h => Or.inl h), fun k hk => ?_, rfl, rfl, ((box_on hr (hb.block _ h1)).set _).alloc o, by simp [hx]⟩
  simp at hk
  subst hk
  exact ⟨Or.inl (by simp), by simp [World.setCell]; omega⟩

theorem start_data {e : Ex} {A : Option Addr} {m c : Nat} {w w1 : World} (h : Below ((w.alloc (.cells #[.int .i64 e.kind, .string e.name, .slice A m c] 26)).alloc (.cells #[.bool false] 4)).heap.size ((w.alloc (.cells #[.int .i64 e.kind, .string e.name, .slice A m c] 26)).alloc (.cells #[.bool false] 4)) w1) :
    Below w.heap.size w w1 ∧ Boxed w1 (w.heap.size + 1) 4 (.bool false) ∧ w1.heap[w.heap.size]? = some (.cells #[.int .i64 e.kind, .string e.name, .slice A m c] 26 (0, 0)) ∧ w.heap.size + 2 ≤ w1.heap.size := by
  have b0 := World.alloc_heap_new w (.cells #[.int .i64 e.kind, .string e.name, .slice A m c] 26)
  have b1 := Boxed.new (w.alloc (.cells #[.int .i64 e.kind, .string e.name, .slice A m c] 26)) 4 (.bool false)
  have hs := h.size
  simp only [World.size_alloc] at b1 hs
  refine ⟨(((Below.refl _ w).alloc (Nat.le_refl _) _).alloc (by simp) _).trans (h.mono (by simp; omega)), box_on b1 (h.block _ (by simp)), ?_, by omega⟩
  exact (h.block _ (by simp; omega)).trans ((Below.heap_alloc _ _ _ (by simp)).trans b0)

theorem ebox {X : World} {b : Nat} {k : Int} {s : ByteArray} {u : Value} (h : X.heap[b]? = some (.cells #[.int .i64 k, .string s, u] 26 (0, 0))) : X.cell? ⟨b, 0, none⟩ = some (.int .i64 k) ∧ X.cell? ⟨b, 1, none⟩ = some (.string s) ∧ X.cell? ⟨b, 2, none⟩ = some u := by
  simp [World.cell?, h]

set_option maxRecDepth 100000 in
set_option maxHeartbeats 2000000 in
theorem data_in (F : Fence) (n : Nat) (hFw : F = Fence.wide) (hro : F.round = none) (hF : ∀ k, F.fn k) (hn : 9 ≤ n) (e : Ex) (v : Value) (bs : List Nat) (w : World) (hv : ExIs w v e bs) (hb : exSize e ≤ 1099511627776) :
    CallsIn F n Try.prog 24 #[v] w (RetPost (.bool (exIsData e)) w) := by
  obtain ⟨u, rfl, hs, hu⟩ := id hv
  obtain ⟨A, c, rfl, hc1, hc2, -⟩ := id hu
  have HV := Lib.hid hv
  have HN := Lib.hid ((dat_nodes _).1 e (Nat.le_refl _))
  have h1 : 1 ≤ n := by omega
  have HFW := Lib.hid hFw
  obtain ⟨m, hm⟩ : ∃ m, m = e.args.length := ⟨_, rfl⟩
  rw [← hm] at HV hc1 ⊢
  have HM := Lib.hid hm
  have HCV := Lib.hid (fun (X : World) (hX : Below w.heap.size w X) => wide_in (n := n - 1) HFW.out (own_valid e (.agg #[.int .i64 e.kind, .string e.name, .slice A m c]) bs X (HV.out.below hX) hb))
  have HLW0 := Lib.hid (((Below.refl _ w).alloc (Nat.le_refl _) (.cells #[.int .i64 e.kind, .string e.name, .slice A m c] 26)).alloc (by simp) (.cells #[.bool false] 4))
  clear hv hu hFw hm
  have HVE := Lib.hid (show exIsData e = (exValid e && exDat e) from rfl)
  generalize hva : exValid e = va at HCV HVE
  clear hva
  refine callsIn_of_wp_marks Try.func24 rfl (hF _) ?_ hro
  simp only [Try.ntmps24, List.size_toArray, List.length_cons, List.length_nil, Nat.reduceAdd, Nat.reduceSub, Array.replicate_succ, Array.replicate_zero, List.push_toArray, List.append_toArray, List.nil_append, List.cons_append]
  cases va
  · have HE := Lib.hid (show exIsData e = false by rw [HVE.out, Bool.false_and])
    gi_wp2_with (gi_at_call 15; refine (HCV.out _ HLW0.out).mono ?_; rintro r w1 ⟨rfl, hb1⟩; have HW1 := Lib.hid (start_data hb1); have hw1c := HW1.out.2.1.cell; have hw1f := HW1.out.2.1.frozen; have hw1l := HW1.out.2.1.lt; clear hb1)
    rw [HE.out]
    exact ⟨.bool false, res_bool rfl _ _ (w.heap.size + 1) false rfl (HW1.out.2.1.set _).cell, rfl, HW1.out.1.setCell (p := ⟨w.heap.size + 1, 0, none⟩) (by simp) _⟩
  · gi_wp2_with (first
      | (gi_at_call 15; refine (HCV.out _ HLW0.out).mono ?_; rintro r w1 ⟨rfl, hb1⟩; have HW1 := Lib.hid (start_data hb1); obtain ⟨hy0, hy1, hy2⟩ := ebox HW1.out.2.2.1; clear hb1)
      | (gi_at_call 57; refine (nodesOf_in F (n - 1) hF hro (by omega) _ _ _ _ _ _).mono ?_; rintro e w' ⟨rfl, rfl⟩))
    have HE := Lib.hid (show exIsData e = exDat e by rw [HVE.out, Bool.true_and])
    obtain ⟨W0, hW0⟩ : ∃ W0, W0 = nodesW w1 e.kind e.name (.slice A m c) := ⟨_, rfl⟩
    rw [← hW0]
    have HX := Lib.hid (show W0.heap.size = w1.heap.size + 3 ∧ Below w.heap.size w W0 ∧ Boxed W0 (w.heap.size + 1) 4 (.bool false) by
      rw [hW0]
      exact ⟨nodesW_size _ _ _ _, nodesW_below HW1.out.1 HW1.out.1.size _ _ _, box_on HW1.out.2.1 (nodesW_old _ _ _ HW1.out.2.1.lt)⟩)
    have HW0 := Lib.hid hW0
    clear hW0
    have hx1 := HX.out.1
    have hx2 := HW1.out.2.2.2
    refine wpIn_rangeFunc_frame hro h1 (gf := 143) (lb := nodesLb (w1.heap.size)) rfl (hF _) (enters_of Try.func143 (by kernel_rfl) rfl)
      (nodes_stops F (n - 1) HFW.out hro hF (by omega) w e (.slice A m c) bs HV.out hb w1.heap.size w1 W0 rfl HW0.out HW1.out.1) (Below.refl _ _) (by omega) (by simp; omega) (fun _ => rfl)
      (DatI (w.heap.size + 1)) (DatX (w.heap.size + 1)) (dati_foot _) (datx_foot _) [w.heap.size + 1] (fun k hk => by simp at hk; subst hk; simp; omega) ⟨rfl, HX.out.2.2, by simp⟩
      (Noded (DatI (w.heap.size + 1)) (fun nb x => #[.agg #[.int .i64 e.kind, .string e.name, .slice A m c], .pointer (some ⟨w.heap.size, 0, none⟩), .pointer (some ⟨w.heap.size + 1, 0, none⟩), .pointer (some ⟨nb, 0, none⟩), undef, undef, .agg #[.int .i64 e.kind, .string e.name, .slice A m c], .bool true, .bool false, .agg #[.int .i64 e.kind, .string e.name, .slice A m c], nodesFun (w1.heap.size), x.val, undef, undef, undef, undef, undef, undef, undef, undef])) (noded_foot (dati_foot _) _) ?assign ?body ?done ?stop
    case assign =>
      intro l pre x Fp X KX hI hFp hFr hK
      obtain ⟨A2, c2, hu2, -, -, -⟩ := x.slice
      have hv : x.val = .agg #[.int .i64 x.ex.kind, .string x.ex.name, .slice A2 x.ex.args.length c2] := by rw [← hu2]; rfl
      have HI := Lib.hid hI
      have HU2 := Lib.hid hu2
      have HV2 := Lib.hid hv
      have HFP := Lib.hid hFp
      have HKX := Lib.hid hK
      dsimp only
      rw [hv]
      clear hu2 hv hI hFp hFr hK
      gi_wp2
      obtain ⟨q1, q2, q3⟩ := noded_new (dati_foot _) (tm := (fun nb x => #[.agg #[.int .i64 e.kind, .string e.name, .slice A m c], .pointer (some ⟨w.heap.size, 0, none⟩), .pointer (some ⟨w.heap.size + 1, 0, none⟩), .pointer (some ⟨nb, 0, none⟩), undef, undef, .agg #[.int .i64 e.kind, .string e.name, .slice A m c], .bool true, .bool false, .agg #[.int .i64 e.kind, .string e.name, .slice A m c], nodesFun (w1.heap.size), x.val, undef, undef, undef, undef, undef, undef, undef, undef])) HI.out (fun k hk => (HFP.out k hk).2) HU2.out rfl
      refine HKX.out _ _ _ q1 q2 ?_
      exact (by simpa only [HV2.out] using q3)
    case body =>
      rintro l pre x _ Fp X ⟨nb, _, rfl, hnx, hnb, ⟨rfl, hR, hall⟩, rfl⟩ hFp hFr hlen
      have hn3 : 1 ≤ n - 1 - 1 := by omega
      obtain ⟨A2, c2, hu2, -, -, -⟩ := x.slice
      obtain ⟨q2, hq2⟩ : ∃ q2, q2 = x.ex.args.length := ⟨_, rfl⟩
      rw [← hq2] at hu2
      rw [hu2] at hnx
      have hn0 : X.cell? ⟨nb, 0, none⟩ = some (.int .i64 x.ex.kind) := by simp [World.cell?, hnx]
      have hn1 : X.cell? ⟨nb, 1, none⟩ = some (.string x.ex.name) := by simp [World.cell?, hnx]
      have hn2 : X.cell? ⟨nb, 2, none⟩ = some (.slice A2 q2 c2) := by simp [World.cell?, hnx]
      have HR := Lib.hid hR
      have HALL := Lib.hid hall
      have HBX := Lib.hid (fun (w2 : World) (hb2 : Below X.heap.size X w2) => And.intro (box_on hR (hb2.block _ hR.lt)).cell (And.intro (box_on hR (hb2.block _ hR.lt)).frozen (box_on hR (hb2.block _ hR.lt)).lt))
      clear hu2 hq2 hnx hR hall hlen hFp hFr
      by_cases hk : x.ex.kind = 2
      · have HC := Lib.hid (show conE x.ex = true by simp [conE, hk])
        have aC := asCC
        have HT := Lib.hid (show formTy x.ex.kind = 93 by rw [hk]; rfl)
        clear hk
        gi_wp2_with (gi_at_call 60; refine (at_wide HFW.out (own_form _ _ _ _ _ _) l).mono ?_; rintro r w2 ⟨rfl, hb2⟩; rw [HT.out]; obtain ⟨hc2, hf2, hl2⟩ := HBX.out w2 hb2; have HB2 := Lib.hid hb2; clear hb2)
        exact dat_go HR.out HB2.out _ HALL.out HC.out
      · have HC := Lib.hid (show conE x.ex = false by simp [conE, hk])
        have aC := asC_no x.ex.kind hk
        clear hk
        gi_wp2_with (gi_at_call 60; refine (at_wide HFW.out (own_form _ _ _ _ _ _) l).mono ?_; rintro r w2 ⟨rfl, hb2⟩; obtain ⟨hc2, hf2, hl2⟩ := HBX.out w2 hb2; have HB2 := Lib.hid hb2; clear hb2)
        exact dat_stop HR.out HB2.out _ HC.out
    case done =>
      rintro D ks Fp X hD hDF hFl hS ⟨rfl, hR, hall⟩ hFr hK
      have HDT := Lib.hid (show exDat e = true by rw [HN.out, ← hS]; exact hall)
      have hrc := hR.cell
      have hrf := hR.frozen
      have hrl := hR.lt
      have HR := Lib.hid hR
      have HK := Lib.hid hK
      have HLW := Lib.hid (show Below w.heap.size w X from HX.out.2.1.trans (hFr.below (by simp; omega) (by omega)))
      have HDX := Lib.hid (show D ≠ w.heap.size + 1 by omega)
      clear hR hall hFr hK hS
      gi_wp2
      rw [HE.out, HDT.out]
      exact bool_end rfl rfl (HR.out.set _) ((Below.heap_setCell _ _ _ _ HDX.out).trans HK.out) HDX.out (by omega) (HLW.out.setCell (p := ⟨w.heap.size + 1, 0, none⟩) (by simp) _)
    case stop =>
      rintro D c pre Fp X hD hDF hFl hSp ⟨rfl, rfl, hR, hbad⟩ hFr hK
      have HDT := Lib.hid (show exDat e = false by
        obtain ⟨t, ht⟩ := hSp
        rw [HN.out, ← ht, List.all_append, hbad, Bool.false_and])
      have HR := Lib.hid hR
      have HK := Lib.hid hK
      have HLW := Lib.hid (show Below w.heap.size w X from HX.out.2.1.trans (hFr.below (by simp; omega) (by omega)))
      have HDX := Lib.hid (show D ≠ w.heap.size + 1 by omega)
      clear hR hbad hFr hK hSp
      gi_wp2
      rw [HE.out, HDT.out]
      exact bool_end rfl rfl HR.out HK.out HDX.out (by omega) HLW.out
theorem own_data (e : Ex) (v : Value) (bs : List Nat) (w : World) (hv : ExIs w v e bs) (hb : exSize e ≤ 1099511627776) : Calls Try.prog 24 #[v] w (RetPost (.bool (exIsData e)) w) :=
  callsIn_wide.1 (data_in Fence.wide 9 rfl rfl (fun _ => trivial) (Nat.le_refl _) e v bs w hv hb)
end Go.Proofs.Ytmndlhbgacgnlaa
