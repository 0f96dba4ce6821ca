/- A part of the proof of the seat's statement: OwnVars. Condition: as each says. -/
import Derived.Test.YtiaknfnhmoinpaaGreatOwnSize
import Derived.Test.YtiaknfnhmoinpaaGreatOwnDepth
import Derived.Test.YtiaknfnhmoinpaaGreatOwnUnite
import Derived.Test.YtiaknfnhmoinpaaGreatValidEq
import Derived.Maps.OwnIn
set_option maxHeartbeats 8000000
namespace Go.Proofs.YtiaknfnhmoinpaaGreat
open Go Go.RowKit Go.Shelf
attribute [local go_sem] Oper.semAt_some
def varE (e : Ex) : Bool := decide (e.kind = 1)
theorem unite_add (out : List ByteArray) (s : ByteArray) (r : List ByteArray) : uniteFrom out (s :: r) = uniteFrom (addName out s) r := by
 rw [uniteFrom, addName]
 split <;> rfl
theorem unite_app : ∀ (a b out : List ByteArray), uniteFrom out (a ++ b) = uniteFrom (uniteFrom out a) b := by
 intro a
 induction a with
 | nil => intro b out; simp [uniteFrom]
 | cons x r ih => intro b out; rw [List.cons_append, unite_add, unite_add, ih]
theorem vars_nodes (n : Nat) : (∀ (e : Ex) (out : List ByteArray), exSize e ≤ n → exVars out e = uniteFrom out (((exNodes e).filter varE).map Ex.name)) ∧ (∀ (l : List Ex) (out : List ByteArray), exSizes l ≤ n → exVarsL out l = uniteFrom out (((exNodesL l).filter varE).map Ex.name)) := by
 induction n with
 | zero =>
  refine ⟨fun e out h => by have := exSize_pos e; omega, fun l out h => ?_⟩
  cases l with
  | nil => simp [exNodesL, exVarsL, uniteFrom]
  | cons e r => rw [exSizes] at h; have := exSize_pos e; omega
 | succ n ih =>
  have hE : ∀ (e : Ex) (out : List ByteArray), exSize e ≤ n + 1 → exVars out e = uniteFrom out (((exNodes e).filter varE).map Ex.name) := by
   intro e out h
   cases e with
   | mk k s l =>
    rw [exSize] at h
    rw [exNodes, exVars, ih.2 l _ (by omega), List.filter_cons]
    by_cases hk : k = 1
    · rw [if_pos hk, if_pos (by simp [varE, Ex.kind, hk]), List.map_cons, unite_add]; rfl
    rw [if_neg hk, if_neg (by simp [varE, Ex.kind, hk])]
  refine ⟨hE, ?_⟩
  intro l
  induction l with
  | nil => intro out _; simp [exNodesL, exVarsL, uniteFrom]
  | cons e r ihl =>
   intro out h
   rw [exSizes] at h
   rw [exNodesL, exVarsL, List.filter_append, List.map_append, unite_app, hE e out (by omega), ihl _ (by omega)]
theorem asV_no (k : Int) (hk : ¬ k = 1) (v : Value) (w : World) : (Instr.typeAssert (.iface (formTy k) v) 91 114 true).run Tryz.prog w = .ok (.tuple #[.agg #[.string ⟨#[]⟩, .slice none 0 0], .bool false]) w := by
 unfold formTy
 by_cases h2 : k = 2
 · rw [if_neg hk, if_pos h2]; exact asCV v w
 by_cases h3 : k = 3
 · rw [if_neg hk, if_neg h2, if_pos h3]; exact asKV v w
 by_cases h4 : k = 4
 · rw [if_neg hk, if_neg h2, if_neg h3, if_pos h4]; exact asSV v w
 rw [if_neg hk, if_neg h2, if_neg h3, if_neg h4]; exact asOV v w
def vnames {wo : World} (ks : List (It wo)) : List ByteArray := ((ks.map It.ex).filter varE).map Ex.name
theorem vnames_yes {wo : World} (ks : List (It wo)) (x : It wo) (h : x.ex.kind = 1) : vnames (ks ++ [x]) = vnames ks ++ [x.ex.name] := by simp [vnames, varE, h]
theorem vnames_no {wo : World} (ks : List (It wo)) (x : It wo) (h : ¬ x.ex.kind = 1) : vnames (ks ++ [x]) = vnames ks := by simp [vnames, varE, h]
theorem vnames_le {wo : World} (ks : List (It wo)) : (vnames ks).length ≤ ks.length := by
 have := List.length_filter_le varE (ks.map It.ex)
 simpa [vnames] using this
theorem vnames_size {wo : World} (ks : List (It wo)) : ∀ s ∈ vnames ks, s.size ≤ 9223372036854775807 := by
 intro s hs
 simp only [vnames, List.mem_map, List.mem_filter] at hs
 obtain ⟨e, ⟨⟨x, -, rfl⟩, -⟩, rfl⟩ := hs
 obtain ⟨u, -, h, -⟩ := x.2
 exact h
def VarI {wo : World} (B n₀ : Nat) (ks : List (It wo)) (Fp : List Nat) (X : World) : Prop := ∃ AO co, Fp = B :: (Value.ownBlock (.slice AO (vnames ks).length co)).toList ∧ Boxed X B 29 (.slice AO (vnames ks).length co) ∧ OwnsL n₀ X (.slice AO (vnames ks).length co) (vnames ks)
theorem vari_foot {wo : World} (B n₀ : Nat) (ks : List (It wo)) : Foot (VarI B n₀ ks) := by
 rintro Fp X Y ⟨AO, co, rfl, h1, h2⟩ _ hk
 exact ⟨AO, co, rfl, box_on h1 (hk B (by simp)), row_on h2 (fun k e => hk k (by rw [e]; simp))⟩
theorem var_same {wo : World} {B n₀ nb : Nat} {ks : List (It wo)} {x : It wo} {X w2 : World} {AO : Option Addr} {co : Nat} (hB : Boxed X B 29 (.slice AO (vnames ks).length co)) (hO : OwnsL n₀ X (.slice AO (vnames ks).length co) (vnames ks)) (hb : Below X.heap.size X w2) (o : Obj) (hx : vnames (ks ++ [x]) = vnames ks) :
 ∃ Fp2, Fr (nb :: B :: (Value.ownBlock (.slice AO (vnames ks).length co)).toList) X (w2.alloc o) ∧ (∀ k ∈ Fp2, (k ∈ (nb :: B :: (Value.ownBlock (.slice AO (vnames ks).length co)).toList) ∨ X.heap.size ≤ k) ∧ k < (w2.alloc o).heap.size) ∧ VarI B n₀ (ks ++ [x]) Fp2 (w2.alloc o) := by
 have hsz := hb.size
 have h1 := hB.lt
 refine ⟨B :: (Value.ownBlock (.slice AO (vnames ks).length co)).toList, (Fr.of_below hb).trans (Fr.alloc (S := nb :: B :: (Value.ownBlock (.slice AO (vnames ks).length co)).toList) _ _) (fun x h => Or.inl h), fun k hk => ⟨Or.inl (List.mem_cons_of_mem _ hk), ?_⟩, AO, co, by rw [hx], by rw [hx]; exact (box_on hB (hb.block _ h1)).alloc o, ?_⟩
 · rcases List.mem_cons.1 hk with rfl | hk
   · simp; omega
   have := (World.ownsRow.lt hO k (by simpa using hk)).2
   simp; omega
 rw [hx]
 exact World.ownsRow.alloc (row_on hO (fun k e => hb.block _ (World.ownsRow.lt hO k e).2)) o
theorem var_mid {wo : World} {B n₀ : Nat} {pre : List (It wo)} {X w2 : World} {AO : Option Addr} {co : Nat} {s : ByteArray} {o : Obj} (hB : Boxed X B 29 (.slice AO (vnames pre).length co)) (hO : OwnsL n₀ X (.slice AO (vnames pre).length co) (vnames pre)) (hn : n₀ ≤ X.heap.size) (hb : Below X.heap.size X w2) :
 (w2.cell? ⟨B, 0, none⟩ = some (.slice AO (vnames pre).length co) ∧ w2.frozen? ⟨B, 0, none⟩ = false ∧ B < w2.heap.size) ∧ OwnsL n₀ ((w2.alloc o).alloc (.cells #[.string s] 9)) (.slice AO (vnames pre).length co) (vnames pre) ∧
  (∀ j u, [Value.string s][j]? = some u → ((w2.alloc o).alloc (.cells #[.string s] 9)).cell? ((⟨w2.heap.size + 1, 0, none⟩ : Addr).add j) = some u) ∧ n₀ ≤ ((w2.alloc o).alloc (.cells #[.string s] 9)).heap.size := by
 have h2 : Boxed w2 B 29 (.slice AO (vnames pre).length co) := box_on hB (hb.block _ hB.lt)
 have hs := hb.size
 refine ⟨⟨h2.cell, h2.frozen, h2.lt⟩, (World.ownsRow.alloc (World.ownsRow.alloc (row_on hO (fun k e => hb.block _ (World.ownsRow.lt hO k e).2)) _) _), ?_, by simp; omega⟩
 have := cell_new (W := w2.alloc o) (x := s)
 rw [World.size_alloc] at this
 exact this
theorem var_box {B n₀ n : Nat} {w2 w4 : World} {AO : Option Addr} {co : Nat} {o o2 : Obj} {xs : List Value} (hB : Boxed w2 B 29 (.slice AO n co)) (hO : ((w2.alloc o).alloc o2).ownsRow n₀ 9 1 (.slice AO n co) n xs) (hg : ((w2.alloc o).alloc o2).grownBy w4 (Value.ownBlock (.slice AO n co))) :
 Boxed w4 B 29 (.slice AO n co) := by
 have h3 : Boxed ((w2.alloc o).alloc o2) B 29 (.slice AO n co) := (hB.alloc o).alloc o2
 exact h3.kept hg (Boxed.not_row h3 (by decide) hO)
theorem var_push {wo : World} {B n₀ nb : Nat} {ks : List (It wo)} {x : It wo} {X w2 w4 : World} {AO : Option Addr} {co g4 cap4 : Nat} {o o2 : Obj} (hB : Boxed X B 29 (.slice AO (vnames ks).length co)) (hb : Below X.heap.size X w2) (hx : vnames (ks ++ [x]) = vnames ks ++ [x.ex.name])
 (hg : ((w2.alloc o).alloc o2).grownBy w4 (Value.ownBlock (.slice AO (vnames ks).length co))) (ho : w4.ownsRow n₀ 9 1 (.slice (some ⟨g4, 0, none⟩) ((vnames ks).length + 1) cap4) ((vnames ks).length + 1) ((vnames ks).map Value.string ++ [.string x.ex.name])) (hb4 : Boxed w4 B 29 (.slice AO (vnames ks).length co))
 (hat : Value.ownBlock (.slice (some ⟨g4, 0, none⟩) ((vnames ks).length + 1) cap4) = Value.ownBlock (.slice AO (vnames ks).length co) ∨ Value.ownBlock (.slice (some ⟨g4, 0, none⟩) ((vnames ks).length + 1) cap4) = some ((w2.alloc o).alloc o2).heap.size) :
 ∃ Fp2, Fr (nb :: B :: (Value.ownBlock (.slice AO (vnames ks).length co)).toList) X (w4.setCell ⟨B, 0, none⟩ (.slice (some ⟨g4, 0, none⟩) ((vnames ks).length + 1) cap4)) ∧ (∀ k ∈ Fp2, (k ∈ (nb :: B :: (Value.ownBlock (.slice AO (vnames ks).length co)).toList) ∨ X.heap.size ≤ k) ∧ k < (w4.setCell ⟨B, 0, none⟩ (.slice (some ⟨g4, 0, none⟩) ((vnames ks).length + 1) cap4)).heap.size) ∧ VarI B n₀ (ks ++ [x]) Fp2 (w4.setCell ⟨B, 0, none⟩ (.slice (some ⟨g4, 0, none⟩) ((vnames ks).length + 1) cap4)) := by
 have hsz := hb.size
 have hs4 := hg.size
 simp only [World.size_alloc] at hs4 hat
 have hBl := hB.lt
 have hgl := (ho.lt g4 rfl).2
 have hgB : g4 ≠ B := fun e => Boxed.not_row hb4 (by decide) ho (by simp [Value.ownBlock, e])
 have hl : (vnames (ks ++ [x])).length = (vnames ks).length + 1 := by rw [hx]; simp
 have hgm : g4 ∈ (Value.ownBlock (.slice AO (vnames ks).length co)).toList ∨ X.heap.size ≤ g4 := by
  rcases hat with h | h
  · exact Or.inl (by rw [← h]; simp [Value.ownBlock])
  exact Or.inr (by have : g4 = w2.heap.size + 1 + 1 := (by simpa [Value.ownBlock] using h); omega)
 refine ⟨[B, g4], ?_, fun k hk => ?_, some ⟨g4, 0, none⟩, cap4, rfl, by rw [hl]; exact hb4.set _, ?_⟩
 · refine (((Fr.of_below hb).trans ((Fr.alloc (S := nb :: B :: (Value.ownBlock (.slice AO (vnames ks).length co)).toList) _ o).trans (Fr.alloc _ o2) (fun x h => Or.inl h)) (fun x h => Or.inl h)).trans (Fr.grown (S := nb :: B :: (Value.ownBlock (.slice AO (vnames ks).length co)).toList) hg (fun k e => by rw [e]; simp)) (fun x h => Or.inl h)).trans (Fr.set (S := nb :: B :: (Value.ownBlock (.slice AO (vnames ks).length co)).toList) _ _ _ (by simp)) (fun x h => Or.inl h)
 · simp at hk
   rcases hk with rfl | rfl
   · exact ⟨Or.inl (by simp), by simp [World.setCell]; omega⟩
   exact ⟨hgm.imp (fun h => List.mem_cons_of_mem _ (List.mem_cons_of_mem _ h)) id, by simp [World.setCell]; omega⟩
 unfold OwnsL
 rw [hl, hx, List.map_append]
 exact row_on ho (fun j hj => Below.heap_setCell _ _ _ _ (by rw [show j = g4 by simpa [Value.ownBlock, eq_comm] using hj]; exact hgB))
theorem start_vars (e : Ex) (A : Option Addr) (m c : Nat) (w w0 W0 : World) (hw0 : w0 = ((w.alloc (.cells #[.int .i64 e.kind, .string e.name, .slice A m c] 32)).alloc (.cells #[.slice none 0 0] 29))) (h : W0 = nodesW w0 e.kind e.name (.slice A m c)) :
 W0.heap.size = w.heap.size + 5 ∧ Below w.heap.size w W0 ∧ Boxed W0 (w.heap.size + 1) 29 (.slice none 0 0) ∧ w.heap.size + 1 + 1 = w0.heap.size ∧ Below w.heap.size w w0 := by
 have hs : w0.heap.size = w.heap.size + 2 := by rw [hw0]; simp
 have hb : Below w.heap.size w w0 := by rw [hw0]; exact ((wB _ w).alloc (nR _) _).alloc (by simp) _
 refine ⟨by rw [h, nodesW_size, hs], by rw [h]; exact nodesW_below hb (by omega) _ _ _, ?_, by omega, hb⟩
 have := Boxed.new (w.alloc (.cells #[.int .i64 e.kind, .string e.name, .slice A m c] 32)) 29 (.slice none 0 0)
 rw [World.size_alloc, ← hw0] at this
 exact box_on this (by rw [h]; exact nodesW_old _ _ _ (by omega))
set_option maxRecDepth 100000 in
theorem vars_in (F : Fence) (n : Nat) (hFw : F = Fence.wide) (hro : F.round = none) (hF : ∀ k, F.fn k) (hn : 9 ≤ n) (e : Ex) (v : Value) (bs : List Nat) (w : World) (hv : ExIs w v e bs) (hb : exSize e ≤ 1099511627776) :
 CallsIn F n Tryz.prog 71 #[v] w (NamesPost (exVars [] e) w) := by
 obtain ⟨i0, hi, hz0, hz1, hz2⟩ := info_parts Tryz.info9u
 have HI := zH (aI hi (aI hz0 (aI hz1 hz2)))
 clear hi hz0 hz1 hz2
 obtain ⟨u, rfl, hs, hu⟩ := id hv
 obtain ⟨A, c, rfl, hc1, hc2, -⟩ := id hu
 have HV := zH hv
 have HN := zH ((vars_nodes _).1 e [] (nR _))
 have h1 : 1 ≤ n := by omega
 have HFW := zH hFw
 obtain ⟨m, hm⟩ : ∃ m, m = e.args.length := ⟨_, rfl⟩
 rw [← hm] at HV hc1 ⊢
 have HM := zH hm
 have HBD := zH hb
 clear hv hu hFw hm
 refine callsIn_of_wp_marks Tryz.func71 rfl (hF _) ?_ hro
 simp only [Tryz.ntmps71, List.size_toArray, lC, List.length_nil, Nat.reduceAdd, Nat.reduceSub, Array.replicate_succ, Array.replicate_zero, List.push_toArray, List.append_toArray, List.nil_append, List.cons_append]
 gi_wp2_with (gi_at_call 56; refine (nodesOf_in F (n - 1) hF hro (by omega) _ _ _ _ _ _).mono ?_; rintro e w' ⟨rfl, rfl⟩)
 obtain ⟨w0, hw0⟩ : ∃ w0, w0 = ((w.alloc (.cells #[.int .i64 e.kind, .string e.name, .slice A m c] 32)).alloc (.cells #[.slice none 0 0] 29)) := ⟨_, rfl⟩
 rw [← hw0]
 obtain ⟨W0, hW0⟩ : ∃ W0, W0 = nodesW w0 e.kind e.name (.slice A m c) := ⟨_, rfl⟩
 rw [← hW0]
 have HX := zH (start_vars e A m c w w0 W0 hw0 hW0)
 have HW0 := zH hW0
 clear hW0 hw0
 have hx1 := HX.out.1
 refine wpIn_rangeFunc_frame hro h1 (gf := 98) (lb := nodesLb (w.heap.size + 1 + 1)) rfl (hF _) (enters_of Tryz.func98 (by kernel_rfl) rfl)
  (nodes_stops F (n - 1) HFW.out hro hF (by omega) w e (.slice A m c) bs HV.out hb (w.heap.size + 1 + 1) w0 W0 HX.out.2.2.2.1 HW0.out HX.out.2.2.2.2) (wB _ _) (by omega) (by simp; omega) (fun _ => rfl)
  (VarI (w.heap.size + 1) w.heap.size) (fun _ _ _ _ => False) (vari_foot _ _) (fun _ _ _ _ _ h _ _ => h) [w.heap.size + 1] (fun k hk => by simp at hk; subst hk; simp; omega) ⟨none, 0, rfl, HX.out.2.2.1, World.ownsRow_nil _ _ _ _⟩
  (Noded (VarI (w.heap.size + 1) w.heap.size) (fun nb x => #[.agg #[.int .i64 e.kind, .string e.name, .slice A m c], .pointer (some ⟨w.heap.size, 0, none⟩), .slice none 0 0, .pointer (some ⟨w.heap.size + 1, 0, none⟩), .pointer (some ⟨nb, 0, none⟩), undef, undef, .agg #[.int .i64 e.kind, .string e.name, .slice A m c], nodesFun (w.heap.size + 1 + 1), x.val, undef, undef, undef, undef, undef, undef, undef, undef, undef, undef, undef, undef, undef, undef, undef])) (noded_foot (vari_foot _ _) _) ?assign ?body ?done ?stop
 case assign =>
  intro l pre x Fp X KX hI hFp hFr hK
  obtain ⟨A2, c2, hu2, -, -, -⟩ := x.slice
  have hv : x.val = .agg #[.int .i64 x.ex.kind, .string x.ex.name, .slice A2 x.ex.args.length c2] := by rw [← hu2]; rfl
  have HI2 := zH hI
  have HU2 := zH hu2
  have HV2 := zH hv
  have HFP := zH hFp
  have HKX := zH hK
  dsimp only
  rw [hv]
  clear hu2 hv hI hFp hFr hK
  gi_wp2
  obtain ⟨q1, q2, q3⟩ := noded_new (vari_foot _ _) (tm := (fun nb x => #[.agg #[.int .i64 e.kind, .string e.name, .slice A m c], .pointer (some ⟨w.heap.size, 0, none⟩), .slice none 0 0, .pointer (some ⟨w.heap.size + 1, 0, none⟩), .pointer (some ⟨nb, 0, none⟩), undef, undef, .agg #[.int .i64 e.kind, .string e.name, .slice A m c], nodesFun (w.heap.size + 1 + 1), x.val, undef, undef, undef, undef, undef, undef, undef, undef, undef, undef, undef, undef, undef, undef, undef])) HI2.out (fun k hk => (HFP.out k hk).2) HU2.out rfl
  refine HKX.out _ _ _ q1 q2 ?_
  exact (by simpa only [HV2.out] using q3)
 case body =>
  rintro l pre x _ Fp X ⟨nb, _, rfl, hnx, hnb, ⟨AO, co, rfl, hB, hO⟩, rfl⟩ hFp hFr hlen
  have hn3 : 1 ≤ n - 1 - 1 := by omega
  obtain ⟨A2, c2, hu2, -, -, -⟩ := x.slice
  obtain ⟨q2, hq2⟩ : ∃ q2, q2 = x.ex.args.length := ⟨_, rfl⟩
  rw [← hq2] at hu2
  rw [hu2] at hnx
  have hn0 : X.cell? ⟨nb, 0, none⟩ = some (.int .i64 x.ex.kind) := by simp [World.cell?, hnx]
  have hn1 : X.cell? ⟨nb, 1, none⟩ = some (.string x.ex.name) := by simp [World.cell?, hnx]
  have hn2 : X.cell? ⟨nb, 2, none⟩ = some (.slice A2 q2 c2) := by simp [World.cell?, hnx]
  have HB := zH hB
  have HO := zH hO
  have HMID := zH (fun (w2 : World) (hb2 : Below X.heap.size X w2) => var_mid (s := x.ex.name) (o := (.cells #[.string x.ex.name, .slice A2 q2 c2] 114)) hB hO (by have := (hFp nb (by simp)); omega) hb2)
  have HLE := zH (show (vnames pre).length + 1 ≤ 1099511627776 by have := vnames_le pre; have := HBD.out; omega)
  clear hu2 hq2 hnx hB hO hlen hFp hFr hnb
  by_cases hk : x.ex.kind = 1
  · have HC := zH (vnames_yes pre x hk)
    have aV := asVV
    have HT := zH (show formTy x.ex.kind = 114 by rw [hk]; rfl)
    have CM := zH (show (vnames pre).length + 1 ≤ maxLen by have := HLE.out; unfold maxLen; omega)
    have CB := zH (show ((vnames pre).length + 1) * 16 ≤ 140737488355328 by have := HLE.out; omega)
    clear hk
    gi_wp2_with (first
     | (gi_at_call 58; refine (at_wide HFW.out (own_form _ _ _ _ _ _) l).mono ?_; rintro r w2 ⟨rfl, hb2⟩; rw [HT.out]; obtain ⟨⟨hc2, hf2, hl2⟩, hr2⟩ := HMID.out w2 hb2; have HR2 := zH hr2; have HB2 := zH hb2; clear hb2 hr2)
     | (gi_at_builtin; refine wpListIn_append_own_at _ rfl _ _ 29 rfl w.heap.size 9 i0 (.string ⟨#[]⟩) 1 16 Tryz.underlying29 HI.out.1 HI.out.2.1 HI.out.2.2.1 HI.out.2.2.2 rfl (by decide) (.slice AO (vnames pre).length co) _ _ rfl HR2.out.1 ⟨w2.heap.size + 1, 0, none⟩ 1 1 [.string x.ex.name] rfl rfl HR2.out.2.1 one_new CM.out CB.out HR2.out.2.2 ?_; intro v4 w4 ho4 hg4 _ hat4; obtain ⟨g4, cap4, rfl⟩ := ownsRow_succ ho4; have hb4 := var_box (box_on HB.out (HB2.out.block _ HB.out.lt)) HR2.out.1 hg4; have hc4 := hb4.cell; have hf4 := hb4.frozen; have hl4 := hb4.lt; have H4 := zH (aI ho4 (aI hg4 (aI hat4 hb4))); clear ho4 hg4 hat4 hb4))
    exact var_push HB.out HB2.out HC.out H4.out.2.1 H4.out.1 H4.out.2.2.2 H4.out.2.2.1
  have HC := zH (vnames_no pre x hk)
  have aV := asV_no x.ex.kind hk
  clear hk
  gi_wp2_with (gi_at_call 58; refine (at_wide HFW.out (own_form _ _ _ _ _ _) l).mono ?_; rintro r w2 ⟨rfl, hb2⟩; have HB2 := zH hb2; clear hb2)
  exact var_same HB.out HO.out HB2.out _ HC.out
 case done =>
  rintro D ks Fp X hD hDF hFl hS ⟨AO, co, rfl, hB, hO⟩ hFr hK
  have HNM := zH (show exVars [] e = unite (vnames ks) [] by rw [HN.out, ← hS]; rfl)
  obtain ⟨A9, c9, hsh, hst⟩ := OwnsL.shape hO
  cases hsh
  have HUN := zH (wide_in (n := n - 1) HFW.out (own_unite AO none (vnames ks) [] co 0 X hst (fun i x hx => by simp at hx) (by have := vnames_le ks; have h2 := congrArg List.length hS; rw [List.length_map, nodes_len] at h2; have := HBD.out; omega) (by simp) (vnames_size ks) (by simp)))
  have hc := hB.cell
  have HK := zH hK
  have HLW := zH (show Below w.heap.size w X from HX.out.2.1.trans (hFr.below (by simp; omega) (by omega)))
  have HDX := zH (Array.getElem?_eq_some_iff.1 hK).1
  clear hB hO hK hFr hS hst
  gi_wp2_with (gi_at_call 94; refine HUN.out.mono ?_; rintro r w2 ⟨v2, rfl, ho2, hb2⟩; have HU2 := zH (aI ho2 hb2); clear ho2 hb2)
  have hK2 := (HU2.out.2.block _ HDX.out).trans HK.out
  refine ⟨by simp, .inl ⟨D, _, rfl, run_takeDeferred hK2, ?_⟩⟩
  refine ⟨_, results_tmp rfl _ _ _, v2, rfl, ?_, (HLW.out.trans (HU2.out.2.mono HLW.out.size)).trans ((Fr.put (S := [D]) w2 _ _ (by simp)).below (by simp; omega) (by have := HU2.out.2.size; have := HLW.out.size; omega))⟩
  rw [HNM.out]
  refine row_base (row_on HU2.out.1 (fun k e => World.putObj_heap_other ?_)) HLW.out.size
  have := (World.ownsRow.lt HU2.out.1 k e).1
  have := HDX.out
  omega
 case stop =>
  rintro D c pre Fp X _ _ _ _ h _ _
  exact h.elim
theorem own_vars (e : Ex) (v : Value) (bs : List Nat) (w : World) (hv : ExIs w v e bs) (hb : exSize e ≤ 1099511627776) : Calls Tryz.prog 71 #[v] w (NamesPost (exVars [] e) w) :=
 callsIn_wide.1 (vars_in Fence.wide 9 rfl rfl (fun _ => trivial) (nR _) e v bs w hv hb)
end Go.Proofs.YtiaknfnhmoinpaaGreat
