/- A part of the proof of the seat's statement: OwnDepth. Condition: as each says. -/
import Derived.Test.YtiaknfnhmoinpaaGreatNodesKit
import Derived.Test.YtiaknfnhmoinpaaGreatSpecSizes
import Derived.Test.YtiaknfnhmoinpaaGreatDrawOnce
import Derived.Deep.LoopGhost
set_option maxHeartbeats 8000000
namespace Go.Proofs.YtiaknfnhmoinpaaGreat
open Go Go.RowKit
theorem run_append_zero {P : Program} (w : World) (t ty e : TypeId) (i : TypeInfo) (ht : P.underlying t = some (.slice e)) (hi : P.info? e = some i) (A A2 : Option Addr) (n c c2 : Nat) (h : n ≤ c) :
 (Builtin.append_ #[t, t] ty #[.slice A n c, .slice A2 0 c2]).run P w = .ok (.slice A n c) w := by
 cases A2 <;> cases A <;> simp [Builtin.append_, run_underlying ht, sizeOf, typeInfo, hi, Builtin.lenOf, Builtin.firstCells, loadCells, loadCellsFrom, h, storeCells]
theorem wpList_append_zero {P : Program} {w : World} {ops : Array Oper} {rest : List Oper} {o : Oper} {a : Act} {Q : Exit → Act → World → Prop} (hgd : o.guard = none) (s x : Operand) (t : TypeId)
 (ho : o.op = .call { callee := .builtin .append, args := #[s, x], argTypes := #[t, t] })
 (e : TypeId) (i : TypeInfo) (ht : P.underlying t = some (.slice e)) (hi : P.info? e = some i) (A A2 : Option Addr) (n c c2 : Nat) (hs : a.eval s = .slice A n c) (hx : a.eval x = .slice A2 0 c2) (h0 : n ≤ c)
 (h : wpList P ops Q rest (a.put o.dst (.slice A n c)) w) : wpList P ops Q (o :: rest) a w := by
 refine wpList_plain hgd fun K hK => ?_
 have hr := run_append_zero w t o.type e i ht hi A A2 n c c2 h0
 unfold Oper.wp execOp
 simp only [ho, resolve, invoke, builtin, Sem.run_bind, Sem.run_pure, Result.andThen_ok, List.map_toArray, List.map_cons, List.map_nil, hs, hx, hr]
 exact hK _ _ h
theorem kids_at {wo : World} {g o : Nat} : ∀ (l : List Ex) (i : Nat) (bs : List Nat), g < wo.heap.size → ExsAt wo g o i l bs → ∃ ks : List (It wo), ks.map It.ex = l ∧ ∀ j u, (flat ks)[j]? = some u → wo.cell? ⟨g, o + i * 3 + j, none⟩ = some u := by
 intro l
 induction l with
 | nil => intro i bs _ _; exact ⟨[], rfl, fun j u h => by simp [flat] at h⟩
 | cons e r ih =>
  intro i bs hg h
  rw [ExsAt] at h
  obtain ⟨b1, b2, rfl, h1, h2⟩ := h
  obtain ⟨ks, e1, e2⟩ := ih (i + 1) b2 hg h2
  obtain ⟨u, c0, c1, c2, his⟩ := h1.is
  refine ⟨⟨(0, e, u, b1), his⟩ :: ks, by rw [List.map_cons, e1]; rfl, fun j v hj => ?_⟩
  rw [show flat (⟨(0, e, u, b1), his⟩ :: ks) = [.int .i64 e.kind, .string e.name, u] ++ flat ks from rfl] at hj
  by_cases hj3 : j < 3
  · rw [List.getElem?_append_left (by simpa using hj3)] at hj
    match j, hj3 with
    | 0, _ => simp at hj; subst hj; exact c0
    | 1, _ => simp at hj; subst hj; exact c1
    | 2, _ => simp at hj; subst hj; exact c2
  rw [List.getElem?_append_right (by simp; omega)] at hj
  have := e2 _ _ hj
  rw [show o + (i + 1) * 3 + (j - [Value.int .i64 e.kind, .string e.name, u].length) = o + i * 3 + j by simp; omega] at this
  exact this
theorem kids_of {wo : World} {A : Option Addr} {q c : Nat} {l : List Ex} {bs : List Nat} (h : SlIs wo (.slice A q c) l bs) : q = l.length ∧ (l = [] ∨ ∃ g o, A = some ⟨g, o, none⟩ ∧ g < wo.heap.size ∧ ∃ ks : List (It wo), ks.map It.ex = l ∧ ∀ j u, (flat ks)[j]? = some u → wo.cell? ⟨g, o + j, none⟩ = some u) := by
 refine ⟨h.len.1, ?_⟩
 obtain ⟨A', c', e1, h1, h2, h3⟩ := h
 cases e1
 rcases h3 with ⟨rfl, -⟩ | ⟨g, o, bs', rfl, hb, rfl, h4⟩
 · exact Or.inl rfl
 obtain ⟨ks, e1, e2⟩ := kids_at l 0 bs' hb h4
 exact Or.inr ⟨g, o, rfl, hb, ks, e1, fun j u hj => by have := e2 j u hj; rw [Nat.zero_mul, Nat.add_zero] at this; exact this⟩
theorem flat_leaf {wo : World} : ∀ (ks : List (It wo)), ∀ u ∈ flat ks, u.oneCell' = true := by
 intro ks u hu
 rw [flat, List.mem_flatMap] at hu
 obtain ⟨x, -, hx⟩ := hu
 obtain ⟨A, c, h, -⟩ := x.slice
 rw [It.cells, h] at hx
 simp at hx
 rcases hx with rfl | rfl | rfl <;> rfl
def kidsE (l : List Ex) : List Ex := l.flatMap Ex.args
theorem kids_take (l : List Ex) (k : Nat) (e : Ex) (h : l[k]? = some e) : kidsE (l.take (k + 1)) = kidsE (l.take k) ++ e.args := by
 rw [take_ex l k e h]; simp [kidsE]
theorem kids_len (l : List Ex) (k : Nat) : (kidsE (l.take k)).length ≤ (kidsE l).length := by
 have h : kidsE l = kidsE (l.take k) ++ kidsE (l.drop k) := by rw [kidsE, kidsE, kidsE, ← List.flatMap_append, List.take_append_drop]
 rw [h, lA]; omega
theorem row_at {wo : World} {base g n c : Nat} {its : List (It wo)} {W : World} {k : Nat} {x : It wo} (h : W.ownsRow base 32 3 (.slice (some ⟨g, 0, none⟩) n c) n (flat its)) (hx : its[k]? = some x) :
 W.cell? ⟨g, k * 3, none⟩ = some (.int .i64 x.ex.kind) ∧ W.cell? ⟨g, k * 3 + 1, none⟩ = some (.string x.ex.name) ∧ W.cell? ⟨g, k * 3 + 2, none⟩ = some x.1.2.2.1 := by
 have hk : k < its.length := (List.getElem?_eq_some_iff.1 hx).1
 have hn : its.length = n := by have := h.1; rw [flat_len] at this; omega
 have hs : flat its = flat (its.take k) ++ (x.cells ++ flat (its.drop (k + 1))) := by
  rw [← List.append_assoc, ← flat_one, flat, flat, flat, ← List.flatMap_append]
  congr 1
  have : its.take k ++ [x] = its.take (k + 1) := by
   rw [List.take_succ_eq_append_getElem hk, (List.getElem?_eq_some_iff.1 hx).2]
  rw [this, List.take_append_drop]
 have hc : ∀ (j : Nat) (v : Value), x.cells[j]? = some v → W.cell? ⟨g, k * 3 + j, none⟩ = some v := by
  intro j v hj
  have hj3 : j < 3 := (List.getElem?_eq_some_iff.1 hj).1
  have hl : (flat (its.take k)).length = k * 3 := by rw [flat_len, List.length_take, Nat.min_eq_left (by omega)]
  rw [h.cellAt (k * 3 + j) (by omega), hs, List.getElem?_append_right (by omega), hl, Nat.add_sub_cancel_left, List.getElem?_append_left (by simpa [It.cells] using hj3)]
  exact hj
 exact ⟨hc 0 _ rfl, hc 1 _ rfl, hc 2 _ rfl⟩
structure Al (w : World) {wo : World} (l : List Ex) (k p : Nat) (AO : Option Addr) (co : Nat) (ks : List (It wo)) (W : World) : Prop where
 low : Below w.heap.size w W
 row : W.ownsRow w.heap.size 32 3 (.slice AO p co) p (flat ks)
 len : ks.length = p
 ex : ks.map It.ex = kidsE (l.take k)
def LevelPost (wo w : World) (l : List Ex) (e : Ending) (w2 : World) : Prop := ∃ AO p co, ∃ ks : List (It wo), e = .returned (.slice AO p co) ∧ w2.ownsRow w.heap.size 32 3 (.slice AO p co) p (flat ks) ∧ ks.length = p ∧ ks.map It.ex = kidsE l ∧ Below w.heap.size w w2
theorem args_any (wo w : World) (A : Option Addr) (n c : Nat) (its : List (It wo)) (base : Nat) (hrow : w.ownsRow base 32 3 (.slice A n c) n (flat its)) (hlow : Below wo.heap.size wo w) (hN : (kidsE (its.map It.ex)).length ≤ 1099511627776) (hn : n ≤ 1099511627776) :
 Calls Tryz.prog 83 #[.slice A n c] w (LevelPost wo w (its.map It.ex)) := by
 obtain ⟨i0, hi, hz0, hz1, hz2⟩ := info_parts Tryz.infoEx
 have HI := zH (aI hi (aI hz0 (aI hz1 hz2)))
 clear hi hz0 hz1 hz2
 have hlen : its.length = n := by have := hrow.1; rw [flat_len] at this; omega
 have HR := zH hrow
 have HLO := zH hlow
 have HN := zH hN
 have HL := zH hlen
 have hn3 : (n : Int) ≤ 1099511627776 := by omega
 clear hrow hlow hN hlen
 go_enter Tryz.func83, Tryz.ntmps83
 go_wp2_with fail
 go_loopw [3, 8] (fun a i wr => ∃ (k p : Nat) (AO : Option Addr) (co : Nat) (ks : List (It wo)), k ≤ n ∧ i = .int .i64 (k : Int) ∧ a = .slice AO p co ∧ Hid (Al w (its.map It.ex) k p AO co ks wr)) (fun _ i _ => n - (intOf i).toNat)
 case atStart => exact ⟨0, 0, none, 0, [], Nat.zero_le _, rfl, rfl, zH ⟨wB _ _, World.ownsRow_nil _ _ _ _, rfl, by simp [kidsE]⟩⟩
 case round =>
  obtain ⟨k, p, AO, co, ks, hk, rfl, rfl, HA⟩ := hrel
  by_cases hlt : k < n
  · obtain ⟨g, cap, hv, hg0, hg1⟩ := HR.out.form (by omega)
    cases hv
    obtain ⟨x, hx⟩ : ∃ x, its[k]? = some x := ⟨_, List.getElem?_eq_getElem (by rw [HL.out]; exact hlt)⟩
    have hrw : wr.ownsRow base 32 3 (.slice (some ⟨g, 0, none⟩) n c) n (flat its) := row_on HR.out (fun j e => HA.out.low.block j (by rw [show j = g by simpa [Value.ownBlock, eq_comm] using e]; exact hg1))
    obtain ⟨c0, c1, c2⟩ := row_at hrw hx
    have hg2 : g < wr.heap.size := nL hg1 HA.out.low.size
    obtain ⟨A2, c2', hu, hsl, hac1, hac2⟩ := x.slice
    obtain ⟨q, hq⟩ : ∃ q, q = x.ex.args.length := ⟨_, rfl⟩
    rw [hu] at c2
    rw [← hq] at c2 hsl hac1
    obtain ⟨hq2, hkids⟩ := kids_of hsl
    have HEX := zH (kids_take (its.map It.ex) k x.ex (by rw [List.getElem?_map, hx]; rfl))
    have HCL := zH (kids_len (its.map It.ex) (k + 1))
    have hpk : p + q ≤ 1099511627776 := by
     have h1 := HCL.out
     rw [HEX.out, lA, ← HA.out.ex, List.length_map, HA.out.len, ← hq] at h1
     have := HN.out
     omega
    have hpc : p ≤ co := by
     rcases HA.out.row.2 with ⟨h0, -⟩ | ⟨g', cap', cur, hv, -, -, hn, -⟩
     · cases h0; exact nR _
     cases hv; exact hn
    have HROW := zH (HA.out.row.alloc (.cells #[.int .i64 x.ex.kind, .string x.ex.name, .slice A2 q c2'] 32))
    have HLW := zH (HA.out.low.alloc HA.out.low.size (.cells #[.int .i64 x.ex.kind, .string x.ex.name, .slice A2 q c2'] 32))
    have HQ := zH hq
    have HPC := zH hpc
    clear hu hsl hq hx hrw hg0 hpc
    by_cases hq0 : q = 0
    · have HAL := zH (show Al w (its.map It.ex) (k + 1) p AO co ks (wr.alloc (.cells #[.int .i64 x.ex.kind, .string x.ex.name, .slice A2 q c2'] 32)) from ⟨HLW.out, HROW.out, HA.out.len, by
       rw [HEX.out, HA.out.ex, show x.ex.args = [] from List.eq_nil_of_length_eq_zero (by rw [← HQ.out, hq0]), List.append_nil]⟩)
      clear hkids hq2 hpk HEX HCL HROW HLW HQ
      subst hq0
      go_wp2_with (at_builtin; (refine wpList_append_zero rfl (.tmp 12) (.tmp 14) 30 rfl 32 i0 Tryz.underlying30 HI.out.1 AO A2 p co c2' rfl rfl HPC.out ?_))
      go_roundw
      case rel => exact ⟨k + 1, p, AO, co, ks, by omega, by go_num, rfl, HAL⟩
      case measure => simp [intOf]; omega
    rcases hkids with h0 | ⟨g', o', rfl, hgl, ls, e1, e2⟩
    · rw [h0] at hq2; simp at hq2; exact absurd hq2 hq0
    have HLS := zH (show ls.length = q by rw [hq2, ← e1, List.length_map])
    have HE1 := zH e1
    have HNW := zH (show ∀ j u, (flat ls)[j]? = some u → (wr.alloc (.cells #[.int .i64 x.ex.kind, .string x.ex.name, .slice (some ⟨g', o', none⟩) q c2'] 32)).cell? ((⟨g', o', none⟩ : Addr).add j) = some u from fun j u hj => by
     rw [show (⟨g', o', none⟩ : Addr).add j = ⟨g', o' + j, none⟩ by unfold Addr.add; split <;> simp_all]
     exact ((HLO.out.trans (HLW.out.mono HLO.out.size)).cell (p := ⟨g', o' + j, none⟩) hgl).trans (e2 j u hj))
    have HFL := zH (show (flat ls).length = q * 3 by rw [flat_len, HLS.out])
    have HLF := zH (flat_leaf ls)
    have CM := zH (show p + q ≤ maxLen by unfold maxLen; omega)
    have CB := zH (show (p + q) * 48 ≤ 140737488355328 by omega)
    have CS := zH (show w.heap.size ≤ (wr.alloc (.cells #[.int .i64 x.ex.kind, .string x.ex.name, .slice (some ⟨g', o', none⟩) q c2'] 32)).heap.size from HLW.out.size)
    clear e1 e2 hq2 hpk
    go_wp2_with (at_builtin; (refine wpList_append_own _ rfl (.tmp 12) (.tmp 14) 30 rfl w.heap.size 32 i0 (.agg #[.int .i64 0, .string ⟨#[]⟩, .slice none 0 0]) 3 48 Tryz.underlying30 HI.out.1 HI.out.2.1 HI.out.2.2.1 HI.out.2.2.2 rfl (by decide) (.slice AO p co) p (flat ks) rfl HROW.out ⟨g', o', none⟩ q c2' (flat ls) rfl HFL.out HNW.out HLF.out CM.out CB.out CS.out ?_); intro v2 w2 ho2 hg2 _; have HAP := zH (aI ho2 hg2); clear ho2 hg2)
    obtain ⟨g3, cap3, rfl, -, -⟩ := HAP.out.1.form (by omega)
    have HAL := zH (show Al w (its.map It.ex) (k + 1) (p + q) (some ⟨g3, 0, none⟩) cap3 (ks ++ ls) w2 from ⟨HLW.out.grown HAP.out.2 CS.out (fun j e => (HROW.out.lt j e).1), by have h := HAP.out.1; rw [show flat (ks ++ ls) = flat ks ++ flat ls by simp [flat]]; exact h, by rw [lA, HA.out.len, HLS.out], by rw [List.map_append, HA.out.ex, HE1.out, HEX.out]⟩)
    go_roundw
    case rel => exact ⟨k + 1, p + q, _, _, ks ++ ls, by omega, by go_num, rfl, HAL⟩
    case measure => simp [intOf]; omega
  obtain rfl : k = n := by omega
  have HE := zH (show (its.map It.ex).take k = its.map It.ex from List.take_of_length_le (by rw [List.length_map, HL.out]; exact nR _))
  go_wp2_with fail
  go_ret
  exact ⟨AO, p, co, ks, rfl, HA.out.row, HA.out.len, by rw [HA.out.ex, HE.out], HA.out.low⟩
theorem deep_kids : ∀ (l : List Ex), l ≠ [] → exDeep l = exDeep (kidsE l) + 1 := by
 intro l
 induction l with
 | nil => intro h; exact absurd rfl h
 | cons e r ih =>
  intro _
  rw [exDeep, show kidsE (e :: r) = e.args ++ kidsE r by rfl, deep_app, show exDepth e = exDeep e.args + 1 by cases e; rfl]
  by_cases h : r = []
  · subst h; simp [exDeep, kidsE]
  rw [ih h]; omega
theorem sizes_appD : ∀ (a b : List Ex), exSizes (a ++ b) = exSizes a + exSizes b := by
 intro a
 induction a with
 | nil => intro b; simp [exSizes]
 | cons x r ih => intro b; rw [List.cons_append, exSizes, exSizes, ih]; omega
theorem kids_size : ∀ (l : List Ex), exSizes (kidsE l) + l.length = exSizes l := by
 intro l
 induction l with
 | nil => simp [exSizes, kidsE]
 | cons e r ih =>
  rw [show kidsE (e :: r) = e.args ++ kidsE r by rfl, sizes_appD, exSizes, lC, ← ih, show exSize e = exSizes e.args + 1 by cases e; rfl]
  omega
theorem row_base {w : World} {base base' : Nat} {t : TypeId} {size : Nat} {v : Value} {n : Nat} {xs : List Value} (h : w.ownsRow base t size v n xs) (hb : base' ≤ base) : w.ownsRow base' t size v n xs := by
 obtain ⟨h1, h2⟩ := h
 refine ⟨h1, h2.imp id ?_⟩
 rintro ⟨g, cap, cur, e, hg, h3⟩
 exact ⟨g, cap, cur, e, nT hb hg, h3⟩
structure Lv (w : World) (e : Ex) (z p : Nat) (AO : Option Addr) (co : Nat) (ks : List (It w)) (W : World) : Prop where
 low : Below w.heap.size w W
 row : W.ownsRow w.heap.size 32 3 (.slice AO p co) p (flat ks)
 len : ks.length = p
 deep : z + exDeep (ks.map It.ex) = exDepth e
 size : exSizes (ks.map It.ex) ≤ exSize e
theorem own_depth (e : Ex) (v : Value) (bs : List Nat) (w : World) (hv : ExIs w v e bs) (hb : exSize e ≤ 1099511627776) : Calls Tryz.prog 59 #[v] w (RetPost (.int .i64 (exDepth e : Int)) w) := by
 obtain ⟨u, rfl, hs, hu⟩ := id hv
 obtain ⟨A, c, rfl, hc1, hc2, -⟩ := id hu
 have HV := zH hv
 obtain ⟨m, hm⟩ : ∃ m, m = e.args.length := ⟨_, rfl⟩
 rw [← hm] at HV hc1 ⊢
 have HB := zH hb
 have HD := zH (depth_le e)
 clear hv hu hm hb
 go_enter Tryz.func59, Tryz.ntmps59
 go_wp2_with fail
 go_loopg [3, 4] (exDeep [e]) (fun gk d a wr => ∃ (z p : Nat) (AO : Option Addr) (co : Nat) (ks : List (It w)), d = .int .i64 (z : Int) ∧ a = .slice AO p co ∧ Hid (gk = exDeep (ks.map It.ex)) ∧ Hid (Lv w e z p AO co ks wr))
 case atStart =>
  refine ⟨0, 1, some ⟨w.heap.size + 1, 0, none⟩, 1, [⟨(0, e, .slice A m c, bs), HV.out⟩], rfl, ?_, zH rfl, zH ⟨?_, ?_, rfl, ?_, ?_⟩⟩
  · simp
  · exact ((wB _ w).alloc (nR _) _).alloc (by simp) _
  · have := World.ownsRow_lit (w.alloc (.cells #[.int .i64 e.kind, .string e.name, .slice A m c] 32)) (base := w.heap.size) (e := 32) (size := 3) #[.int .i64 e.kind, .string e.name, .slice A m c] 1 (by simp) (by unfold maxLen; omega) rfl
    rw [World.size_alloc] at this
    exact this
  · simp [It.ex, exDeep]
  simp [It.ex, exSizes]
 case round =>
  obtain ⟨z, p, AO, co, ks, rfl, rfl, HK, HL⟩ := hrel
  have hz : (z : Int) ≤ 1099511627776 := by have := HL.out.deep; have := HD.out; have := HB.out; omega
  by_cases h0 : p = 0
  · have HZ := zH (show z = exDepth e by
     have h1 : ks = [] := List.eq_nil_of_length_eq_zero (by rw [HL.out.len, h0])
     have := HL.out.deep
     rw [h1] at this
     simpa [exDeep] using this)
    subst h0
    go_wp2_with fail
    go_ret
    exact ⟨by rw [← HZ.out]; rfl, HL.out.low⟩
  have hp : 0 < p := by omega
  have hks : ks.map It.ex ≠ [] := fun h => by
   have := congrArg List.length h
   rw [List.length_map, HL.out.len] at this
   simp at this; omega
  have HDK := zH (deep_kids _ hks)
  have HSK := zH (kids_size (ks.map It.ex))
  have HKL := zH (sizes_len (kidsE (ks.map It.ex)))
  have HC := zH (args_any w wr AO p co ks w.heap.size HL.out.row HL.out.low (by have := HSK.out; have := HKL.out; have := HL.out.size; have := HB.out; omega) (by have := sizes_len (ks.map It.ex); rw [List.length_map, HL.out.len] at this; have := HL.out.size; have := HB.out; omega))
  clear hks
  go_wp2_with (go_at_call 83; refine HC.out.mono ?_; rintro r w2 ⟨AO2, p2, co2, ks2, rfl, hr2, hl2, he2, hb2⟩; have HR2 := zH (aI hr2 (aI hl2 (aI he2 hb2))); clear hr2 hl2 he2 hb2)
  go_roundg (exDeep (ks2.map It.ex))
  case measure =>
   have h := HDK.out
   rw [← HR2.out.2.2.1, ← HK.out] at h
   omega
  case rel =>
   refine ⟨z + 1, p2, AO2, co2, ks2, by go_num, rfl, zH rfl, zH ⟨HL.out.low.trans (HR2.out.2.2.2.mono HL.out.low.size), row_base HR2.out.1 HL.out.low.size, HR2.out.2.1, ?_, ?_⟩⟩
   · have h := HDK.out
     rw [← HR2.out.2.2.1] at h
     have := HL.out.deep
     omega
   rw [HR2.out.2.2.1]
   have := HSK.out
   have := HL.out.size
   omega
end Go.Proofs.YtiaknfnhmoinpaaGreat
