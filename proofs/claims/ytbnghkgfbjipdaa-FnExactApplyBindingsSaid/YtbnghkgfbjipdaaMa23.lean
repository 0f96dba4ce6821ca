/- The contracts of the program's own nodesOnce: a range over it answers every question about a first occurrence as a range over all nodes does. Conditions: fewer than 2^40 nodes; no string shares the memory of the expression. As Frame, where what the rounds keep tells the iterator that a block is as it was. No condition. A range over nodesOnce in memory whose parts share nothing hands out each row of arguments once; one block of it may lie among the iterator's own. Conditions: fewer than 2^40 nodes; no string shares the memory of the expression; no block stands in it twice. For the program's own (*copying).wholes: items, their places and the entries of a map from places. No condition. -/
import Derived.Test.YtbnghkgfbjipdaaMa21
import Derived.Test.YtbnghkgfbjipdaaMa22
import Derived.Test.YtbnghkgfbjipdaaMa13
import Derived.Test.YtbnghkgfbjipdaaMa16
import Derived.Test.YtbnghkgfbjipdaaMa05
import Derived.Test.YtbnghkgfbjipdaaMa20
import Derived.Test.YtbnghkgfbjipdaaMa19
import Derived.Test.YtbnghkgfbjipdaaMa18
namespace Go.Proofs.Ytbnghkgfbjipdaa
open Go Go.RowKit Go.Shelf
attribute [local go_sem] Oper.semAt_some

def pkv (p : Addr × Nat) : Value := .agg #[.pointer (some p.1), .int .i64 (p.2 : Int)]
theorem pkv_inj {p q : Addr × Nat} (h : pkv p = pkv q) : p = q := by
  simp only [pkv, Value.agg.injEq, Array.mk.injEq, List.cons.injEq, Value.pointer.injEq, Option.some.injEq, Value.int.injEq, and_true, true_and] at h
  exact Prod.ext h.1 (by omega)
/-- The places that were asked for, in the map of block b + 1, which the box b + 2 holds. -/
def OnceS (wo : World) (b : Nat) (pre : List (It wo)) (W : World) : Prop :=
  Boxed W (b + 2) 78 (.map (some (b + 1))) ∧ ∃ M, MapIs W (b + 1) M ∧ (∀ x ∈ M, ∃ p, x = (pkv p, .bool true) ∧ FreeB wo p.1.block) ∧ ∀ p, ((pkv p, Value.bool true) ∈ M ↔ some p ∈ pre.map plOf)
theorem OnceS.on {wo : World} {b : Nat} {pre : List (It wo)} {A B : World} (h : OnceS wo b pre A) (hk : ∀ k ∈ [b + 2, b + 1], B.heap[k]? = A.heap[k]?) : OnceS wo b pre B := by
  obtain ⟨h1, M, h2, h3⟩ := h
  exact ⟨box_on h1 (hk _ (by simp)), M, h2.on (hk _ (by simp)), h3⟩

set_option maxHeartbeats 1000000 in
theorem place_in (F : Fence) (n : Nat) (hF : ∀ k, F.fn k) (hro : F.round = none) (g o q c : Nat) (w : World) (hn : 0 < q) (hn2 : q ≤ 9223372036854775807) :
    CallsIn F n Try.prog 91 #[.slice (some ⟨g, o, none⟩) q c] w (RetPost (.agg #[.pointer (some ⟨g, o, none⟩), .int .i64 (q : Int)]) w) := by
  have HL := Lib.hid (fun (o : Obj) => (Below.refl w.heap.size w).alloc (Nat.le_refl _) o)
  have hn3 : (0 : Int) < (q : Int) := by omega
  refine callsIn_of_wp Try.func91 rfl (hF _) ?_ hro
  simp only [Try.ntmps91, List.size_toArray, List.length_cons, List.length_nil, Nat.reduceAdd, Nat.reduceSub, Array.replicate_succ, Array.replicate_zero, List.push_toArray, List.append_toArray, List.nil_append, List.cons_append]
  gi_wp2
  refine bodyPost_ret (v := .agg #[.pointer (some ⟨g, o, none⟩), .int .i64 (q : Int)]) (by simp [results, Try.results91, go_sem]) rfl ?_
  exact ⟨rfl, HL.out _⟩
set_option maxRecDepth 100000 in
set_option maxHeartbeats 2000000 in
theorem once_in (F : Fence) (n : Nat) (hF : ∀ k, F.fn k) (hro : F.round = none) (hn1 : 1 ≤ n) (wo : World) (e : Ex) (bs : List Nat) (b : Nat) (hfr : ∀ z ∈ bs, ∀ o, wo.frozen? ⟨z, o, none⟩ = false)
    (pre : List (It wo)) (x : It wo) (A : Option Addr) (c : Nat) (W1 : World) (hs : OnceS wo b pre W1) (hW : Below wo.heap.size wo W1) (hx : x.1.2.2.1 = .slice A x.ex.args.length c) (hI : ∃ st, InvO e bs pre (st ++ [x])) :
    CallsIn F n Try.prog 116 #[.slice A x.ex.args.length c, .pointer (some ⟨b + 2, 0, none⟩)] W1 fun r W2 => r = .returned (.bool (askO pre x)) ∧ OnceS wo b (pre ++ [x]) W2 ∧ Fr [b + 2, b + 1] W1 W2 := by
  obtain ⟨st, hst⟩ := hI
  have hsl := x.slice
  obtain ⟨A', c', e1, -, hc1, hc2⟩ := hsl
  rw [hx] at e1
  cases e1
  obtain ⟨hp0, hp1⟩ := plOf_slice hx
  obtain ⟨q, hq⟩ : ∃ q, q = x.ex.args.length := ⟨_, rfl⟩
  rw [← hq] at hc1 ⊢
  have hqq : (q : Int) ≤ 9223372036854775807 := by omega
  by_cases h0 : q = 0
  · have HA := Lib.hid (show askO pre x = false by unfold askO; rw [hp0 (by rw [← hq, h0])])
    have HS := Lib.hid (show OnceS wo b (pre ++ [x]) W1 from by
      obtain ⟨h1, M, h2, h3, h4⟩ := hs
      refine ⟨h1, M, h2, h3, fun p => ?_⟩
      rw [h4 p, List.map_append, List.map_cons, List.map_nil, hp0 (by rw [← hq, h0])]
      simp)
    clear hs hst hx hp0 hp1 hq
    subst h0
    refine callsIn_of_wp Try.func116 rfl (hF _) ?_ hro
    simp only [Try.ntmps116, List.size_toArray, List.length_cons, List.length_nil, Nat.reduceAdd, Nat.reduceSub, Array.replicate_succ, Array.replicate_zero, List.push_toArray, List.append_toArray, List.nil_append, List.cons_append]
    gi_wp2
    go_ret
    exact ⟨by rw [HA.out]; rfl, HS.out, Fr.refl _ _⟩
  · obtain ⟨p, hp⟩ : ∃ p, plOf x = some p := by
      cases hpl : plOf x with
      | some p => exact ⟨p, rfl⟩
      | none => exact absurd (by rw [hq, plOf_none hpl]; rfl) h0
    obtain ⟨g, o, c2, bs', rfl, e2, -, hg1, hg2, hat⟩ := plOf_some hp
    rw [hx] at e2
    cases e2
    have hfg : FreeB wo g := by
      have hgb : g ∈ bs := hst.blk x (by simp) g hg1
      cases hl : x.ex.args with
      | nil => rw [hl] at hq; exact absurd hq h0
      | cons e9 r9 =>
        rw [hl, ExsAt] at hat
        obtain ⟨b8, b9, -, h8, -⟩ := hat
        obtain ⟨u, k0, -⟩ := h8.is
        exact FreeB.of_cell k0 (hfr g hgb)
    have hfW : ∀ z, FreeB wo z → FreeB W1 z := fun z hz => hz.on (hW.block z hz.lt)
    obtain ⟨hbx, M, hM, hMK, hMp⟩ := hs
    have hc := hbx.cell
    have hkey : pkv (⟨g, o, none⟩, x.ex.args.length) = .agg #[.pointer (some ⟨g, o, none⟩), .int .i64 (q : Int)] := by rw [hq]; rfl
    have HALL := Lib.hid (show ∀ W2, Below W1.heap.size W1 W2 → (Instr.lookup 78 (.map (some (b + 1))) (.agg #[.pointer (some ⟨g, o, none⟩), .int .i64 (q : Int)]) false).run Try.prog (W2.alloc (.cells #[.pointer (some ⟨g, o, none⟩), .int .i64 (q : Int)] 129)) = .ok (.bool (!askO pre x)) (W2.alloc (.cells #[.pointer (some ⟨g, o, none⟩), .int .i64 (q : Int)] 129)) ∧ MapIs (W2.alloc (.cells #[.pointer (some ⟨g, o, none⟩), .int .i64 (q : Int)] 129)) (b + 1) M ∧ (∀ x ∈ M, PlaceK (W2.alloc (.cells #[.pointer (some ⟨g, o, none⟩), .int .i64 (q : Int)] 129)) x.1) ∧ PlaceK (W2.alloc (.cells #[.pointer (some ⟨g, o, none⟩), .int .i64 (q : Int)] 129)) (.agg #[.pointer (some ⟨g, o, none⟩), .int .i64 (q : Int)]) ∧
        (∀ (W5 : World) (L2 : List (Value × Value)), MapIs W5 (b + 1) L2 → Put M (.agg #[.pointer (some ⟨g, o, none⟩), .int .i64 (q : Int)]) (.bool true) L2 → (W2.alloc (.cells #[.pointer (some ⟨g, o, none⟩), .int .i64 (q : Int)] 129)).grownBy W5 (some (b + 1)) → OnceS wo b (pre ++ [x]) W5 ∧ Fr [b + 2, b + 1] W1 W5) ∧ W2.cell? ⟨b + 2, 0, none⟩ = some (.map (some (b + 1))) ∧ b + 2 < W2.heap.size from fun W2 hb2 => by
      obtain ⟨Wb, hWb⟩ : ∃ Wb, Wb = W2.alloc (.cells #[.pointer (some ⟨g, o, none⟩), .int .i64 (q : Int)] 129) := ⟨_, rfl⟩
      have hbB : Below W1.heap.size W1 Wb := by rw [hWb]; exact hb2.alloc hb2.size _
      have hMb : MapIs Wb (b + 1) M := hM.on (hbB.block _ hM.lt)
      have hfB : ∀ z, FreeB wo z → FreeB Wb z := fun z hz => (hfW z hz).on (hbB.block z (hfW z hz).lt)
      have hKK : ∀ x ∈ M, PlaceK Wb x.1 := fun y hy => by
        obtain ⟨p2, rfl, hf⟩ := hMK y hy
        exact ⟨p2.1, (p2.2 : Int), rfl, hfB _ hf⟩
      have hPK : PlaceK Wb (.agg #[.pointer (some ⟨g, o, none⟩), .int .i64 (q : Int)]) := ⟨_, _, rfl, hfB g hfg⟩
      obtain ⟨vl, has, hrun, hit⟩ := hMb.look (placeT Wb) Try.underlying78 (zeroB Wb) hPK hKK
      have hr2 := hrun false
      simp only [if_false, Bool.false_eq_true] at hr2
      have hans : vl = .bool (!askO pre x) := by
        unfold askO
        rw [hp]
        rcases hit with ⟨h1, rfl⟩ | ⟨h1, rfl, rfl⟩
        · obtain ⟨p2, e9, -⟩ := hMK _ h1
          rw [← hkey] at e9 h1
          rw [Prod.mk.injEq] at e9
          obtain ⟨e9, rfl⟩ := e9
          have := (hMp _).1 h1
          simp [this]
        · have : some ((⟨g, o, none⟩ : Addr), x.ex.args.length) ∉ pre.map plOf := fun hh => h1 _ ((hMp _).2 hh) hkey
          simp [this]
      have hN : ∀ (W5 : World) (L2 : List (Value × Value)), MapIs W5 (b + 1) L2 → Put M (.agg #[.pointer (some ⟨g, o, none⟩), .int .i64 (q : Int)]) (.bool true) L2 → Wb.grownBy W5 (some (b + 1)) → OnceS wo b (pre ++ [x]) W5 ∧ Fr [b + 2, b + 1] W1 W5 := fun W5 L2 h1 h2 h3 => by
        obtain ⟨es, clock, -, -, hnd⟩ := hMb
        have hput := put_mem hnd h2
        refine ⟨⟨box_on hbx ((h3.block _ (Nat.lt_of_lt_of_le hbx.lt hbB.size) (fun e9 => by have := Option.some.inj e9; omega)).trans (hbB.block _ hbx.lt)), L2, h1, fun y hy => ?_, fun p2 => ?_⟩, (Fr.of_below hbB).trans (Fr.grown h3 (fun k e9 => by cases e9; simp)) (fun k hk => Or.inl hk)⟩
        · obtain ⟨yk, yv⟩ := y
          rcases (hput yk yv).1 hy with ⟨rfl, rfl⟩ | ⟨-, hy⟩
          · exact ⟨(⟨g, o, none⟩, x.ex.args.length), by rw [hkey], hfg⟩
          · exact hMK _ hy
        · rw [hput, hMp p2, List.map_append, List.map_cons, List.map_nil, hp, List.mem_append, List.mem_singleton]
          constructor
          · rintro (⟨h9, -⟩ | ⟨-, h9⟩)
            · exact Or.inr (by rw [← hkey] at h9; rw [pkv_inj h9])
            · exact Or.inl h9
          · intro h9
            by_cases h8 : pkv p2 = .agg #[.pointer (some ⟨g, o, none⟩), .int .i64 (q : Int)]
            · exact Or.inl ⟨h8, rfl⟩
            · rcases h9 with h9 | h9
              · exact Or.inr ⟨h8, h9⟩
              · rw [Option.some.inj h9] at h8
                exact absurd hkey h8
      rw [hans] at hr2
      rw [hWb] at hr2 hMb hKK hPK hN
      exact ⟨hr2, hMb, hKK, hPK, hN, (hb2.cell (p := ⟨b + 2, 0, none⟩) hbx.lt).trans hc, Nat.lt_of_lt_of_le hbx.lt hb2.size⟩)
    have hq1 : 0 < q := by omega
    have HPL := Lib.hid (fun (k : Nat) => place_in F k hF hro g o q c W1 hq1 (by omega))
    generalize askO pre x = ak at *
    have hqe : ((q : Int) == 0) = false := by simp; omega
    clear hM hMK hMp hbx hfW hfg hat hg1 hg2 hp hp0 hp1 hst hx hW hkey h0 hq hfr hc hq1
    refine callsIn_of_wp Try.func116 rfl (hF _) ?_ hro
    simp only [Try.ntmps116, List.size_toArray, List.length_cons, List.length_nil, Nat.reduceAdd, Nat.reduceSub, Array.replicate_succ, Array.replicate_zero, List.push_toArray, List.append_toArray, List.nil_append, List.cons_append]
    gi_wp2_with (first
      | (gi_at_call 91; refine (HPL.out _).mono ?_; rintro r W2 ⟨rfl, hb2⟩; obtain ⟨hr2, hmb, hkk, hpk, hn5, hc2', hbl2⟩ := HALL.out W2 hb2; have HMB := Lib.hid hmb; have HKK := Lib.hid hkk; have HPK := Lib.hid hpk; have HN := Lib.hid hn5; clear hmb hkk hpk hn5 hb2)
      | (gi_at_mapUpdate; refine asc_put_in _ rfl _ _ _ 78 rfl 129 4 Try.underlying78 (PlaceK _) (placeT _) (b + 1) M rfl HMB.out _ _ rfl rfl HPK.out HKK.out ?_; intro W5 L2 hm5 hp5 hg5; have HE5 := Lib.hid (HN.out W5 L2 hm5 hp5 hg5); clear hm5 hp5 hg5))
    go_ret
    exact ⟨by simp, HE5.out⟩

/-- The boxes of nodesWhere$1 behind block b. -/
def onceLb (b : Nat) : Array Value := #[.pointer (some ⟨b + 3, 0, none⟩), .pointer (some ⟨b + 4, 0, none⟩)]
/-- What nodesOnce hands back where the heap had b blocks. -/
def onceFun (b : Nat) : Value := .func (.func 128) #[] (onceLb b)
/-- The world behind a call of nodesOnce. -/
def onceW (w : World) (k : Int) (s : ByteArray) (u : Value) : World :=
  ((((w.alloc (.cells #[.int .i64 k, .string s, u] 26)).alloc (.map #[] 0)).alloc (.cells #[.map (some (w.heap.size + 1))] 78)).alloc (.cells #[.int .i64 k, .string s, u] 26)).alloc (.cells #[.func (.func 116) #[] #[.pointer (some ⟨w.heap.size + 2, 0, none⟩)]] 159)
theorem onceW_size (w : World) (k : Int) (s : ByteArray) (u : Value) : (onceW w k s u).heap.size = w.heap.size + 5 := by simp [onceW]
theorem onceW_below {n : Nat} {wo w : World} (h : Below n wo w) (hn : n ≤ w.heap.size) (k : Int) (s : ByteArray) (u : Value) : Below n wo (onceW w k s u) :=
  ((((h.alloc hn _).alloc (by simp; omega) _).alloc (by simp; omega) _).alloc (by simp; omega) _).alloc (by simp; omega) _
theorem onceW_facts (w : World) (k : Int) (s : ByteArray) (u : Value) : (onceW w k s u).heap[w.heap.size + 3]? = some (.cells #[.int .i64 k, .string s, u] 26 (0, 0)) ∧ Boxed (onceW w k s u) (w.heap.size + 4) 159 (.func (.func 116) #[] #[.pointer (some ⟨w.heap.size + 2, 0, none⟩)]) ∧
    Boxed (onceW w k s u) (w.heap.size + 2) 78 (.map (some (w.heap.size + 1))) ∧ MapIs (onceW w k s u) (w.heap.size + 1) [] := by
  obtain ⟨a1, h1⟩ : ∃ a1, a1 = w.alloc (.cells #[.int .i64 k, .string s, u] 26) := ⟨_, rfl⟩
  obtain ⟨a2, h2⟩ : ∃ a2, a2 = a1.alloc (.map #[] 0) := ⟨_, rfl⟩
  obtain ⟨a3, h3⟩ : ∃ a3, a3 = a2.alloc (.cells #[.map (some (w.heap.size + 1))] 78) := ⟨_, rfl⟩
  obtain ⟨a4, h4⟩ : ∃ a4, a4 = a3.alloc (.cells #[.int .i64 k, .string s, u] 26) := ⟨_, rfl⟩
  obtain ⟨a5, h5⟩ : ∃ a5, a5 = a4.alloc (.cells #[.func (.func 116) #[] #[.pointer (some ⟨w.heap.size + 2, 0, none⟩)]] 159) := ⟨_, rfl⟩
  have e : onceW w k s u = a5 := by rw [h5, h4, h3, h2, h1]; rfl
  have s1 : a1.heap.size = w.heap.size + 1 := by rw [h1]; simp
  have s2 : a2.heap.size = w.heap.size + 2 := by rw [h2]; simp [s1]
  have s3 : a3.heap.size = w.heap.size + 3 := by rw [h3]; simp [s2]
  have s4 : a4.heap.size = w.heap.size + 4 := by rw [h4]; simp [s3]
  have k2 : ∀ j, j < w.heap.size + 2 → a3.heap[j]? = a2.heap[j]? := fun j hj => by rw [h3]; exact Below.heap_alloc _ _ _ (by omega)
  have k3 : ∀ j, j < w.heap.size + 3 → a4.heap[j]? = a3.heap[j]? := fun j hj => by rw [h4]; exact Below.heap_alloc _ _ _ (by omega)
  have k4 : ∀ j, j < w.heap.size + 4 → a5.heap[j]? = a4.heap[j]? := fun j hj => by rw [h5]; exact Below.heap_alloc _ _ _ (by omega)
  have m := MapIs.made a1
  rw [← h2, s1] at m
  have b3 := Boxed.new a2 78 (.map (some (w.heap.size + 1)))
  rw [← h3, s2] at b3
  have b4 := World.alloc_heap_new a3 (.cells #[.int .i64 k, .string s, u] 26)
  rw [← h4, s3] at b4
  have b5 := Boxed.new a4 159 (.func (.func 116) #[] #[.pointer (some ⟨w.heap.size + 2, 0, none⟩)])
  rw [← h5, s4] at b5
  rw [e]
  exact ⟨(k4 _ (by omega)).trans b4, b5, box_on b3 ((k4 _ (by omega)).trans (k3 _ (by omega))), m.on ((k4 _ (by omega)).trans ((k3 _ (by omega)).trans (k2 _ (by omega))))⟩

theorem run_makePlaces (w : World) : (Instr.makeMap 78 none).run Try.prog w = .ok (.map (some w.heap.size)) (w.alloc (.map #[] 0)) := by
  simp [Instr.makeMap]
set_option maxHeartbeats 1000000 in
theorem nodesOnce_in (F : Fence) (n : Nat) (hF : ∀ k, F.fn k) (hro : F.round = none) (hn : 1 ≤ n) (k : Int) (s : ByteArray) (A : Option Addr) (m c : Nat) (w : World) :
    CallsIn F n Try.prog 95 #[.agg #[.int .i64 k, .string s, .slice A m c]] w fun e w2 => e = .returned (onceFun w.heap.size) ∧ w2 = onceW w k s (.slice A m c) := by
  have hmk := run_makePlaces
  refine callsIn_of_wp Try.func95 rfl (hF _) ?_ hro
  simp only [Try.ntmps95, List.size_toArray, List.length_cons, List.length_nil, Nat.reduceAdd, Nat.reduceSub, Array.replicate_succ, Array.replicate_zero, List.push_toArray, List.append_toArray, List.nil_append, List.cons_append]
  gi_wp2_with (gi_at_call 108; refine (nodesWhere_in F (n - 1) hF hro _ _ _ _ _ _ _ _).mono ?_; rintro e w' ⟨rfl, rfl⟩)
  go_ret
  exact ⟨rfl, rfl⟩

/-- What nodesOnce hands back, as a range over it wants it: it tells of every first occurrence what all nodes tell. -/
theorem once_stops (F : Fence) (n : Nat) (hFw : F = Fence.wide) (hro : F.round = none) (hF : ∀ k, F.fn k) (hn : 3 ≤ n) (wo : World) (e : Ex) (u : Value) (bs : List Nat) (he : ExIs wo (.agg #[.int .i64 e.kind, .string e.name, u]) e bs) (hsz : exSize e ≤ 1099511627776) (hfr : ∀ z ∈ bs, ∀ o, wo.frozen? ⟨z, o, none⟩ = false) (b : Nat) (w0 w : World) (hb : b = w0.heap.size) (hw : w = onceW w0 e.kind e.name u) (hW : Below wo.heap.size wo w0) :
    SeqF F n Try.prog 128 (onceLb b) (fun x : It wo => #[x.val]) wo.heap.size (fun xs => ∀ q : Ex → Bool, (xs.map It.ex).find? q = (exNodes e).find? q) (fun pre => ∃ rest, ∀ q : Ex → Bool, (pre.map It.ex ++ rest).find? q = (exNodes e).find? q) (exSize e) [b + 4, b + 2, b + 1] w := by
  intro l J Jx W hwW hJ hJx hY h0
  have hs0 := hW.size
  have hsz2 : w.heap.size = w0.heap.size + 5 := by rw [hw, onceW_size]
  obtain ⟨f1, f2, f3, f4⟩ := onceW_facts w0 e.kind e.name u
  rw [← hw, ← hb] at f1 f2 f3 f4
  have hlow : Below wo.heap.size wo w := by rw [hw]; exact onceW_below hW hs0 _ _ _
  have k : ∀ j, j < b + 5 → W.heap[j]? = w.heap[j]? := fun j hj => hwW.block j (by omega)
  have hb2 : W.heap[b + 3]? = some (.cells #[.int .i64 e.kind, .string e.name, u] 26 (0, 0)) := (k _ (by omega)).trans f1
  have hg2 := box_on f2 (k (b + 4) (by omega))
  have hWs := hwW.size
  refine (nodes_once_in F n hFw hro hF hn l (b + 3) (b + 4) (b + 2) wo e u bs he hsz J Jx hJ hJx hY (InvO e bs) (OnceS wo b) askO [b + 4, b + 2, b + 1] [b + 2, b + 1] ?_ ?_ ?_ (fun pre A B h _ hk => h.on hk) ?_
    W (hlow.trans (hwW.mono hlow.size)) (fun j hj => by simp at hj; omega) (by simp) (fun j hj => by simp at hj ⊢; omega) hg2 (by simp [World.cell?, hb2]) (by simp [World.cell?, hb2]) (by simp [World.cell?, hb2]) h0 ⟨box_on f3 (k (b + 2) (by omega)), [], f4.on (k (b + 1) (by omega)), (fun x hx => by cases hx), fun p => by simp⟩).mono ?_
  · intro x hx hb9
    exact InvO.start x hx (fun z hz => by rw [hb9] at hz; exact hz)
  · intro pre st x ks h _ hk hb
    exact h.go hk hb
  · intro pre st x h ha
    exact h.skip ha
  · intro pre x A c W1 h1 h2 h3 _ h5
    exact once_in F (n - 1) hF hro (by omega) wo e bs b hfr pre x A c W1 h1 h2 h3 h5
  · rintro r W2 ⟨hv, ⟨xs, M, h1, h2⟩ | ⟨pre, M, ⟨pre0, st0, x, rfl, h1⟩, h2⟩⟩
    · refine ⟨hv, .inl ⟨xs, M, fun q => ?_, h2⟩⟩
      have := h1.find q
      simpa [due] using this
    · refine ⟨hv, .inr ⟨_, M, ⟨exNodesL x.ex.args ++ due st0, fun q => ?_⟩, h2⟩⟩
      have := h1.find q
      rw [due_one] at this
      rw [← this]
      simp
end Go.Proofs.Ytbnghkgfbjipdaa

namespace Go.Proofs.Ytbnghkgfbjipdaa
open Go Go.RowKit

/-- As SeqF; what J says implies Qw of the world. -/
def SeqQ {α : Type} (Qw : World → Prop) (F : Fence) (n : Nat) (P : Program) (g : Nat) (lb : Array Value) (encs : α → Array Value) (n₀ : Nat) (S Sp : List α → Prop) (N : Nat) (M0 : List Nat) (w : World) : Prop :=
  ∀ (l : Nat) (J Jx : List α → List Nat → World → Prop) (W : World), Below w.heap.size w W → Minds J → Minds Jx → (∀ pre M W, J pre M W → Qw W) → (∀ pre M W, Jx pre M W → Qw W) →
    (∀ pre x M W1, J pre M W1 → (∀ k ∈ M, k < W1.heap.size) → pre.length < N → YieldAt F (n - 1) P l (encs x) W1 fun e W2 =>
      (e = .returned (.bool true) ∧ J (pre ++ [x]) M W2 ∧ Kept n₀ M W1 W2) ∨ (e = .returned (.bool false) ∧ Jx (pre ++ [x]) M W2 ∧ Kept n₀ M W1 W2)) →
    J [] M0 W →
    CallsIn F n P g (#[.func (.yield l) #[] #[]] ++ lb) W fun e W2 => (∃ v, e = .returned v) ∧ ((∃ xs M, S xs ∧ J xs M W2) ∨ (∃ pre M, Sp pre ∧ Jx pre M W2))

variable {F : Fence} {n : Nat} {P : Program}

theorem wpIn_rangeFunc_frameQ {α : Type} {g : Operand} {ps : Array Tmp} {assign body : Code} {Q : Exit → Act → World → Prop} {a : Act} {w : World}
    (hro : F.round = none) (h1 : 1 ≤ n) {gf : Nat} {lb : Array Value} (hg : a.eval g = .func (.func gf) #[] lb) (hFg : F.fn gf) (eg : ∀ args w, (callFunc gf args).run P w = .ok (.enter gf args) w)
    {encs : α → Array Value} {n₀ : Nat} {S Sp : List α → Prop} {N : Nat} {M0 : List Nat} {w0 : World} {Qw : World → Prop} (hseq : SeqQ Qw F (n - 1) P gf lb encs n₀ S Sp N M0 w0)
    (hb0 : Below w0.heap.size w0 w) (hn0 : n₀ ≤ w.heap.size) (hM0 : ∀ k ∈ M0, n₀ ≤ k ∧ k < w.heap.size) (hps : ∀ x, (encs x).size = ps.size)
    (I : List α → List Nat → World → Prop) (hIQ : ∀ pre Fp W, I pre Fp W → Qw W) (Ix : Code → List α → List Nat → World → Prop) (hI : ∀ xs, Foot (I xs)) (hIx : ∀ c xs, Foot (Ix c xs)) (hIxQ : ∀ c pre Fp W, Ix c pre Fp W → Qw W)
    (Fp0 : List Nat) (hFp0 : ∀ k ∈ Fp0, n₀ ≤ k ∧ k < w.heap.size ∧ k ∉ M0) (h0 : I [] Fp0 w)
    (Ax : List α → α → Act → List Nat → World → Prop) (hAx : ∀ xs x a2, Foot (Ax xs x a2))
    (hassign : ∀ (l : Nat) (pre : List α) (x : α) (Fp : List Nat) (W : World) (K : Act → World → Prop), I pre Fp W → (∀ k ∈ Fp, n₀ ≤ k ∧ k < W.heap.size) → Fr (Fp0 ++ M0) w W →
      (∀ a2 Fp2 W2, Fr Fp W W2 → (∀ k ∈ Fp2, (k ∈ Fp ∨ W.heap.size ≤ k) ∧ k < W2.heap.size) → Ax pre x a2 Fp2 W2 → K a2 W2) →
      assign.wpIn (F.inRound l) (n - 1 - 1) P (Exit.then K (fun _ _ _ => False)) { tmps := (ps.zip (encs x)).foldl (fun t (p, v) => t.setIfInBounds p v) a.tmps, defers := [] } W)
    (hbody : ∀ (l : Nat) (pre : List α) (x : α) (a2 : Act) (Fp : List Nat) (W : World), Ax pre x a2 Fp W → (∀ k ∈ Fp, n₀ ≤ k ∧ k < W.heap.size) → Fr (Fp0 ++ M0) w W → pre.length < N →
      body.wpIn (F.inRound l) (n - 1 - 1) P (framePost I Ix (pre ++ [x]) Fp W) a2 W)
    (hdone : ∀ (D : Nat) (xs : List α) (Fp : List Nat) (W : World), w.heap.size ≤ D → D ∉ Fp → (∀ k ∈ Fp, k < W.heap.size ∧ (k ∈ Fp0 ∨ w.heap.size ≤ k)) → S xs → I xs Fp W → Fr (Fp0 ++ M0) w W → W.heap[D]? = some (.deferred (some [])) → Q .normal { a with defers := { target := .collected D, args := #[] } :: a.defers } W)
    (hstop : ∀ (D : Nat) (c : Code) (pre : List α) (Fp : List Nat) (W : World), w.heap.size ≤ D → D ∉ Fp → (∀ k ∈ Fp, k < W.heap.size ∧ (k ∈ Fp0 ∨ w.heap.size ≤ k)) → Sp pre → Ix c pre Fp W → Fr (Fp0 ++ M0) w W → W.heap[D]? = some (.deferred (some [])) → c.wpIn F n P Q { a with defers := { target := .collected D, args := #[] } :: a.defers } W) :
    (Code.rangeFunc g ps assign body).wpIn F n P Q a w := by
  refine wpIn_rangeFunc fun fn hfn => ?_
  rw [hro]
  obtain ⟨lr, hlr⟩ : ∃ lr : LoopState → Option Code → Loop, ∀ st pe, lr st pe = { state := st, pending := pe, fn, tmps := a.tmps, params := ps, assign, body, defers := w.heap.size } := ⟨_, fun _ _ => rfl⟩
  obtain ⟨X, hX⟩ : ∃ X, X = (w.alloc (.deferred (some []))).alloc (.loop (lr .ready none)) := ⟨_, rfl⟩
  have hsX : X.heap.size = w.heap.size + 2 := by rw [hX]; simp
  have hXl : X.heap[w.heap.size + 1]? = some (.loop (lr .ready none)) := by
    have := World.alloc_heap_new (w.alloc (.deferred (some []))) (.loop (lr .ready none))
    rw [World.size_alloc, ← hX] at this
    exact this
  have hXd : X.heap[w.heap.size]? = some (.deferred (some [])) := by
    rw [hX]; exact (Below.heap_alloc _ _ _ (by simp)).trans (World.alloc_heap_new w _)
  have hwX : Below w.heap.size w X := by
    rw [hX]; exact ((Below.refl _ w).alloc (Nat.le_refl _) _).alloc (by simp) _
  -- what both sides hold to, between two rounds
  let Jn : (List α → List Nat → World → Prop) → (World → Prop) → List α → List Nat → World → Prop := fun G L pre M W =>
    ∃ Fp, G pre Fp W ∧ (∀ k ∈ Fp, n₀ ≤ k ∧ k < W.heap.size ∧ k ∉ M ∧ k ≠ w.heap.size ∧ k ≠ w.heap.size + 1 ∧ (k ∈ Fp0 ∨ w.heap.size ≤ k)) ∧ Fr (Fp0 ++ M0) w W ∧ L W ∧ W.heap[w.heap.size]? = some (.deferred (some [])) ∧ w.heap.size ∉ M ∧ w.heap.size + 1 ∉ M ∧ (∀ k ∈ M, n₀ ≤ k ∧ (k ∈ M0 ∨ w.heap.size ≤ k))
  have hminds : ∀ (G : List α → List Nat → World → Prop) (L : World → Prop), (∀ xs, Foot (G xs)) → (∀ A, L A → w.heap.size + 1 < A.heap.size) → (∀ A B : World, L A → B.heap[w.heap.size + 1]? = A.heap[w.heap.size + 1]? → L B) → Minds (Jn G L) := by
    intro G L hG hL0 hL pre M M2 A B ⟨Fp, h1, h2, h3, h4, h5, h6, h7, h8⟩ hf hm
    have hlt := hL0 A h4
    have hnew : ∀ k, k < A.heap.size → k ∉ M → k ∉ M2 := fun k hk hn hk2 => (hm k hk2).elim hn (fun h => by omega)
    refine ⟨Fp, hG pre Fp A B h1 hf.size (fun k hk => hf.block k (h2 k hk).2.1 (h2 k hk).2.2.1), fun k hk => ?_, h3.trans hf (fun k hk => (h8 k hk).2.imp (fun h => List.mem_append_right _ h) id), hL A B h4 (hf.block _ hlt h7), (hf.block _ (by omega) h6).trans h5, hnew _ (by omega) h6, hnew _ (by omega) h7, fun k hk => ?_⟩
    · obtain ⟨e1, e2, e3, e4, e5⟩ := h2 k hk
      exact ⟨e1, Nat.lt_of_lt_of_le e2 hf.size, hnew k e2 e3, e4, e5⟩
    · rcases hm k hk with h | h
      · exact h8 k h
      · exact ⟨by omega, Or.inr (by omega)⟩
  let L1 : World → Prop := fun W => W.heap[w.heap.size + 1]? = some (.loop (lr .ready none))
  refine ⟨w.heap.size + 1, [{ target := .collected w.heap.size, args := #[] }], X, { target := .fn (.func gf) lb, args := #[.func (.yield (w.heap.size + 1)) #[] #[]] }, X, gf,
    #[.func (.yield (w.heap.size + 1)) #[] #[]] ++ lb, X, ?_, ?_, ?_, ?_, fun _ => h1, ?_⟩
  · rw [hX, hlr]; exact run_enterLoop_outer _ _ _ _ _
  · simp only [resolve, hg]
    simp [go_sem]
  · intro f2 hf2; simp [Target.leads] at hf2; subst hf2; exact hFg
  · simp [invoke, go_sem, eg]
  · refine (hseq (w.heap.size + 1) (Jn I L1)
      (fun pre M W => ∃ c, Jn (Ix c) (fun W => W.heap[w.heap.size + 1]? = some (.loop (lr .done (some c)))) pre M W)
      X (hb0.trans (hwX.mono hb0.size))
      (hminds _ _ hI (fun A h => (Array.getElem?_eq_some_iff.1 h).1) (fun A B h e => e.trans h))
      (fun pre M M2 A B ⟨c, h⟩ hf hm => ⟨c, hminds _ _ (hIx c) (fun A h => (Array.getElem?_eq_some_iff.1 h).1) (fun A B h e => e.trans h) pre M M2 A B h hf hm⟩)
      (fun pre M W h => by obtain ⟨Fp, hi, -⟩ := h; exact hIQ pre Fp W hi) (fun pre M W h => by obtain ⟨c, Fp, hi, -⟩ := h; exact hIxQ c pre Fp W hi) ?_ ?_).mono ?_
    · -- one round
      rintro pre x M W ⟨Fp, hi, hF, hB, hl, hd, hdM, hlM, hMn⟩ hMs hlen
      have hlt : w.heap.size + 1 < W.heap.size := (Array.getElem?_eq_some_iff.1 hl).1
      have hy := run_yield (P := P) (args := encs x) hl (by rw [hlr]; exact hps x)
      rw [hlr] at hy
      refine ⟨fn, _, assign, body, hy, roundIn_of_wpIn hfn (hassign _ pre x Fp W _ hi (fun k hk => ⟨(hF k hk).1, (hF k hk).2.1⟩) hB ?_)⟩
      intro a2 Fp2 W2 hfr2 hFp2 hax
      have hold2 : ∀ k, k < W.heap.size → k ∉ Fp → k ∉ Fp2 := fun k hk hn h => (hFp2 k h).1.elim hn (fun h => by omega)
      have hlF : w.heap.size + 1 ∉ Fp := fun h => (hF _ h).2.2.2.2.1 rfl
      have hdF : w.heap.size ∉ Fp := fun h => (hF _ h).2.2.2.1 rfl
      have hl2 := (hfr2.block _ hlt hlF).trans hl
      have hd2 := (hfr2.block _ (by omega) hdF).trans hd
      have hlt2 : w.heap.size + 1 < W2.heap.size := Nat.lt_of_lt_of_le hlt hfr2.size
      refine ⟨_, run_beginRound hl2 (by rw [hlr]), ?_⟩
      obtain ⟨W3, hW3⟩ : ∃ W3, W3 = W2.putObj (w.heap.size + 1) (.loop { lr .ready none with state := .busy }) := ⟨_, rfl⟩
      rw [← hW3]
      have hs3 : W3.heap.size = W2.heap.size := by rw [hW3]; simp
      have ho3 : ∀ k, k ≠ w.heap.size + 1 → W3.heap[k]? = W2.heap[k]? := fun k hk => by rw [hW3]; exact World.putObj_heap_other hk
      have hl3 : W3.heap[w.heap.size + 1]? = some (.loop { lr .ready none with state := .busy }) := by rw [hW3]; exact World.putObj_heap_same hlt2
      have hlF2 := hold2 _ hlt hlF
      have hdF2 := hold2 _ (by omega) hdF
      have hFn : ∀ k ∈ Fp2, n₀ ≤ k := fun k hk => (hFp2 k hk).1.elim (fun h => (hF k h).1) (fun h => by omega)
      have hB2 : Fr (Fp0 ++ M0) w W2 := hB.trans hfr2 (fun k hk => (hF k hk).2.2.2.2.2.imp (fun h => List.mem_append_left _ h) id)
      have hB3 : Fr (Fp0 ++ M0) w W3 := hB2.trans (T := [w.heap.size + 1]) (by rw [hW3]; exact Fr.put W2 _ _ (by simp)) (by simp)
      have hFo : ∀ k ∈ Fp2, k ∈ Fp0 ∨ w.heap.size ≤ k := fun k hk => (hFp2 k hk).1.elim (fun h => (hF k h).2.2.2.2.2) (fun h => Or.inr (by omega))
      refine wpIn_mono (hbody _ pre x a2 Fp2 W3 (hAx pre x a2 Fp2 W2 W3 hax (by omega) (fun k hk => ho3 k (fun e => hlF2 (e ▸ hk)))) (fun k hk => ⟨hFn k hk, by rw [hs3]; exact (hFp2 k hk).2⟩) hB3 hlen) ?_
      -- behind the body
      have fin : ∀ (jump : Option Code) (Fp4 : List Nat) (W4 : World), Fr Fp2 W3 W4 → (∀ k ∈ Fp4, (k ∈ Fp2 ∨ W3.heap.size ≤ k) ∧ k < W4.heap.size) →
          (Instr.endRound (w.heap.size + 1) jump).run P W4 = .ok (.bool jump.isNone) (W4.putObj (w.heap.size + 1) (.loop (lr (if jump.isNone then .ready else .done) jump))) ∧
          ∀ G : List α → List Nat → World → Prop, (∀ xs, Foot (G xs)) → G (pre ++ [x]) Fp4 W4 →
            Jn G (fun W => W.heap[w.heap.size + 1]? = some (.loop (lr (if jump.isNone then .ready else .done) jump))) (pre ++ [x]) M (W4.putObj (w.heap.size + 1) (.loop (lr (if jump.isNone then .ready else .done) jump))) ∧
            Kept n₀ M W (W4.putObj (w.heap.size + 1) (.loop (lr (if jump.isNone then .ready else .done) jump))) := by
        intro jump Fp4 W4 hfr4 hFp4
        have hl4 := (hfr4.block _ (by omega) hlF2).trans hl3
        have hd4 := (hfr4.block _ (by omega) hdF2).trans ((ho3 _ (by omega)).trans hd2)
        have hr := run_endRound (P := P) jump hl4
        rw [hlr] at hr ⊢
        have hlt4 : w.heap.size + 1 < W4.heap.size := (Array.getElem?_eq_some_iff.1 hl4).1
        obtain ⟨W5, hW5⟩ : ∃ W5, W5 = W4.putObj (w.heap.size + 1) (.loop (lr (if jump.isNone then .ready else .done) jump)) := ⟨_, rfl⟩
        rw [hlr] at hW5
        have ho5 : ∀ k, k ≠ w.heap.size + 1 → W5.heap[k]? = W4.heap[k]? := fun k hk => by rw [hW5]; exact World.putObj_heap_other hk
        have hs5 : W5.heap.size = W4.heap.size := by rw [hW5]; simp
        have hold4 : ∀ k, k < W3.heap.size → k ∉ Fp2 → k ∉ Fp4 := fun k hk hn h => (hFp4 k h).1.elim hn (fun h => by omega)
        have hs2 := hfr2.size
        have hs4 := hfr4.size
        have hB4 : Below n₀ W3 W4 := hfr4.below hFn (by omega)
        have hB5 : Below n₀ W4 W5 := by rw [hW5]; exact (Fr.put (S := [w.heap.size + 1]) W4 _ _ (by simp)).below (by simp; omega) (by omega)
        refine ⟨hr, ?_⟩
        rw [← hW5]
        intro G hG hg4
        refine ⟨⟨Fp4, hG _ Fp4 W4 W5 hg4 (by omega) (fun k hk => ho5 k (fun e => hold4 _ (by omega) hlF2 (e ▸ hk))), fun k hk => ?_, (hB3.trans hfr4 (fun k hk => (hFo k hk).imp (fun h => List.mem_append_left _ h) id)).trans (T := [w.heap.size + 1]) (by rw [hW5]; exact Fr.put W4 _ _ (by simp)) (by simp), by rw [hW5]; exact World.putObj_heap_same hlt4, (ho5 _ (by omega)).trans hd4, hdM, hlM, hMn⟩, ?_, fun k hk => ?_⟩
        · obtain ⟨e1, e2⟩ := hFp4 k hk
          refine ⟨e1.elim (hFn k) (fun h => by omega), by omega, fun hm => ?_, fun e => hold4 _ (by omega) hdF2 (e ▸ hk), fun e => hold4 _ (by omega) hlF2 (e ▸ hk), e1.elim (hFo k) (fun h => Or.inr (by omega))⟩
          have := hMs k hm
          exact hold4 k (by omega) (hold2 k this (fun h => (hF k h).2.2.1 hm)) hk
        · refine ((hfr2.below (fun k hk => (hF k hk).1) (by omega)).trans ?_).trans (hB4.trans hB5)
          rw [hW3]; exact (Fr.put (S := [w.heap.size + 1]) W2 _ _ (by simp)).below (by simp; omega) (by omega)
        · have hkW := hMs k hk
          have hkl : k ≠ w.heap.size + 1 := fun e => hlM (e ▸ hk)
          have hkF : k ∉ Fp := fun h => (hF k h).2.2.1 hk
          exact (ho5 k hkl).trans ((hfr4.block k (by omega) (hold2 k hkW hkF)).trans ((ho3 k hkl).trans (hfr2.block k hkW hkF)))
      rintro e a4 W4 hp
      cases e with
      | normal =>
        obtain ⟨Fp4, q1, q2, q3⟩ := hp
        obtain ⟨r1, r2⟩ := fin none Fp4 W4 q1 q2
        obtain ⟨r3, r4⟩ := r2 I hI q3
        exact ⟨_, _, r1, .inl ⟨rfl, r3, r4⟩⟩
      | ret =>
        obtain ⟨Fp4, q1, q2, q3⟩ := hp
        obtain ⟨r1, r2⟩ := fin (some .ret) Fp4 W4 q1 q2
        obtain ⟨r3, r4⟩ := r2 (Ix .ret) (hIx _) q3
        exact ⟨_, _, r1, .inr ⟨rfl, ⟨.ret, r3⟩, r4⟩⟩
      | exit id =>
        obtain ⟨Fp4, q1, q2, q3⟩ := hp
        obtain ⟨r1, r2⟩ := fin (some (.exit id)) Fp4 W4 q1 q2
        obtain ⟨r3, r4⟩ := r2 (Ix (.exit id)) (hIx _) q3
        exact ⟨_, _, r1, .inr ⟨rfl, ⟨.exit id, r3⟩, r4⟩⟩
      | goto t =>
        obtain ⟨Fp4, q1, q2, q3⟩ := hp
        obtain ⟨r1, r2⟩ := fin (some (.goto t)) Fp4 W4 q1 q2
        obtain ⟨r3, r4⟩ := r2 (Ix (.goto t)) (hIx _) q3
        exact ⟨_, _, r1, .inr ⟨rfl, ⟨.goto t, r3⟩, r4⟩⟩
      | panic ch => exact hp.elim
      | outgrown => exact hp.elim
    · refine ⟨Fp0, hI [] Fp0 w X h0 hwX.size (fun k hk => hwX.block k (hFp0 k hk).2.1), fun k hk => ?_, Fr.of_below hwX, hXl, hXd, fun h => by have := (hM0 _ h).2; omega, fun h => by have := (hM0 _ h).2; omega, fun k hk => ⟨(hM0 k hk).1, Or.inl hk⟩⟩
      obtain ⟨e1, e2, e3⟩ := hFp0 k hk
      exact ⟨e1, by omega, e3, by omega, by omega, Or.inl hk⟩
    · -- behind the iterator
      have leave : ∀ (G : List α → List Nat → World → Prop) (st : LoopState) (pe : Option Code) (xs : List α) (M : List Nat) (W : World), (∀ xs, Foot (G xs)) → Jn G (fun W => W.heap[w.heap.size + 1]? = some (.loop (lr st pe))) xs M W → st ≠ .busy →
          ∃ Fp W2, (Instr.endLoop (w.heap.size + 1)).run P W = .ok pe W2 ∧ G xs Fp W2 ∧ w.heap.size ∉ Fp ∧ (∀ k ∈ Fp, k < W2.heap.size ∧ (k ∈ Fp0 ∨ w.heap.size ≤ k)) ∧ Fr (Fp0 ++ M0) w W2 ∧ W2.heap[w.heap.size]? = some (.deferred (some [])) := by
        rintro G st pe xs M W hG ⟨Fp, hi, hF, hB, hl, hd, -, -, -⟩ hst
        have hr := run_endLoop (P := P) hl (by rw [hlr]; exact hst)
        have hlt : w.heap.size + 1 < W.heap.size := (Array.getElem?_eq_some_iff.1 hl).1
        refine ⟨Fp, _, by rw [hlr] at hr; exact hr, hG xs Fp W _ hi (by simp) (fun k hk => World.putObj_heap_other (hF k hk).2.2.2.2.1), fun h => (hF _ h).2.2.2.1 rfl, fun k hk => ⟨by simp; exact (hF k hk).2.1, (hF k hk).2.2.2.2.2⟩, hB.trans (T := [w.heap.size + 1]) (Fr.put W _ _ (by simp)) (by simp), (World.putObj_heap_other (by omega)).trans hd⟩
      rintro e W2 ⟨⟨v, rfl⟩, (⟨xs, M, hS, hj⟩ | ⟨pre, M, hSp, c, hj⟩)⟩
      · obtain ⟨Fp, W4, r1, r2, r3, r4, r5, r6⟩ := leave I .ready none xs M W2 hI hj (by simp)
        exact ⟨none, W4, r1, hdone _ xs Fp W4 (Nat.le_refl _) r3 r4 hS r2 r5 r6⟩
      · obtain ⟨Fp, W4, r1, r2, r3, r4, r5, r6⟩ := leave (Ix c) .done (some c) pre M W2 (hIx c) hj (by simp)
        exact ⟨some c, W4, r1, hstop _ c pre Fp W4 (Nat.le_refl _) r3 r4 hSp r2 r5 r6⟩
end Go.Proofs.Ytbnghkgfbjipdaa

namespace Go.Proofs.Ytbnghkgfbjipdaa
open Go Go.RowKit Go.Shelf
attribute [local go_sem] Oper.semAt_some

section
variable {wo : World}
/-- The block of the arguments. -/
def hdOf (x : It wo) : List Nat := (plOf x).toList.map (fun p => p.1.block)
def heads (xs : List (It wo)) : List Nat := xs.flatMap hdOf
theorem heads_snoc (xs : List (It wo)) (x : It wo) : heads (xs ++ [x]) = heads xs ++ hdOf x := by simp [heads]
theorem plOf_head {x : It wo} {p : Addr × Nat} (h : plOf x = some p) : ∃ b, x.bs = p.1.block :: b := by
  obtain ⟨A, c, e1, hs, -, -⟩ := x.slice
  obtain ⟨h1, h2⟩ := plOf_slice e1
  obtain ⟨A', c', e2, -, -, h3⟩ := hs
  cases e2
  by_cases hl : x.ex.args.length = 0
  · rw [h1 hl] at h; cases h
  · rcases h3 with ⟨h3, -⟩ | ⟨g, o, b, rfl, hg, e3, h4⟩
    · rw [h3] at hl; exact absurd rfl hl
    · rw [h2 _ rfl hl] at h
      cases h
      exact ⟨b, e3⟩
theorem mem_heads {xs : List (It wo)} {p : Addr × Nat} (h : some p ∈ xs.map plOf) : p.1.block ∈ heads xs := by
  obtain ⟨x, hx, he⟩ := List.mem_map.1 h
  exact List.mem_flatMap.2 ⟨x, hx, by simp [hdOf, he]⟩
/-- No block is met twice. -/
def InvU (pre st : List (It wo)) : Prop := (heads pre ++ st.flatMap It.bs).Nodup
theorem KidB.sub {bs : List Nat} {xs : List (It wo)} (h : KidB bs xs) : SubB bs xs := by
  intro x hx z hz
  rcases h with ⟨rfl, -⟩ | ⟨g, rfl⟩
  · cases hx
  · exact List.mem_cons_of_mem _ (List.mem_flatMap.2 ⟨x, List.mem_reverse.2 hx, hz⟩)
theorem InvU.go {pre st ks : List (It wo)} {x : It wo} (h : InvU pre (st ++ [x])) (ha : askO pre x = true) (hk : KidB x.bs ks) : InvU (pre ++ [x]) (st ++ ks) := by
  unfold askO at ha
  cases hp : plOf x with
  | none => rw [hp] at ha; cases ha
  | some p =>
    obtain ⟨b, hb⟩ := plOf_head hp
    rcases hk with ⟨-, h0⟩ | ⟨g, hg⟩
    · rw [h0] at hb; cases hb
    · rw [hg] at hb
      obtain ⟨rfl, -⟩ := List.cons.inj hb
      unfold InvU at h ⊢
      have hd : hdOf x = [p.1.block] := by simp [hdOf, hp]
      rw [heads_snoc, hd, List.flatMap_append]
      rw [List.flatMap_append, List.flatMap_cons, List.flatMap_nil, List.append_nil, hg] at h
      have e1 : (ks.flatMap It.bs).Perm (ks.reverse.flatMap It.bs) := (List.reverse_perm ks).symm.flatMap_right It.bs
      refine List.Perm.nodup ?_ h
      rw [List.append_assoc]
      refine List.Perm.append_left _ ?_
      refine List.Perm.trans List.perm_middle ?_
      exact List.Perm.cons _ (List.Perm.append_left _ e1.symm)
theorem InvU.skip {pre st : List (It wo)} {x : It wo} (h : InvU pre (st ++ [x])) (ha : askO pre x = false) : InvU (pre ++ [x]) st := by
  unfold askO at ha
  unfold InvU at h ⊢
  rw [List.flatMap_append, List.flatMap_cons, List.flatMap_nil, List.append_nil] at h
  cases hp : plOf x with
  | none =>
    have hd : hdOf x = [] := by simp [hdOf, hp]
    rw [heads_snoc, hd, List.append_nil]
    rw [← List.append_assoc] at h
    exact (List.nodup_append.1 h).1
  | some p =>
    rw [hp] at ha
    simp only [decide_eq_false_iff_not, Decidable.not_not] at ha
    obtain ⟨b, hb⟩ := plOf_head hp
    rw [List.nodup_append] at h
    exact absurd rfl (h.2.2 _ (mem_heads ha) p.1.block (by simp [hb]))
end
set_option maxRecDepth 100000 in
set_option maxHeartbeats 2000000 in
theorem once_inG (F : Fence) (n : Nat) (hF : ∀ k, F.fn k) (hro : F.round = none) (hn1 : 1 ≤ n) (wo : World) (e : Ex) (bs : List Nat) (b : Nat) (hfr : ∀ z ∈ bs, ∀ o, wo.frozen? ⟨z, o, none⟩ = false)
    (pre : List (It wo)) (x : It wo) (A : Option Addr) (c : Nat) (W1 : World) (n₀ gx : Nat) (hbs : ∀ z ∈ bs, z < n₀ ∨ z = gx) (hs : OnceS wo b pre W1) (hW : RdG n₀ gx wo W1) (hx : x.1.2.2.1 = .slice A x.ex.args.length c) (hI : ∃ st, InvO e bs pre (st ++ [x])) :
    CallsIn F n Try.prog 116 #[.slice A x.ex.args.length c, .pointer (some ⟨b + 2, 0, none⟩)] W1 fun r W2 => r = .returned (.bool (askO pre x)) ∧ OnceS wo b (pre ++ [x]) W2 ∧ Fr [b + 2, b + 1] W1 W2 := by
  obtain ⟨st, hst⟩ := hI
  have hsl := x.slice
  obtain ⟨A', c', e1, -, hc1, hc2⟩ := hsl
  rw [hx] at e1
  cases e1
  obtain ⟨hp0, hp1⟩ := plOf_slice hx
  obtain ⟨q, hq⟩ : ∃ q, q = x.ex.args.length := ⟨_, rfl⟩
  rw [← hq] at hc1 ⊢
  have hqq : (q : Int) ≤ 9223372036854775807 := by omega
  by_cases h0 : q = 0
  · have HA := Lib.hid (show askO pre x = false by unfold askO; rw [hp0 (by rw [← hq, h0])])
    have HS := Lib.hid (show OnceS wo b (pre ++ [x]) W1 from by
      obtain ⟨h1, M, h2, h3, h4⟩ := hs
      refine ⟨h1, M, h2, h3, fun p => ?_⟩
      rw [h4 p, List.map_append, List.map_cons, List.map_nil, hp0 (by rw [← hq, h0])]
      simp)
    clear hs hst hx hp0 hp1 hq
    subst h0
    refine callsIn_of_wp Try.func116 rfl (hF _) ?_ hro
    simp only [Try.ntmps116, List.size_toArray, List.length_cons, List.length_nil, Nat.reduceAdd, Nat.reduceSub, Array.replicate_succ, Array.replicate_zero, List.push_toArray, List.append_toArray, List.nil_append, List.cons_append]
    gi_wp2
    go_ret
    exact ⟨by rw [HA.out]; rfl, HS.out, Fr.refl _ _⟩
  · obtain ⟨p, hp⟩ : ∃ p, plOf x = some p := by
      cases hpl : plOf x with
      | some p => exact ⟨p, rfl⟩
      | none => exact absurd (by rw [hq, plOf_none hpl]; rfl) h0
    obtain ⟨g, o, c2, bs', rfl, e2, -, hg1, hg2, hat⟩ := plOf_some hp
    rw [hx] at e2
    cases e2
    have hfg : FreeB wo g := by
      have hgb : g ∈ bs := hst.blk x (by simp) g hg1
      cases hl : x.ex.args with
      | nil => rw [hl] at hq; exact absurd hq h0
      | cons e9 r9 =>
        rw [hl, ExsAt] at hat
        obtain ⟨b8, b9, -, h8, -⟩ := hat
        obtain ⟨u, k0, -⟩ := h8.is
        exact FreeB.of_cell k0 (hfr g hgb)
    have hfW : ∀ z ∈ bs, FreeB wo z → FreeB W1 z := fun z hzb hz => hz.on ((hW.keeps hbs).2 z hzb hz.lt)
    have hgb0 : g ∈ bs := hst.blk x (by simp) g hg1
    have hpre : ∀ q : Addr × Nat, some q ∈ pre.map plOf → q.1.block ∈ bs := fun q hq => by
      obtain ⟨y, hy, he⟩ := List.mem_map.1 hq
      obtain ⟨b0, hb0⟩ := plOf_head he
      exact hst.blk y (by simp [hy]) _ (by rw [show y.1.2.2.2 = y.bs from rfl, hb0]; simp)
    obtain ⟨hbx, M, hM, hMK, hMp⟩ := hs
    have hc := hbx.cell
    have hkey : pkv (⟨g, o, none⟩, x.ex.args.length) = .agg #[.pointer (some ⟨g, o, none⟩), .int .i64 (q : Int)] := by rw [hq]; rfl
    have HALL := Lib.hid (show ∀ W2, Below W1.heap.size W1 W2 → (Instr.lookup 78 (.map (some (b + 1))) (.agg #[.pointer (some ⟨g, o, none⟩), .int .i64 (q : Int)]) false).run Try.prog (W2.alloc (.cells #[.pointer (some ⟨g, o, none⟩), .int .i64 (q : Int)] 129)) = .ok (.bool (!askO pre x)) (W2.alloc (.cells #[.pointer (some ⟨g, o, none⟩), .int .i64 (q : Int)] 129)) ∧ MapIs (W2.alloc (.cells #[.pointer (some ⟨g, o, none⟩), .int .i64 (q : Int)] 129)) (b + 1) M ∧ (∀ x ∈ M, PlaceK (W2.alloc (.cells #[.pointer (some ⟨g, o, none⟩), .int .i64 (q : Int)] 129)) x.1) ∧ PlaceK (W2.alloc (.cells #[.pointer (some ⟨g, o, none⟩), .int .i64 (q : Int)] 129)) (.agg #[.pointer (some ⟨g, o, none⟩), .int .i64 (q : Int)]) ∧
        (∀ (W5 : World) (L2 : List (Value × Value)), MapIs W5 (b + 1) L2 → Put M (.agg #[.pointer (some ⟨g, o, none⟩), .int .i64 (q : Int)]) (.bool true) L2 → (W2.alloc (.cells #[.pointer (some ⟨g, o, none⟩), .int .i64 (q : Int)] 129)).grownBy W5 (some (b + 1)) → OnceS wo b (pre ++ [x]) W5 ∧ Fr [b + 2, b + 1] W1 W5) ∧ W2.cell? ⟨b + 2, 0, none⟩ = some (.map (some (b + 1))) ∧ b + 2 < W2.heap.size from fun W2 hb2 => by
      obtain ⟨Wb, hWb⟩ : ∃ Wb, Wb = W2.alloc (.cells #[.pointer (some ⟨g, o, none⟩), .int .i64 (q : Int)] 129) := ⟨_, rfl⟩
      have hbB : Below W1.heap.size W1 Wb := by rw [hWb]; exact hb2.alloc hb2.size _
      have hMb : MapIs Wb (b + 1) M := hM.on (hbB.block _ hM.lt)
      have hfB : ∀ z ∈ bs, FreeB wo z → FreeB Wb z := fun z hzb hz => (hfW z hzb hz).on (hbB.block z (hfW z hzb hz).lt)
      have hKK : ∀ x ∈ M, PlaceK Wb x.1 := fun y hy => by
        obtain ⟨p2, rfl, hf⟩ := hMK y hy
        exact ⟨p2.1, (p2.2 : Int), rfl, hfB _ (hpre p2 ((hMp p2).1 hy)) hf⟩
      have hPK : PlaceK Wb (.agg #[.pointer (some ⟨g, o, none⟩), .int .i64 (q : Int)]) := ⟨_, _, rfl, hfB g hgb0 hfg⟩
      obtain ⟨vl, has, hrun, hit⟩ := hMb.look (placeT Wb) Try.underlying78 (zeroB Wb) hPK hKK
      have hr2 := hrun false
      simp only [if_false, Bool.false_eq_true] at hr2
      have hans : vl = .bool (!askO pre x) := by
        unfold askO
        rw [hp]
        rcases hit with ⟨h1, rfl⟩ | ⟨h1, rfl, rfl⟩
        · obtain ⟨p2, e9, -⟩ := hMK _ h1
          rw [← hkey] at e9 h1
          rw [Prod.mk.injEq] at e9
          obtain ⟨e9, rfl⟩ := e9
          have := (hMp _).1 h1
          simp [this]
        · have : some ((⟨g, o, none⟩ : Addr), x.ex.args.length) ∉ pre.map plOf := fun hh => h1 _ ((hMp _).2 hh) hkey
          simp [this]
      have hN : ∀ (W5 : World) (L2 : List (Value × Value)), MapIs W5 (b + 1) L2 → Put M (.agg #[.pointer (some ⟨g, o, none⟩), .int .i64 (q : Int)]) (.bool true) L2 → Wb.grownBy W5 (some (b + 1)) → OnceS wo b (pre ++ [x]) W5 ∧ Fr [b + 2, b + 1] W1 W5 := fun W5 L2 h1 h2 h3 => by
        obtain ⟨es, clock, -, -, hnd⟩ := hMb
        have hput := put_mem hnd h2
        refine ⟨⟨box_on hbx ((h3.block _ (Nat.lt_of_lt_of_le hbx.lt hbB.size) (fun e9 => by have := Option.some.inj e9; omega)).trans (hbB.block _ hbx.lt)), L2, h1, fun y hy => ?_, fun p2 => ?_⟩, (Fr.of_below hbB).trans (Fr.grown h3 (fun k e9 => by cases e9; simp)) (fun k hk => Or.inl hk)⟩
        · obtain ⟨yk, yv⟩ := y
          rcases (hput yk yv).1 hy with ⟨rfl, rfl⟩ | ⟨-, hy⟩
          · exact ⟨(⟨g, o, none⟩, x.ex.args.length), by rw [hkey], hfg⟩
          · exact hMK _ hy
        · rw [hput, hMp p2, List.map_append, List.map_cons, List.map_nil, hp, List.mem_append, List.mem_singleton]
          constructor
          · rintro (⟨h9, -⟩ | ⟨-, h9⟩)
            · exact Or.inr (by rw [← hkey] at h9; rw [pkv_inj h9])
            · exact Or.inl h9
          · intro h9
            by_cases h8 : pkv p2 = .agg #[.pointer (some ⟨g, o, none⟩), .int .i64 (q : Int)]
            · exact Or.inl ⟨h8, rfl⟩
            · rcases h9 with h9 | h9
              · exact Or.inr ⟨h8, h9⟩
              · rw [Option.some.inj h9] at h8
                exact absurd hkey h8
      rw [hans] at hr2
      rw [hWb] at hr2 hMb hKK hPK hN
      exact ⟨hr2, hMb, hKK, hPK, hN, (hb2.cell (p := ⟨b + 2, 0, none⟩) hbx.lt).trans hc, Nat.lt_of_lt_of_le hbx.lt hb2.size⟩)
    have hq1 : 0 < q := by omega
    have HPL := Lib.hid (fun (k : Nat) => place_in F k hF hro g o q c W1 hq1 (by omega))
    generalize askO pre x = ak at *
    have hqe : ((q : Int) == 0) = false := by simp; omega
    clear hM hMK hMp hbx hfW hgb0 hpre hfg hat hg1 hg2 hp hp0 hp1 hst hx hW hkey h0 hq hfr hc hq1
    refine callsIn_of_wp Try.func116 rfl (hF _) ?_ hro
    simp only [Try.ntmps116, List.size_toArray, List.length_cons, List.length_nil, Nat.reduceAdd, Nat.reduceSub, Array.replicate_succ, Array.replicate_zero, List.push_toArray, List.append_toArray, List.nil_append, List.cons_append]
    gi_wp2_with (first
      | (gi_at_call 91; refine (HPL.out _).mono ?_; rintro r W2 ⟨rfl, hb2⟩; obtain ⟨hr2, hmb, hkk, hpk, hn5, hc2', hbl2⟩ := HALL.out W2 hb2; have HMB := Lib.hid hmb; have HKK := Lib.hid hkk; have HPK := Lib.hid hpk; have HN := Lib.hid hn5; clear hmb hkk hpk hn5 hb2)
      | (gi_at_mapUpdate; refine asc_put_in _ rfl _ _ _ 78 rfl 129 4 Try.underlying78 (PlaceK _) (placeT _) (b + 1) M rfl HMB.out _ _ rfl rfl HPK.out HKK.out ?_; intro W5 L2 hm5 hp5 hg5; have HE5 := Lib.hid (HN.out W5 L2 hm5 hp5 hg5); clear hm5 hp5 hg5))
    go_ret
    exact ⟨by simp, HE5.out⟩

/-- An item in memory that no string shares. -/
abbrev Fi (wo : World) (n₀ gx ban : Nat) : Type := { x : It wo // ∀ z ∈ x.bs, FreeB wo z ∧ (z < n₀ ∨ z = gx) ∧ z ≠ ban }
theorem uniq_stops (F : Fence) (n : Nat) (hFw : F = Fence.wide) (hro : F.round = none) (hF : ∀ k, F.fn k) (hn : 3 ≤ n) (wo : World) (e : Ex) (u : Value) (bs : List Nat) (he : ExIs wo (.agg #[.int .i64 e.kind, .string e.name, u]) e bs) (n₀ gx ban : Nat) (hbs : ∀ z ∈ bs, z < n₀ ∨ z = gx) (hban : ∀ z ∈ bs, z ≠ ban) (hsz : exSize e ≤ 1099511627776) (hfr : ∀ z ∈ bs, FreeB wo z) (hnd : bs.Nodup) (b : Nat) (w0 w : World) (hb : b = w0.heap.size) (hw : w = onceW w0 e.kind e.name u) (hW : Below wo.heap.size wo w0) (hn0 : n₀ ≤ gx) (hgx : gx < wo.heap.size) :
    SeqQ (fun W => W.heap[gx]? = wo.heap[gx]?) F n Try.prog 128 (onceLb b) (fun x : Fi wo n₀ gx ban => #[x.1.val]) n₀ (fun xs => (heads (xs.map (·.1))).Nodup) (fun _ => True) (exSize e) [b + 4, b + 2, b + 1] w := by
  intro l J Jx W hwW hJ hJx hQ hQx hY h0
  have hs0 := hW.size
  have hsz2 : w.heap.size = w0.heap.size + 5 := by rw [hw, onceW_size]
  obtain ⟨f1, f2, f3, f4⟩ := onceW_facts w0 e.kind e.name u
  rw [← hw, ← hb] at f1 f2 f3 f4
  have hlow : Below wo.heap.size wo w := by rw [hw]; exact onceW_below hW hs0 _ _ _
  have k : ∀ j, j < b + 5 → W.heap[j]? = w.heap[j]? := fun j hj => hwW.block j (by omega)
  have hb2 : W.heap[b + 3]? = some (.cells #[.int .i64 e.kind, .string e.name, u] 26 (0, 0)) := (k _ (by omega)).trans f1
  have hg2 := box_on f2 (k (b + 4) (by omega))
  have hWs := hwW.size
  have hmind : ∀ (G : List (Fi wo n₀ gx ban) → List Nat → World → Prop), Minds G → Minds (fun pre M W => ∃ pre', pre'.map (·.1) = pre ∧ G pre' M W) := fun G hG pre M M2 A B ⟨pre', h1, h2⟩ hf hm => ⟨pre', h1, hG _ _ _ _ _ h2 hf hm⟩
  refine (nodes_onceG_in F n hFw hro hF hn l (b + 3) (b + 4) (b + 2) wo e u bs n₀ gx he hbs hsz (fun pre M W => ∃ pre', pre'.map (·.1) = pre ∧ J pre' M W) (fun pre M W => ∃ pre', pre'.map (·.1) = pre ∧ Jx pre' M W) (hmind J hJ) (hmind Jx hJx) (fun pre st => InvO e bs pre st ∧ InvU pre st) (fun pre st h => h.1.blk) ?_ (OnceS wo b) askO [b + 4, b + 2, b + 1] [b + 2, b + 1] ?_ ?_ ?_ (fun pre A B h _ hk => h.on hk) ?_
    W ⟨(hlow.trans (hwW.mono hlow.size)).mono (by omega), (hlow.trans (hwW.mono hlow.size)).block _ hgx, by omega⟩ ⟨by omega, by simp; omega, hgx⟩ (by rintro pre M W ⟨pre', -, h⟩; exact hQ _ _ _ h) (by rintro pre M W ⟨pre', -, h⟩; exact hQx _ _ _ h) (fun j hj => by have := hW.size; simp at hj; omega) (by simp) (fun j hj => by simp at hj ⊢; omega) hg2 (by simp [World.cell?, hb2]) (by simp [World.cell?, hb2]) (by simp [World.cell?, hb2]) ⟨[], rfl, h0⟩ ⟨box_on f3 (k (b + 2) (by omega)), [], f4.on (k (b + 1) (by omega)), (fun x hx => by cases hx), fun p => by simp⟩).mono ?_
  · rintro pre x M W1 ⟨pre', rfl, hj⟩ hM hlen ⟨st, hI, -⟩
    have hx : ∀ z ∈ x.bs, FreeB wo z ∧ (z < n₀ ∨ z = gx) ∧ z ≠ ban := fun z hz => ⟨hfr z (hI.blk x (by simp) z hz), hbs z (hI.blk x (by simp) z hz), hban z (hI.blk x (by simp) z hz)⟩
    obtain ⟨fn, tmps, assign, body, hy, hR⟩ := hY pre' ⟨x, hx⟩ M W1 hj hM (by simpa using hlen)
    refine ⟨fn, tmps, assign, body, hy, hR.mono ?_⟩
    rintro r W2 (⟨h1, h2, h3⟩ | ⟨h1, h2, h3⟩)
    · exact Or.inl ⟨h1, ⟨_, by simp, h2⟩, h3⟩
    · exact Or.inr ⟨h1, ⟨_, by simp, h2⟩, h3⟩
  · intro x hx hb9
    refine ⟨InvO.start x hx (fun z hz => by rw [hb9] at hz; exact hz), ?_⟩
    show (heads ([] : List (It wo)) ++ [x].flatMap It.bs).Nodup
    rw [show [x].flatMap It.bs = x.bs by simp, show x.bs = bs from hb9]
    exact hnd
  · intro pre st x ks h ha hk hb
    exact ⟨h.1.go hk hb.sub, h.2.go ha hb⟩
  · intro pre st x h ha
    exact ⟨h.1.skip ha, h.2.skip ha⟩
  · intro pre x A c W1 h1 h2 h3 h4 h5
    obtain ⟨st, h5, -⟩ := h5
    exact once_inG F (n - 1) hF hro (by omega) wo e bs b (fun z hz o => (hfr z hz).2 o) pre x A c W1 n₀ gx hbs h1 h2 h3 ⟨st, h5⟩
  · rintro r W2 ⟨hv, ⟨xs, M, h1, xs', rfl, h2⟩ | ⟨pre, M, -, pre', rfl, h2⟩⟩
    · refine ⟨hv, .inl ⟨xs', M, ?_, h2⟩⟩
      have := h1.2
      unfold InvU at this
      simpa using this
    · exact ⟨hv, .inr ⟨_, M, trivial, h2⟩⟩
end Go.Proofs.Ytbnghkgfbjipdaa

namespace Go.Proofs.Ytbnghkgfbjipdaa
open Go Go.RowKit Go.Shelf
attribute [local go_sem] Oper.semAt_some

theorem perm_map_inv {α β : Type} (f : α → β) {l l2 : List β} (h : l.Perm l2) : ∀ ys : List α, l2 = ys.map f → ∃ zs : List α, zs.Perm ys ∧ l = zs.map f := by
  induction h with
  | nil => intro ys h; exact ⟨[], by rw [List.map_eq_nil_iff.1 h.symm], rfl⟩
  | cons x h ih =>
    intro ys hy
    cases ys with
    | nil => cases hy
    | cons y r =>
      rw [List.map_cons, List.cons.injEq] at hy
      obtain ⟨zs, h1, h2⟩ := ih r hy.2
      exact ⟨y :: zs, h1.cons y, by rw [List.map_cons, h2, hy.1]⟩
  | swap x y l =>
    intro ys hy
    cases ys with
    | nil => cases hy
    | cons a r =>
      cases r with
      | nil => simp at hy
      | cons b t =>
        simp only [List.map_cons, List.cons.injEq] at hy
        exact ⟨b :: a :: t, List.Perm.swap a b t, by simp [hy.1, hy.2.1, hy.2.2]⟩
  | trans _ _ ih1 ih2 =>
    intro ys hy
    obtain ⟨zs, h1, h2⟩ := ih2 ys hy
    obtain ⟨xs, h3, h4⟩ := ih1 zs h2
    exact ⟨xs, h3.trans h1, h4⟩
theorem row_baseW {w : World} {base base' : Nat} {t : TypeId} {size : Nat} {v : Value} {n : Nat} {xs : List Value} (h : w.ownsRow base t size v n xs) (hb : base' ≤ base) : w.ownsRow base' t size v n xs := by
  obtain ⟨h1, h2⟩ := h
  refine ⟨h1, h2.imp id ?_⟩
  rintro ⟨g, cap, cur, e, hg, h3⟩
  exact ⟨g, cap, cur, e, Nat.le_trans hb hg, h3⟩
/-- 'm[k] = v' as an operation of a region that draws its order. -/
theorem step_put {P : Program} {w : World} {k e : TypeId} {K0 : Value → Prop} {b : Nat} {L : List (Value × Value)} {ops : Array Oper} {o : Oper} {a : Act} {K : Act → World → Prop} {Q : Exit → Act → World → Prop} {E : Prop} (hgd : o.guard = none) (m x v : Operand) (t : TypeId) (hop : o.op = Op.mapUpdate t m x v) (ht : P.underlying t = some (.map k e)) (hK0 : KeyT P k w K0) (hm : a.eval m = .map (some b)) (h : MapSt w b L) (key val : Value) (hx : a.eval x = key) (hv : a.eval v = val) (hkey : K0 key) (hL : ∀ x ∈ L, K0 x.1)
    (hQ : ∀ w' L2, MapSt w' b L2 → Put L key val L2 → w.grownBy w' (some b) → K (a.put o.dst undef) w') :
    if Region.wanted o (yielded ops a.tmps) = true then Oper.wp P o a w K Q else E := by
  have hw : Region.wanted o (yielded ops a.tmps) = true := by simp [Region.wanted, hgd]
  rw [if_pos hw]
  obtain ⟨w', L2, hrun, r1, r2, r3⟩ := h.update (val := val) hK0 ht hkey hL
  unfold Oper.wp
  simp [execOp, hop, hm, hx, hv, hrun, Result.andThen]
  exact hQ w' L2 r1 r2 r3
section
variable {wo : World}
def hasP (z : It wo) : Bool := (plOf z).isSome
/-- The entry of a place. -/
def entP (z : It wo) : Option (Value × Value) := (plOf z).map (fun p => (pkv p, z.val))
theorem entP_vals : ∀ zs : List (It wo), (zs.filterMap entP).map Prod.snd = (zs.filter hasP).map It.val := by
  intro zs
  induction zs with
  | nil => rfl
  | cons z r ih =>
    cases h : plOf z with
    | none =>
      rw [List.filterMap_cons_none (by simp [entP, h]), List.filter_cons_of_neg (by simp [hasP, h]), ih]
    | some p =>
      rw [List.filterMap_cons_some (b := (pkv p, z.val)) (by simp [entP, h]), List.filter_cons_of_pos (by simp [hasP, h]), List.map_cons, List.map_cons, ih]
theorem entP_keys {zs : List (It wo)} {x : Value × Value} (h : x ∈ zs.filterMap entP) : ∃ z ∈ zs, ∃ p, plOf z = some p ∧ x = (pkv p, z.val) := by
  obtain ⟨z, hz, he⟩ := List.mem_filterMap.1 h
  cases hp : plOf z with
  | none => simp [entP, hp] at he
  | some p =>
    simp only [entP, hp, Option.map_some, Option.some.injEq] at he
    exact ⟨z, hz, p, hp, he.symm⟩
theorem entP_new {pre : List (It wo)} {z : It wo} {p : Addr × Nat} (hp : plOf z = some p) (hn : (heads (pre ++ [z])).Nodup) : ∀ x ∈ pre.filterMap entP, x.1 ≠ pkv p := by
  intro x hx e
  obtain ⟨y, hy, q, hq, rfl⟩ := entP_keys hx
  have hqp : q = p := pkv_inj e
  subst hqp
  rw [heads_snoc, List.nodup_append] at hn
  refine hn.2.2 q.1.block (mem_heads (List.mem_map.2 ⟨y, hy, hq⟩)) q.1.block ?_ rfl
  simp [hdOf, hp]
theorem put_new {L L2 : List (Value × Value)} {k v : Value} (h : Put L k v L2) (hn : ∀ x ∈ L, x.1 ≠ k) : L2 = L ++ [(k, v)] := by
  rcases h with ⟨-, h⟩ | ⟨A, v0, B, rfl, -⟩
  · exact h
  · exact absurd rfl (hn (k, v0) (by simp))
theorem heads_take {zs : List (It wo)} (h : (heads zs).Nodup) (k : Nat) : (heads (zs.take k)).Nodup := by
  unfold heads at h ⊢
  have : zs.flatMap hdOf = (zs.take k).flatMap hdOf ++ (zs.drop k).flatMap hdOf := by rw [← List.flatMap_append, List.take_append_drop]
  rw [this] at h
  exact (List.nodup_append.1 h).1
theorem heads_perm {xs ys : List (It wo)} (h : xs.Perm ys) (hn : (heads ys).Nodup) : (heads xs).Nodup := (h.flatMap_right hdOf).nodup_iff.2 hn
theorem plOf_free {z : It wo} {p : Addr × Nat} (h : plOf z = some p) (hf : ∀ x ∈ z.bs, FreeB wo x) : FreeB wo p.1.block := by
  obtain ⟨b, hb⟩ := plOf_head h
  exact hf _ (by rw [hb]; simp)
theorem flat_cells {zs : List (It wo)} {k : Nat} {z : It wo} (h : zs[k]? = some z) (j : Nat) (hj : j < 3) : (flat zs)[k * 3 + j]? = z.cells[j]? := by
  have h2 : zs = zs.take k ++ z :: zs.drop (k + 1) := by
    have hk := (List.getElem?_eq_some_iff.1 h).1
    rw [← (List.getElem?_eq_some_iff.1 h).2, ← List.drop_eq_getElem_cons hk, List.take_append_drop]
  have hk := (List.getElem?_eq_some_iff.1 h).1
  conv => lhs; rw [h2]
  have e1 : flat (zs.take k ++ z :: zs.drop (k + 1)) = flat (zs.take k) ++ (z.cells ++ flat (zs.drop (k + 1))) := by simp [flat]
  rw [e1, List.getElem?_append_right (by rw [flat_len, List.length_take]; omega), flat_len, List.length_take, Nat.min_eq_left (by omega), Nat.add_sub_cancel_left, List.getElem?_append_left (by simp [It.cells]; omega)]
end
end Go.Proofs.Ytbnghkgfbjipdaa
