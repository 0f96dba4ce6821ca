/- A part of the proof of the seat's statement: RuBack. Condition: as each says. -/
import Derived.Test.YtiaknfnhmoinpaaGreatSpecEqual
import Derived.Test.YtiaknfnhmoinpaaGreatNodesOf
import Derived.Test.YtiaknfnhmoinpaaGreatOnceInv
import Derived.Test.YtiaknfnhmoinpaaGreatSet
import Derived.Test.YtiaknfnhmoinpaaGreatPlaceKey
import Derived.Test.YtiaknfnhmoinpaaGreatFrame
import Derived.Test.YtiaknfnhmoinpaaGreatRuSz
import Derived.Shelf.Abstract
import Derived.WalkKit
import Derived.OwnWalkIn
import Derived.TacticsInMore
import Derived.LoopNIn
import Derived.LoopIn
import Derived.Shelf.RegionOpen
set_option maxHeartbeats 8000000
namespace Go.Proofs.YtiaknfnhmoinpaaGreat
open Go Go.RowKit Go.Shelf
attribute [local go_sem] Oper.semAt_some
def pkv (p : Addr × Nat) : Value := .agg #[.pointer (some p.1), .int .i64 (p.2 : Int)]
theorem pkv_inj {p q : Addr × Nat} (h : pkv p = pkv q) : p = q := by
 simp only [pkv, Value.agg.injEq, Array.mk.injEq, List.cons.injEq, Value.pointer.injEq, Option.some.injEq, Value.int.injEq, and_true, true_and] at h
 exact Prod.ext h.1 (by omega)
def OnceS (wo : World) (b : Nat) (pre : List (It wo)) (W : World) : Prop :=
 Boxed W (b + 2) 118 (.map (some (b + 1))) ∧ ∃ M, MapIs W (b + 1) M ∧ (∀ x ∈ M, ∃ p, x = (pkv p, .bool true) ∧ FreeB wo p.1.block) ∧ ∀ p, ((pkv p, Value.bool true) ∈ M ↔ some p ∈ pre.map plOf)
theorem OnceS.on {wo : World} {b : Nat} {pre : List (It wo)} {A B : World} (h : OnceS wo b pre A) (hk : ∀ k ∈ [b + 2, b + 1], B.heap[k]? = A.heap[k]?) : OnceS wo b pre B := by
 obtain ⟨h1, M, h2, h3⟩ := h
 exact ⟨box_on h1 (hk _ (by simp)), M, h2.on (hk _ (by simp)), h3⟩
theorem place_in (F : Fence) (n : Nat) (hF : ∀ k, F.fn k) (hro : F.round = none) (g o q c : Nat) (w : World) (hn : 0 < q) (hn2 : q ≤ 9223372036854775807) :
 CallsIn F n Tryz.prog 85 #[.slice (some ⟨g, o, none⟩) q c] w (RetPost (.agg #[.pointer (some ⟨g, o, none⟩), .int .i64 (q : Int)]) w) := by
 have HL := zH (fun (o : Obj) => (wB w.heap.size w).alloc (nR _) o)
 have hn3 : (0 : Int) < (q : Int) := by omega
 refine callsIn_of_wp Tryz.func85 rfl (hF _) ?_ hro
 simp only [Tryz.ntmps85, List.size_toArray, lC, List.length_nil, Nat.reduceAdd, Nat.reduceSub, Array.replicate_succ, Array.replicate_zero, List.push_toArray, List.append_toArray, List.nil_append, List.cons_append]
 gi_wp2
 refine bP (v := .agg #[.pointer (some ⟨g, o, none⟩), .int .i64 (q : Int)]) (by simp [results, Tryz.results85, go_sem]) rfl ?_
 exact ⟨rfl, HL.out _⟩
set_option maxRecDepth 100000 in
theorem once_in (F : Fence) (n : Nat) (hF : ∀ k, F.fn k) (hro : F.round = none) (hn1 : 1 ≤ n) (wo : World) (e : Ex) (bs : List Nat) (b : Nat) (hfr : ∀ z ∈ bs, ∀ o, wo.frozen? ⟨z, o, none⟩ = false)
 (pre : List (It wo)) (x : It wo) (A : Option Addr) (c : Nat) (W1 : World) (hs : OnceS wo b pre W1) (hW : Below wo.heap.size wo W1) (hx : x.1.2.2.1 = .slice A x.ex.args.length c) (hI : ∃ st, InvO e bs pre (st ++ [x])) :
 CallsIn F n Tryz.prog 84 #[.slice A x.ex.args.length c, .pointer (some ⟨b + 2, 0, none⟩)] W1 fun r W2 => r = .returned (.bool (askO pre x)) ∧ OnceS wo b (pre ++ [x]) W2 ∧ Fr [b + 2, b + 1] W1 W2 := by
 obtain ⟨st, hst⟩ := hI
 have hsl := x.slice
 obtain ⟨A', c', e1, -, hc1, hc2⟩ := hsl
 rw [hx] at e1
 cases e1
 obtain ⟨hp0, hp1⟩ := plOf_slice hx
 obtain ⟨q, hq⟩ : ∃ q, q = x.ex.args.length := ⟨_, rfl⟩
 rw [← hq] at hc1 ⊢
 have hqq : (q : Int) ≤ 9223372036854775807 := by omega
 by_cases h0 : q = 0
 · have HA := zH (show askO pre x = false by unfold askO; rw [hp0 (by rw [← hq, h0])])
   have HS := zH (show OnceS wo b (pre ++ [x]) W1 from by
    obtain ⟨h1, M, h2, h3, h4⟩ := hs
    refine ⟨h1, M, h2, h3, fun p => ?_⟩
    rw [h4 p, List.map_append, List.map_cons, List.map_nil, hp0 (by rw [← hq, h0])]
    simp)
   clear hs hst hx hp0 hp1 hq
   subst h0
   refine callsIn_of_wp Tryz.func84 rfl (hF _) ?_ hro
   simp only [Tryz.ntmps84, List.size_toArray, lC, List.length_nil, Nat.reduceAdd, Nat.reduceSub, Array.replicate_succ, Array.replicate_zero, List.push_toArray, List.append_toArray, List.nil_append, List.cons_append]
   gi_wp2
   go_ret
   exact ⟨by rw [HA.out]; rfl, HS.out, Fr.refl _ _⟩
 obtain ⟨p, hp⟩ : ∃ p, plOf x = some p := by
  cases hpl : plOf x with
  | some p => exact ⟨p, rfl⟩
  | none => exact absurd (by rw [hq, plOf_none hpl]; rfl) h0
 obtain ⟨g, o, c2, bs', rfl, e2, -, hg1, hg2, hat⟩ := plOf_some hp
 rw [hx] at e2
 cases e2
 have hfg : FreeB wo g := by
  have hgb : g ∈ bs := hst.blk x (by simp) g hg1
  cases hl : x.ex.args with
  | nil => rw [hl] at hq; exact absurd hq h0
  | cons e9 r9 =>
   rw [hl, ExsAt] at hat
   obtain ⟨b8, b9, -, h8, -⟩ := hat
   obtain ⟨u, k0, -⟩ := h8.is
   exact FreeB.of_cell k0 (hfr g hgb)
 have hfW : ∀ z, FreeB wo z → FreeB W1 z := fun z hz => hz.on (hW.block z hz.lt)
 obtain ⟨hbx, M, hM, hMK, hMp⟩ := hs
 have hc := hbx.cell
 have hkey : pkv (⟨g, o, none⟩, x.ex.args.length) = .agg #[.pointer (some ⟨g, o, none⟩), .int .i64 (q : Int)] := by rw [hq]; rfl
 have HALL := zH (show ∀ W2, Below W1.heap.size W1 W2 → (Instr.lookup 118 (.map (some (b + 1))) (.agg #[.pointer (some ⟨g, o, none⟩), .int .i64 (q : Int)]) false).run Tryz.prog (W2.alloc (.cells #[.pointer (some ⟨g, o, none⟩), .int .i64 (q : Int)] 121)) = .ok (.bool (!askO pre x)) (W2.alloc (.cells #[.pointer (some ⟨g, o, none⟩), .int .i64 (q : Int)] 121)) ∧ MapIs (W2.alloc (.cells #[.pointer (some ⟨g, o, none⟩), .int .i64 (q : Int)] 121)) (b + 1) M ∧ (∀ x ∈ M, PlaceK (W2.alloc (.cells #[.pointer (some ⟨g, o, none⟩), .int .i64 (q : Int)] 121)) x.1) ∧ PlaceK (W2.alloc (.cells #[.pointer (some ⟨g, o, none⟩), .int .i64 (q : Int)] 121)) (.agg #[.pointer (some ⟨g, o, none⟩), .int .i64 (q : Int)]) ∧
  (∀ (W5 : World) (L2 : List (Value × Value)), MapIs W5 (b + 1) L2 → Put M (.agg #[.pointer (some ⟨g, o, none⟩), .int .i64 (q : Int)]) (.bool true) L2 → (W2.alloc (.cells #[.pointer (some ⟨g, o, none⟩), .int .i64 (q : Int)] 121)).grownBy W5 (some (b + 1)) → OnceS wo b (pre ++ [x]) W5 ∧ Fr [b + 2, b + 1] W1 W5) ∧ W2.cell? ⟨b + 2, 0, none⟩ = some (.map (some (b + 1))) ∧ b + 2 < W2.heap.size from fun W2 hb2 => by
  obtain ⟨Wb, hWb⟩ : ∃ Wb, Wb = W2.alloc (.cells #[.pointer (some ⟨g, o, none⟩), .int .i64 (q : Int)] 121) := ⟨_, rfl⟩
  have hbB : Below W1.heap.size W1 Wb := by rw [hWb]; exact hb2.alloc hb2.size _
  have hMb : MapIs Wb (b + 1) M := hM.on (hbB.block _ hM.lt)
  have hfB : ∀ z, FreeB wo z → FreeB Wb z := fun z hz => (hfW z hz).on (hbB.block z (hfW z hz).lt)
  have hKK : ∀ x ∈ M, PlaceK Wb x.1 := fun y hy => by
   obtain ⟨p2, rfl, hf⟩ := hMK y hy
   exact ⟨p2.1, (p2.2 : Int), rfl, hfB _ hf⟩
  have hPK : PlaceK Wb (.agg #[.pointer (some ⟨g, o, none⟩), .int .i64 (q : Int)]) := ⟨_, _, rfl, hfB g hfg⟩
  obtain ⟨vl, has, hrun, hit⟩ := hMb.look (placeT Wb) Tryz.underlying118 (zeroB Wb) hPK hKK
  have hr2 := hrun false
  simp only [if_false, Bool.false_eq_true] at hr2
  have hans : vl = .bool (!askO pre x) := by
   unfold askO
   rw [hp]
   rcases hit with ⟨h1, rfl⟩ | ⟨h1, rfl, rfl⟩
   · obtain ⟨p2, e9, -⟩ := hMK _ h1
     rw [← hkey] at e9 h1
     rw [Prod.mk.injEq] at e9
     obtain ⟨e9, rfl⟩ := e9
     have := (hMp _).1 h1
     simp [this]
   have : some ((⟨g, o, none⟩ : Addr), x.ex.args.length) ∉ pre.map plOf := fun hh => h1 _ ((hMp _).2 hh) hkey
   simp [this]
  have hN : ∀ (W5 : World) (L2 : List (Value × Value)), MapIs W5 (b + 1) L2 → Put M (.agg #[.pointer (some ⟨g, o, none⟩), .int .i64 (q : Int)]) (.bool true) L2 → Wb.grownBy W5 (some (b + 1)) → OnceS wo b (pre ++ [x]) W5 ∧ Fr [b + 2, b + 1] W1 W5 := fun W5 L2 h1 h2 h3 => by
   obtain ⟨es, clock, -, -, hnd⟩ := hMb
   have hput := put_mem hnd h2
   refine ⟨⟨box_on hbx ((h3.block _ (nL hbx.lt hbB.size) (fun e9 => by have := Option.some.inj e9; omega)).trans (hbB.block _ hbx.lt)), L2, h1, fun y hy => ?_, fun p2 => ?_⟩, (Fr.of_below hbB).trans (Fr.grown h3 (fun k e9 => by cases e9; simp)) (fun k hk => Or.inl hk)⟩
   · obtain ⟨yk, yv⟩ := y
     rcases (hput yk yv).1 hy with ⟨rfl, rfl⟩ | ⟨-, hy⟩
     · exact ⟨(⟨g, o, none⟩, x.ex.args.length), by rw [hkey], hfg⟩
     exact hMK _ hy
   rw [hput, hMp p2, List.map_append, List.map_cons, List.map_nil, hp, List.mem_append, List.mem_singleton]
   constructor
   · rintro (⟨h9, -⟩ | ⟨-, h9⟩)
     · exact Or.inr (by rw [← hkey] at h9; rw [pkv_inj h9])
     exact Or.inl h9
   intro h9
   by_cases h8 : pkv p2 = .agg #[.pointer (some ⟨g, o, none⟩), .int .i64 (q : Int)]
   · exact Or.inl ⟨h8, rfl⟩
   rcases h9 with h9 | h9
   · exact Or.inr ⟨h8, h9⟩
   rw [Option.some.inj h9] at h8
   exact absurd hkey h8
  rw [hans] at hr2
  rw [hWb] at hr2 hMb hKK hPK hN
  exact ⟨hr2, hMb, hKK, hPK, hN, (hb2.cell (p := ⟨b + 2, 0, none⟩) hbx.lt).trans hc, nL hbx.lt hb2.size⟩)
 have hq1 : 0 < q := by omega
 have HPL := zH (fun (k : Nat) => place_in F k hF hro g o q c W1 hq1 (by omega))
 generalize askO pre x = ak at *
 have hqe : ((q : Int) == 0) = false := by simp; omega
 clear hM hMK hMp hbx hfW hfg hat hg1 hg2 hp hp0 hp1 hst hx hW hkey h0 hq hfr hc hq1
 refine callsIn_of_wp Tryz.func84 rfl (hF _) ?_ hro
 simp only [Tryz.ntmps84, List.size_toArray, lC, List.length_nil, Nat.reduceAdd, Nat.reduceSub, Array.replicate_succ, Array.replicate_zero, List.push_toArray, List.append_toArray, List.nil_append, List.cons_append]
 gi_wp2_with (first
  | (gi_at_call 85; refine (HPL.out _).mono ?_; rintro r W2 ⟨rfl, hb2⟩; obtain ⟨hr2, hmb, hkk, hpk, hn5, hc2', hbl2⟩ := HALL.out W2 hb2; have HMB := zH hmb; have HKK := zH hkk; have HPK := zH hpk; have HN := zH hn5; clear hmb hkk hpk hn5 hb2)
  | (gi_at_mapUpdate; refine asc_put_in _ rfl _ _ _ 118 rfl 121 4 Tryz.underlying118 (PlaceK _) (placeT _) (b + 1) M rfl HMB.out _ _ rfl rfl HPK.out HKK.out ?_; intro W5 L2 hm5 hp5 hg5; have HE5 := zH (HN.out W5 L2 hm5 hp5 hg5); clear hm5 hp5 hg5))
 go_ret
 exact ⟨by simp, HE5.out⟩
def onceLb (b : Nat) : Array Value := #[.pointer (some ⟨b + 3, 0, none⟩), .pointer (some ⟨b + 4, 0, none⟩)]
def onceFun (b : Nat) : Value := .func (.func 98) #[] (onceLb b)
def onceW (w : World) (k : Int) (s : ByteArray) (u : Value) : World :=
 ((((w.alloc (.cells #[.int .i64 k, .string s, u] 32)).alloc (.map #[] 0)).alloc (.cells #[.map (some (w.heap.size + 1))] 118)).alloc (.cells #[.int .i64 k, .string s, u] 32)).alloc (.cells #[.func (.func 84) #[] #[.pointer (some ⟨w.heap.size + 2, 0, none⟩)]] 113)
theorem onceW_size (w : World) (k : Int) (s : ByteArray) (u : Value) : (onceW w k s u).heap.size = w.heap.size + 5 := by simp [onceW]
theorem onceW_below {n : Nat} {wo w : World} (h : Below n wo w) (hn : n ≤ w.heap.size) (k : Int) (s : ByteArray) (u : Value) : Below n wo (onceW w k s u) :=
 ((((h.alloc hn _).alloc (by simp; omega) _).alloc (by simp; omega) _).alloc (by simp; omega) _).alloc (by simp; omega) _
theorem onceW_facts (w : World) (k : Int) (s : ByteArray) (u : Value) : (onceW w k s u).heap[w.heap.size + 3]? = some (.cells #[.int .i64 k, .string s, u] 32 (0, 0)) ∧ Boxed (onceW w k s u) (w.heap.size + 4) 113 (.func (.func 84) #[] #[.pointer (some ⟨w.heap.size + 2, 0, none⟩)]) ∧
 Boxed (onceW w k s u) (w.heap.size + 2) 118 (.map (some (w.heap.size + 1))) ∧ MapIs (onceW w k s u) (w.heap.size + 1) [] := by
 obtain ⟨a1, h1⟩ : ∃ a1, a1 = w.alloc (.cells #[.int .i64 k, .string s, u] 32) := ⟨_, rfl⟩
 obtain ⟨a2, h2⟩ : ∃ a2, a2 = a1.alloc (.map #[] 0) := ⟨_, rfl⟩
 obtain ⟨a3, h3⟩ : ∃ a3, a3 = a2.alloc (.cells #[.map (some (w.heap.size + 1))] 118) := ⟨_, rfl⟩
 obtain ⟨a4, h4⟩ : ∃ a4, a4 = a3.alloc (.cells #[.int .i64 k, .string s, u] 32) := ⟨_, rfl⟩
 obtain ⟨a5, h5⟩ : ∃ a5, a5 = a4.alloc (.cells #[.func (.func 84) #[] #[.pointer (some ⟨w.heap.size + 2, 0, none⟩)]] 113) := ⟨_, rfl⟩
 have e : onceW w k s u = a5 := by rw [h5, h4, h3, h2, h1]; rfl
 have s1 : a1.heap.size = w.heap.size + 1 := by rw [h1]; simp
 have s2 : a2.heap.size = w.heap.size + 2 := by rw [h2]; simp [s1]
 have s3 : a3.heap.size = w.heap.size + 3 := by rw [h3]; simp [s2]
 have s4 : a4.heap.size = w.heap.size + 4 := by rw [h4]; simp [s3]
 have k2 : ∀ j, j < w.heap.size + 2 → a3.heap[j]? = a2.heap[j]? := fun j hj => by rw [h3]; exact Below.heap_alloc _ _ _ (by omega)
 have k3 : ∀ j, j < w.heap.size + 3 → a4.heap[j]? = a3.heap[j]? := fun j hj => by rw [h4]; exact Below.heap_alloc _ _ _ (by omega)
 have k4 : ∀ j, j < w.heap.size + 4 → a5.heap[j]? = a4.heap[j]? := fun j hj => by rw [h5]; exact Below.heap_alloc _ _ _ (by omega)
 have m := MapIs.made a1
 rw [← h2, s1] at m
 have b3 := Boxed.new a2 118 (.map (some (w.heap.size + 1)))
 rw [← h3, s2] at b3
 have b4 := World.alloc_heap_new a3 (.cells #[.int .i64 k, .string s, u] 32)
 rw [← h4, s3] at b4
 have b5 := Boxed.new a4 113 (.func (.func 84) #[] #[.pointer (some ⟨w.heap.size + 2, 0, none⟩)])
 rw [← h5, s4] at b5
 rw [e]
 exact ⟨(k4 _ (by omega)).trans b4, b5, box_on b3 ((k4 _ (by omega)).trans (k3 _ (by omega))), m.on ((k4 _ (by omega)).trans ((k3 _ (by omega)).trans (k2 _ (by omega))))⟩
theorem run_makePlaces (w : World) : (Instr.makeMap 118 none).run Tryz.prog w = .ok (.map (some w.heap.size)) (w.alloc (.map #[] 0)) := by
 simp [Instr.makeMap]
theorem nodesOnce_in (F : Fence) (n : Nat) (hF : ∀ k, F.fn k) (hro : F.round = none) (hn : 1 ≤ n) (k : Int) (s : ByteArray) (A : Option Addr) (m c : Nat) (w : World) :
 CallsIn F n Tryz.prog 62 #[.agg #[.int .i64 k, .string s, .slice A m c]] w fun e w2 => e = .returned (onceFun w.heap.size) ∧ w2 = onceW w k s (.slice A m c) := by
 have hmk := run_makePlaces
 refine callsIn_of_wp Tryz.func62 rfl (hF _) ?_ hro
 simp only [Tryz.ntmps62, List.size_toArray, lC, List.length_nil, Nat.reduceAdd, Nat.reduceSub, Array.replicate_succ, Array.replicate_zero, List.push_toArray, List.append_toArray, List.nil_append, List.cons_append]
 gi_wp2_with (gi_at_call 80; refine (nodesWhere_in F (n - 1) hF hro _ _ _ _ _ _ _ _).mono ?_; rintro e w' ⟨rfl, rfl⟩)
 go_ret
 exact ⟨rfl, rfl⟩
theorem once_stops (F : Fence) (n : Nat) (hFw : F = Fence.wide) (hro : F.round = none) (hF : ∀ k, F.fn k) (hn : 3 ≤ n) (wo : World) (e : Ex) (u : Value) (bs : List Nat) (he : ExIs wo (.agg #[.int .i64 e.kind, .string e.name, u]) e bs) (hsz : exSize e ≤ 1099511627776) (hfr : ∀ z ∈ bs, ∀ o, wo.frozen? ⟨z, o, none⟩ = false) (b : Nat) (w0 w : World) (hb : b = w0.heap.size) (hw : w = onceW w0 e.kind e.name u) (hW : Below wo.heap.size wo w0) :
 SeqF F n Tryz.prog 98 (onceLb b) (fun x : It wo => #[x.val]) wo.heap.size (fun xs => ∀ q : Ex → Bool, (xs.map It.ex).find? q = (exNodes e).find? q) (fun pre => ∃ rest, ∀ q : Ex → Bool, (pre.map It.ex ++ rest).find? q = (exNodes e).find? q) (exSize e) [b + 4, b + 2, b + 1] w := by
 intro l J Jx W hwW hJ hJx hY h0
 have hs0 := hW.size
 have hsz2 : w.heap.size = w0.heap.size + 5 := by rw [hw, onceW_size]
 obtain ⟨f1, f2, f3, f4⟩ := onceW_facts w0 e.kind e.name u
 rw [← hw, ← hb] at f1 f2 f3 f4
 have hlow : Below wo.heap.size wo w := by rw [hw]; exact onceW_below hW hs0 _ _ _
 have k : ∀ j, j < b + 5 → W.heap[j]? = w.heap[j]? := fun j hj => hwW.block j (by omega)
 have hb2 : W.heap[b + 3]? = some (.cells #[.int .i64 e.kind, .string e.name, u] 32 (0, 0)) := (k _ (by omega)).trans f1
 have hg2 := box_on f2 (k (b + 4) (by omega))
 have hWs := hwW.size
 refine (nodes_once_in F n hFw hro hF hn l (b + 3) (b + 4) (b + 2) wo e u bs he hsz J Jx hJ hJx hY (InvO e bs) (OnceS wo b) askO [b + 4, b + 2, b + 1] [b + 2, b + 1] ?_ ?_ ?_ (fun pre A B h _ hk => h.on hk) ?_
  W (hlow.trans (hwW.mono hlow.size)) (fun j hj => by simp at hj; omega) (by simp) (fun j hj => by simp at hj ⊢; omega) hg2 (by simp [World.cell?, hb2]) (by simp [World.cell?, hb2]) (by simp [World.cell?, hb2]) h0 ⟨box_on f3 (k (b + 2) (by omega)), [], f4.on (k (b + 1) (by omega)), (fun x hx => by cases hx), fun p => by simp⟩).mono ?_
 · intro x hx hb9
   exact InvO.start x hx (fun z hz => by rw [hb9] at hz; exact hz)
 · intro pre st x ks h _ hk hb
   exact h.go hk hb
 · intro pre st x h ha
   exact h.skip ha
 · intro pre x A c W1 h1 h2 h3 _ h5
   exact once_in F (n - 1) hF hro (by omega) wo e bs b hfr pre x A c W1 h1 h2 h3 h5
 rintro r W2 ⟨hv, ⟨xs, M, h1, h2⟩ | ⟨pre, M, ⟨pre0, st0, x, rfl, h1⟩, h2⟩⟩
 · refine ⟨hv, .inl ⟨xs, M, fun q => ?_, h2⟩⟩
   have := h1.find q
   simpa [due] using this
 refine ⟨hv, .inr ⟨_, M, ⟨exNodesL x.ex.args ++ due st0, fun q => ?_⟩, h2⟩⟩
 have := h1.find q
 rw [due_one] at this
 rw [← this]
 simp
end Go.Proofs.YtiaknfnhmoinpaaGreat
namespace Go.Proofs.YtiaknfnhmoinpaaGreat
open Go Go.RowKit Go.Shelf
attribute [local go_sem] Oper.semAt_some
abbrev Rt (wo : World) : Type := { x : Nat × Ru × Value × Value × Value × List Nat // RuIs wo (.agg #[.string x.2.1.name, .string x.2.1.con, x.2.2.1, x.2.2.2.1, .int .i64 x.2.1.body.kind, .string x.2.1.body.name, x.2.2.2.2.1]) x.2.1 x.2.2.2.2.2 }
def Rt.num {wo : World} (x : Rt wo) : Nat := x.1.1
def Rt.ru {wo : World} (x : Rt wo) : Ru := x.1.2.1
def Rt.val {wo : World} (x : Rt wo) : Value := .agg #[.string x.1.2.1.name, .string x.1.2.1.con, x.1.2.2.1, x.1.2.2.2.1, .int .i64 x.1.2.1.body.kind, .string x.1.2.1.body.name, x.1.2.2.2.2.1]
def numd : Nat → List Ru → List (Nat × Ru)
 | _, [] => []
 | k, r :: l => (k, r) :: numd (k + 1) l
theorem numd_get : ∀ (l : List Ru) (k j : Nat) (r : Ru), l[j]? = some r → (numd k l)[j]? = some (k + j, r) := by
 intro l
 induction l with
 | nil => intro k j r h; simp at h
 | cons x t ih =>
  intro k j r h
  cases j with
  | zero => simp at h; rw [h]; rfl
  | succ j => rw [numd, List.getElem?_cons_succ, ih (k + 1) j r (by simpa using h)]; congr 2; omega
theorem numd_len : ∀ (l : List Ru) (k : Nat), (numd k l).length = l.length := by
 intro l
 induction l with
 | nil => intro k; rfl
 | cons x t ih => intro k; rw [numd, lC, lC, ih]
def Rt.pair {wo : World} (x : Rt wo) : Nat × Ru := (x.num, x.ru)
theorem rmap_push {wo : World} (L : List Ru) (k : Nat) (pre : List (Rt wo)) (x : Rt wo) (h : pre.map Rt.pair = ((numd 0 L).drop (k + 1)).reverse) (hx : L[k]? = some x.ru) (hk : x.num = k) : (pre ++ [x]).map Rt.pair = ((numd 0 L).drop k).reverse := by
 have hg := numd_get L 0 k x.ru hx
 have hl : k < (numd 0 L).length := (List.getElem?_eq_some_iff.1 hg).1
 rw [List.drop_eq_getElem_cons hl, List.reverse_cons, List.map_append, h, (List.getElem?_eq_some_iff.1 hg).2, List.map_cons, List.map_nil, Rt.pair, hk, Nat.zero_add]
set_option maxRecDepth 100000 in
theorem rback_in (F : Fence) (n : Nat) (hF : F.fn 73) (hro : F.round = none) (hn : 1 ≤ n) (l Bs : Nat) (wo : World) (A : Option Addr) (m c : Nat) (L : List Ru) (bs : List Nat) (hsl : RsIs wo (.slice A m c) L bs)
 (J Jx : List (Rt wo) → List Nat → World → Prop)
 (hY : ∀ pre x M W1, J pre M W1 → (∀ k ∈ M, k < W1.heap.size) → pre.length < L.length → YieldAt F (n - 1) Tryz.prog l #[.int .i64 (x.1.1 : Int), x.val] W1 fun e W2 =>
  (e = .returned (.bool true) ∧ J (pre ++ [x]) M W2 ∧ Kept wo.heap.size M W1 W2) ∨ (e = .returned (.bool false) ∧ Jx (pre ++ [x]) M W2 ∧ Kept wo.heap.size M W1 W2))
 (W : World) (hBs : W.cell? ⟨Bs, 0, none⟩ = some (.slice A m c)) (hW : Below wo.heap.size wo W) (h0 : J [] [Bs] W) :
 CallsIn F n Tryz.prog 73 #[.func (.yield l) #[] #[], .pointer (some ⟨Bs, 0, none⟩)] W fun e W2 => (∃ v, e = .returned v) ∧
  ((∃ (xs : List (Rt wo)) (M : List Nat), xs.map Rt.pair = (numd 0 L).reverse ∧ J xs M W2) ∨ (∃ (pre : List (Rt wo)) (M : List Nat), True ∧ Jx pre M W2)) := by
 obtain ⟨hm, hmc, hc⟩ := hsl.len
 have hm3 : (m : Int) ≤ 9223372036854775807 := by omega
 have HS := zH hsl
 have HM := zH hm
 have HY := zH hY
 have HW := zH hW
 clear hsl hm hY hW
 refine callsIn_of_wp Tryz.func73 rfl hF ?_ hro
 simp only [Tryz.ntmps73, List.size_toArray, lC, List.length_nil, Nat.reduceAdd, Nat.reduceSub, Array.replicate_succ, Array.replicate_zero, List.push_toArray, List.append_toArray, List.nil_append, List.cons_append]
 gi_wp2
 gi_loopw [3] (fun i wr => ∃ (z : Int), i = .int .i64 z ∧ -1 ≤ z ∧ z < m ∧ Hid (∃ (k : Nat) (pre : List (Rt wo)), z = (k : Int) - 1 ∧ J pre [Bs] wr ∧ pre.map Rt.pair = ((numd 0 L).drop k).reverse) ∧ wr.cell? ⟨Bs, 0, none⟩ = some (.slice A m c) ∧ Hid (Below wo.heap.size wo wr))
  (fun i _ => (intOf i + 1).toNat)
 case atStart =>
  exact ⟨(m : Int) - 1, rfl, by omega, by omega, zH ⟨m, [], rfl, h0, by rw [HM.out, ← numd_len L 0]; simp⟩, hBs, HW⟩
 case round =>
  obtain ⟨z, rfl, hz0, hz1, HJ, hbx, HB⟩ := hrel
  by_cases hlt : 0 ≤ z
  · obtain ⟨k1, pre, hk, hJs, hpre⟩ := HJ.out
    obtain ⟨k, rfl⟩ : ∃ k, k1 = k + 1 := ⟨k1 - 1, by omega⟩
    obtain rfl : z = (k : Int) := by omega
    have hkL : k < L.length := by rw [← HM.out]; omega
    obtain ⟨g, o, e1, v1, v2, u, b1', hra⟩ := HS.out.get k hkL
    obtain ⟨rfl, hbl', hget, hmem, hcs, his⟩ := hra
    have hcw := hcs.of (w' := wr) (fun mm _ _ => HB.out.cell (p := ⟨g, mm, none⟩) hbl')
    obtain ⟨c0, c1, c2, c3, c4, c5, c6⟩ := hcw
    clear hcs
    have hlen : pre.length < L.length := by
     have h : (pre.map Rt.pair).length = ((numd 0 L).drop (k + 1)).reverse.length := by rw [hpre]
     simp [numd_len] at h
     omega
    obtain ⟨fn, tmps, assign, body, hy, hR⟩ := HY.out pre ⟨(k, e1, v1, v2, u, b1'), his⟩ [Bs] wr hJs (by
     intro k hk
     rw [List.mem_singleton] at hk
     subst hk
     obtain ⟨o, ho, -⟩ := cells_of_cell hbx
     exact (Array.getElem?_eq_some_iff.1 ho).1) hlen
    dsimp only [Rt.val] at hy
    have HPX := zH (rmap_push L k pre ⟨(k, e1, v1, v2, u, b1'), his⟩ hpre hget rfl)
    have HR := zH hR
    clear hR hJs hpre hget hmem hk HJ hkL
    gi_wp2
    refine HR.out.mono ?_
    rintro e W3 (⟨rfl, hJ3, hk3, hkm3⟩ | ⟨rfl, hJx3, -⟩)
    · have HJ3 := zH hJ3
      have HB3 := zH (HB.out.trans hk3)
      have hbx3 : W3.cell? ⟨Bs, 0, none⟩ = some (.slice (some ⟨g, o, none⟩) m c) := (World.cell?_of_block (w := wr) (hkm3 Bs (by simp))).trans hbx
      clear hJ3 hk3 hkm3
      gi_wp2
      go_roundw
      case rel => exact ⟨(k : Int) - 1, by first | rfl | go_num, by omega, by omega, zH ⟨k, _, rfl, HJ3.out, HPX.out⟩, hbx3, HB3⟩
      case measure => first | (simp [intOf]; done) | (simp [intOf]; omega)
    have HJ3 := zH hJx3
    clear hJx3
    gi_wp2
    refine bP (results_none rfl _ _ _) rfl ?_
    exact ⟨⟨_, rfl⟩, .inr ⟨_, _, trivial, HJ3.out⟩⟩
  obtain rfl : z = -1 := by omega
  gi_wp2
  go_end0
  obtain ⟨k1, pre, hk, hJs, hpre⟩ := HJ.out
  obtain rfl : k1 = 0 := by omega
  exact ⟨⟨_, rfl⟩, .inl ⟨pre, by simpa using hpre, _, hJs⟩⟩
theorem rbackward_in (F : Fence) (n : Nat) (hF : F.fn 52) (hro : F.round = none) (A : Option Addr) (m c : Nat) (w : World) :
 CallsIn F n Tryz.prog 52 #[.slice A m c] w fun e w2 => e = .returned (.func (.func 73) #[] #[.pointer (some ⟨w.heap.size, 0, none⟩)]) ∧ w2 = w.alloc (.cells #[.slice A m c] 24) := by
 refine callsIn_of_wp Tryz.func52 rfl hF ?_ hro
 simp only [Tryz.ntmps52, List.size_toArray, lC, List.length_nil, Nat.reduceAdd, Nat.reduceSub, Array.replicate_succ, Array.replicate_zero, List.push_toArray, List.append_toArray, List.nil_append, List.cons_append]
 gi_wp2
 go_ret
 exact ⟨rfl, rfl⟩
end Go.Proofs.YtiaknfnhmoinpaaGreat
