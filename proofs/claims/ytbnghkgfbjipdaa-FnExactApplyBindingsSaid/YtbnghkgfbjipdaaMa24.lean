/- The contract of the program's own (*copying).wholes. Conditions: fewer than 2^40 values; no string shares the memory of what is there; no two places are the same. A row of expressions that a call builds by append, while calls in between make the parts. No condition. The contracts of the program's own IsName and IsConName. No condition. The contracts of the program's own formOf and isRightForm: the form of a node, and whether it is right. No condition. -/
import Derived.Test.YtbnghkgfbjipdaaMa23
import Derived.Deep.RegionHeld3
import Derived.Deep.AppendLies
import Derived.Test.YtbnghkgfbjipdaaMa01
import Derived.Test.YtbnghkgfbjipdaaMa05
import Derived.Test.YtbnghkgfbjipdaaMa07
import Derived.Test.YtbnghkgfbjipdaaMa08
import Derived.Lib.Hide
namespace Go.Proofs.Ytbnghkgfbjipdaa
open Go Go.RowKit Go.Shelf

/-- What wholes gives: what has arguments, in some order. -/
def WholePost {w0 : World} (its : List (It w0)) (w : World) (r : Ending) (w2 : World) : Prop :=
  ∃ (zs : List (It w0)) (AO : Option Addr) (co : Nat), zs.Perm (its.filter hasP) ∧ r = .returned (.slice AO zs.length co) ∧ w2.ownsRow w.heap.size 26 3 (.slice AO zs.length co) zs.length (flat zs) ∧ Below w.heap.size w w2
theorem val_shape {w0 : World} (y : It w0) : ExV y.val := by
  obtain ⟨A, c, e, -, -, -⟩ := y.slice
  exact ⟨_, _, A, _, c, by rw [← e]; rfl⟩
theorem cellsOf_val {w0 : World} (y : It w0) : cellsOf y.val = y.cells := rfl
theorem flat_of {w0 : World} {α : Type} (enc : α → Value) (xs : List α) (zs : List (It w0)) (h : xs.map enc = zs.map It.val) : xs.flatMap (fun x => cellsOf (enc x)) = flat zs := by
  have e1 : xs.flatMap (fun x => cellsOf (enc x)) = (xs.map enc).flatMap cellsOf := by rw [List.flatMap_map]
  rw [e1, h, List.flatMap_map]
  rfl
theorem ex_leaf (k : Int) (s : ByteArray) (A : Option Addr) (n c : Nat) : ∀ u ∈ [Value.int .i64 k, .string s, .slice A n c], u.oneCell' = true := by
  intro u hu; simp at hu; rcases hu with rfl | rfl | rfl <;> rfl
theorem alloc2_new (W : World) (o1 o2 : Obj) : ((W.alloc o1).alloc o2).heap[W.heap.size + 1]? = some o2 := by
  have := heap_alloc_new (W.alloc o1) o2
  rw [World.size_alloc] at this
  exact this
theorem alloc1_old (W : World) (o1 o2 : Obj) : ((W.alloc o1).alloc o2).heap[W.heap.size]? = some o1 := (Below.heap_alloc _ _ _ (by simp)).trans (heap_alloc_new W o1)
/-- Behind Collect, wherever the row of one was laid. -/
theorem wh_mid {w W0 X w2 : World} {Bm ny co : Nat} {AO : Option Addr} {zs ys : List (It w)} {vs : Array Value} (hX : Below W0.heap.size W0 X) (hBm : W0.heap.size ≤ Bm) (hf : Fr [Bm] X w2) (hr : w2.ownsRow X.heap.size 26 3 (.slice AO ny co) ny (flat zs)) (hp : zs.Perm ys) (rb : Nat) (hrow : 0 < rb → X.heap[rb]? = some (.cells vs 26 (0, 0)) ∧ rb ≠ Bm) :
    Below W0.heap.size W0 w2 ∧ w2.ownsRow W0.heap.size 26 3 (.slice AO ny co) ny (flat zs) ∧ zs.Perm ys ∧ (0 < rb → w2.heap[rb]? = some (.cells vs 26 (0, 0))) :=
  ⟨hX.trans (hf.below (fun x hx => by simp at hx; omega) hX.size), row_baseW hr hX.size, hp, fun h => (hf.block _ (Array.getElem?_eq_some_iff.1 (hrow h).1).1 (by simpa using (hrow h).2)).trans (hrow h).1⟩
theorem wh_grown {W0 w2 w7 : World} {ny co : Nat} {AO : Option Addr} {xs : List Value} (hb : Below W0.heap.size W0 w2) (hg : w2.grownBy w7 (Value.ownBlock (.slice AO ny co))) (hr : w2.ownsRow W0.heap.size 26 3 (.slice AO ny co) ny xs) : Below W0.heap.size W0 w7 :=
  hb.trans ((Fr.grown (S := (Value.ownBlock (.slice AO ny co)).toList) hg (fun k e => by rw [e]; simp)).below (fun x hx => (hr.lt x (by simpa using hx)).1) hb.size)
/-- What Collect leaves there. -/
def ColQ {w : World} (W0 : World) (ys : List (It w)) (ny rb : Nat) (vs : Array Value) (r : Ending) (w2 : World) : Prop :=
  ∃ (zs : List (It w)) (AO : Option Addr) (co : Nat), r = .returned (.slice AO ny co) ∧ Hid (Below W0.heap.size W0 w2 ∧ w2.ownsRow W0.heap.size 26 3 (.slice AO ny co) ny (flat zs) ∧ zs.Perm ys ∧ (0 < rb → w2.heap[rb]? = some (.cells vs 26 (0, 0))))
/-- The orders of a piece meet again, whatever follows. -/
theorem cut_q9 {P : Program} {c : Code} {Q : Exit → Act → World → Prop} {a : Act} {w : World} (R : Act → World → Prop) (h : c.wp P (onlyR9 R) a w) (hK : ∀ a W, R a W → Q .normal a W) : c.wp P Q a w :=
  wpIn_wide.1 (wpIn_mono (wpIn_wide.2 h : c.wpIn Fence.wide 0 P (onlyR9 R) a w) (fun e a W hq => by
    cases e with
    | normal => exact hK a W hq
    | exit id => exact hq.elim
    | goto t => exact hq.elim
    | ret => exact hq.elim
    | panic c => exact hq.elim
    | outgrown => exact hq.elim))
theorem keep_three {W X Y : World} {b pb : Nat} {x0 x1 x2 : Value} {T : TypeId} (hne : b ≠ pb) (hk : X.heap[b]? = W.heap[b]?) (hb : W.heap[b]? = some (.cells #[x0, x1, x2] T (0, 0))) (hg : X.grownBy Y (some pb)) : Y.cell? ⟨b, 0, none⟩ = some x0 ∧ Y.cell? ⟨b, 1, none⟩ = some x1 ∧ Y.cell? ⟨b, 2, none⟩ = some x2 := by
  have h1 := hk.trans hb
  have h := (hg.block b (Array.getElem?_eq_some_iff.1 h1).1 (fun e => hne (Option.some.inj e))).trans h1
  exact ⟨by simp [World.cell?, h], by simp [World.cell?, h], by simp [World.cell?, h]⟩
/-- The map of places under way. -/
structure WhI {w : World} (its : List (It w)) (W1 : World) (pb k : Nat) (wr : World) : Prop where
  fr : Fr [pb] W1 wr
  map : MapSt wr pb ((its.take k).filterMap entP)
set_option maxRecDepth 100000 in
set_option maxHeartbeats 8000000 in
theorem own_wholes (cb mb : Nat) (M : List (Value × Value)) (w : World) (ys : List (It w)) (ez : It w) (hM : M.map Prod.snd = ys.map It.val) (hc : w.cell? ⟨cb, 0, none⟩ = some (.map (some mb))) (hm : MapSt w mb M) (hlen : ys.length + 1 ≤ 1099511627776) (hnd : (heads (ys ++ [ez])).Nodup) (hfr : ∀ y ∈ ys ++ [ez], ∀ x ∈ y.bs, FreeB w x) :
    Calls Try.prog 96 #[.pointer (some ⟨cb, 0, none⟩), ez.val] w (WholePost (ys ++ [ez]) w) := by
  obtain ⟨i0, hi, hz0, hz1, hz2⟩ := info_parts Try.infoEx
  have HI := Lib.hid (And.intro hi (And.intro hz0 (And.intro hz1 hz2)))
  clear hi hz0 hz1 hz2
  have hmk : ∀ w : World, (Instr.makeMap 169 none).run Try.prog w = .ok (.map (some w.heap.size)) (w.alloc (.map #[] 0)) := fun w => by simp [Instr.makeMap]
  have hcl : cb < w.heap.size := World.block_lt_of_cell? w _ hc
  have hsh : ∀ p ∈ M, ExV p.2 := fun p hp => by
    have h1 : p.2 ∈ ys.map It.val := by rw [← hM]; exact List.mem_map_of_mem hp
    obtain ⟨y, -, e⟩ := List.mem_map.1 h1
    rw [← e]; exact val_shape y
  have hML : M.length = ys.length := by have := congrArg List.length hM; simpa using this
  obtain ⟨A, c, eu, -, -, hcc⟩ := ez.slice
  obtain ⟨m, hm0⟩ : ∃ m, m = ez.ex.args.length := ⟨_, rfl⟩
  rw [← hm0] at eu
  have hval : ez.val = .agg #[.int .i64 ez.ex.kind, .string ez.ex.name, .slice A m c] := by rw [← eu]; rfl
  have hcel : ez.cells = [.int .i64 ez.ex.kind, .string ez.ex.name, .slice A m c] := by rw [← eu]; rfl
  rw [hval]
  obtain ⟨W0, hW0⟩ : ∃ W, W = (w.alloc (.cells #[.int .i64 ez.ex.kind, .string ez.ex.name, .slice A m c] 26)).alloc (.map #[] 0) := ⟨_, rfl⟩
  have h0 : Below w.heap.size w W0 ∧ W0.heap.size = w.heap.size + 1 + 1 ∧ W0.heap[w.heap.size]? = some (.cells #[.int .i64 ez.ex.kind, .string ez.ex.name, .slice A m c] 26 (0, 0)) ∧ MapSt W0 (w.heap.size + 1) [] := by
    rw [hW0]
    refine ⟨((Below.refl _ w).alloc (Nat.le_refl _) _).alloc (by simp) _, by simp, (Below.heap_alloc _ _ _ (by simp)).trans (heap_alloc_new w _), ?_⟩
    have := MapSt.made (w.alloc (.cells #[.int .i64 ez.ex.kind, .string ez.ex.name, .slice A m c] 26))
    rw [World.size_alloc] at this
    exact this
  obtain ⟨ny, hny⟩ : ∃ k, k = ys.length := ⟨_, rfl⟩
  -- the two calls
  have HV := Lib.hid (fun (X : World) => callsIn_wide.1 (valsS_in Fence.wide 9 trivial rfl (some mb) X))
  have HC := Lib.hid (show ∀ (X : World) (Bm : Nat), Below w.heap.size w X → X.cell? ⟨Bm, 0, none⟩ = some (.map (some mb)) → w.heap.size ≤ Bm → Calls Try.prog 117 #[.func (.func 131) #[] #[.pointer (some ⟨Bm, 0, none⟩)]] X (fun r w2 => ∃ (zs : List (It w)) (AO : Option Addr) (co : Nat), zs.Perm ys ∧ r = .returned (.slice AO ny co) ∧ w2.ownsRow X.heap.size 26 3 (.slice AO ny co) ny (flat zs) ∧ Fr [Bm] X w2) from fun X Bm hX hcm hBm => by
    refine (callsIn_wide.1 (collect_in Fence.wide 9 rfl rfl (fun _ => trivial) (by omega) (fun x : Ent M => x.1.2) (fun x => hsh _ x.2) _ _ w.heap.size M.length (fun xs => (xs.map (·.1)).Perm M) (fun _ => True) [Bm] X (enters_of Try.func131 (by kernel_rfl) rfl)
      (valsS_stops Fence.wide 7 (fun _ => trivial) rfl (by omega) Bm mb w.heap.size M hm.is.lt hsh X hcm (hm.on (hX.block _ hm.is.lt))) hX.size (fun k hk => by rw [List.mem_singleton] at hk; subst hk; exact ⟨hBm, World.block_lt_of_cell? X _ hcm⟩) (by omega))).mono ?_
    rintro r w2 ⟨xs, AO, co, hp, rfl, hr, hf⟩
    have h5 : (xs.map (fun x : Ent M => x.1.2)).Perm (ys.map It.val) := by
      have := hp.map Prod.snd
      rw [List.map_map] at this
      rw [← hM]; exact this
    obtain ⟨zs, hz1, hz2⟩ := perm_map_inv It.val h5 ys rfl
    have hl : xs.length = zs.length := by have := congrArg List.length hz2; simpa using this
    rw [hl, flat_of (fun x : Ent M => x.1.2) xs zs hz2] at hr
    have hl2 : zs.length = ny := by rw [hz1.length_eq, ← hny]
    rw [hl2] at hr hl
    exact ⟨zs, AO, co, hz1, by rw [hl], hr, hf⟩)
  have HW := Lib.hid (And.intro h0 (And.intro hc hcl))
  have HE := Lib.hid (And.intro hval hcel)
  have HH := Lib.hid (And.intro hnd (And.intro hfr hlen))
  have HU := Lib.hid (And.intro eu hm0)
  have HW0 := Lib.hid hW0
  have HNY := Lib.hid hny
  have CM := Lib.hid (show ny + 1 ≤ maxLen by unfold maxLen; omega)
  have CB := Lib.hid (show (ny + 1) * 48 ≤ 140737488355328 by omega)
  clear h0 hval hcel hnd hfr hlen eu hm0 hW0 hsh hM hm hML hny
  obtain ⟨K, hK⟩ : ∃ K, K = ez.ex.kind := ⟨_, rfl⟩
  obtain ⟨S, hS⟩ : ∃ S, S = ez.ex.name := ⟨_, rfl⟩
  rw [← hK, ← hS] at HE HW HW0 ⊢
  have HKS := Lib.hid (And.intro hK hS)
  clear hK hS
  go_enter Try.func96, Try.ntmps96
  go_wp2_with fail
  rw [← HW0.out]
  have HB0 := Lib.hid HW.out.1.1
  have HS := Lib.hid (show ∀ X, Below W0.heap.size W0 X → X.cell? ⟨w.heap.size, 0, none⟩ = some (.int .i64 K) ∧ X.cell? ⟨w.heap.size, 1, none⟩ = some (.string S) ∧ X.cell? ⟨w.heap.size, 2, none⟩ = some (.slice A m c) ∧ X.cell? ⟨cb, 0, none⟩ = some (.map (some mb)) from fun X hX => by
    obtain ⟨⟨q1, q2, q3, -⟩, q5, q6⟩ := HW.out
    have h := (hX.block w.heap.size (by omega)).trans q3
    exact ⟨by simp [World.cell?, h], by simp [World.cell?, h], by simp [World.cell?, h], ((q1.trans (hX.mono q1.size)).cell (p := ⟨cb, 0, none⟩) q6).trans q5⟩)
  have HS0 := Lib.hid HW.out.1.2.1
  have HCA := Lib.hid (show Calls Try.prog 117 #[.func (.func 131) #[] #[.pointer (some ⟨W0.heap.size, 0, none⟩)]] ((W0.alloc (.cells #[.map (some mb)] 76)).drew) (ColQ W0 ys ny 0 #[.int .i64 K, .string S, .slice A m c]) from by
    have hz := HB0.out.size
    have hbl : Below W0.heap.size W0 ((W0.alloc (.cells #[.map (some mb)] 76)).drew) := ((Below.refl _ W0).alloc (Nat.le_refl _) _).drew
    refine (HC.out _ W0.heap.size (HB0.out.trans (hbl.mono HB0.out.size)) (Boxed.new W0 _ _).cell (by omega)).mono ?_
    rintro r w2 ⟨zs, AO, co, hp, rfl, hr, hf⟩
    exact ⟨zs, AO, co, rfl, Lib.hid (wh_mid hbl (by omega) hf hr hp 0 (fun h => absurd h (by decide)))⟩)
  have HCB := Lib.hid (show Calls Try.prog 117 #[.func (.func 131) #[] #[.pointer (some ⟨W0.heap.size, 0, none⟩)]] (((W0.alloc (.cells #[.map (some mb)] 76)).alloc (.cells #[.int .i64 K, .string S, .slice A m c] 26)).drew) (ColQ W0 ys ny (W0.heap.size + 1) #[.int .i64 K, .string S, .slice A m c]) from by
    have hz := HB0.out.size
    have hbl : Below W0.heap.size W0 (((W0.alloc (.cells #[.map (some mb)] 76)).alloc (.cells #[.int .i64 K, .string S, .slice A m c] 26)).drew) := (((Below.refl _ W0).alloc (Nat.le_refl _) _).alloc (by simp) _).drew
    refine (HC.out _ W0.heap.size (HB0.out.trans (hbl.mono HB0.out.size)) ((Boxed.new W0 _ _).alloc _).cell (by omega)).mono ?_
    rintro r w2 ⟨zs, AO, co, hp, rfl, hr, hf⟩
    exact ⟨zs, AO, co, rfl, Lib.hid (wh_mid hbl (by omega) hf hr hp (W0.heap.size + 1) (fun _ => ⟨alloc2_new W0 _ _, by omega⟩))⟩)
  have HCC := Lib.hid (show Calls Try.prog 117 #[.func (.func 131) #[] #[.pointer (some ⟨(W0.heap.size + 1), 0, none⟩)]] (((W0.alloc (.cells #[.int .i64 K, .string S, .slice A m c] 26)).alloc (.cells #[.map (some mb)] 76)).drew) (ColQ W0 ys ny W0.heap.size #[.int .i64 K, .string S, .slice A m c]) from by
    have hz := HB0.out.size
    have hbl : Below W0.heap.size W0 (((W0.alloc (.cells #[.int .i64 K, .string S, .slice A m c] 26)).alloc (.cells #[.map (some mb)] 76)).drew) := (((Below.refl _ W0).alloc (Nat.le_refl _) _).alloc (by simp) _).drew
    refine (HC.out _ (W0.heap.size + 1) (HB0.out.trans (hbl.mono HB0.out.size)) (by have := (Boxed.new (W0.alloc (.cells #[.int .i64 K, .string S, .slice A m c] 26)) 76 (.map (some mb))).cell; rw [World.size_alloc] at this; exact this) (by omega)).mono ?_
    rintro r w2 ⟨zs, AO, co, hp, rfl, hr, hf⟩
    exact ⟨zs, AO, co, rfl, Lib.hid (wh_mid hbl (by omega) hf hr hp W0.heap.size (fun _ => ⟨alloc1_old W0 _ _, by omega⟩))⟩)
  refine cut_r9 (fun a W => ∃ (zs : List (It w)) (g9 cap9 : Nat) (f9 f10 f11 f12 f13 f14 f15 f16 : Value), a = { tmps := #[.pointer (some ⟨cb, 0, none⟩), .agg #[.int .i64 K, .string S, .slice A m c], undef, .pointer (some ⟨w.heap.size, 0, none⟩), .slice none 0 0, .map (some (w.heap.size + 1)), undef, undef, .map (some (w.heap.size + 1)), f9, f10, f11, f12, f13, f14, f15, f16, .slice (some ⟨g9, 0, none⟩) (ny + 1) cap9, .int .i64 ((ny : Int) + 1), .int .i64 0, undef, undef, undef, undef, undef, undef, undef, undef, undef, undef, undef, undef, undef, undef, undef, undef], defers := [] } ∧ zs.Perm ys ∧ W.ownsRow W0.heap.size 26 3 (.slice (some ⟨g9, 0, none⟩) (ny + 1) cap9) (ny + 1) (flat zs ++ [.int .i64 K, .string S, .slice A m c]) ∧ Below W0.heap.size W0 W) ?_ ?_
  · go_region_held3 (fun X => X.cell? ⟨w.heap.size, 0, none⟩ = some (.int .i64 K) ∧ X.cell? ⟨w.heap.size, 1, none⟩ = some (.string S) ∧ X.cell? ⟨w.heap.size, 2, none⟩ = some (.slice A m c) ∧ X.cell? ⟨cb, 0, none⟩ = some (.map (some mb)))
      (first
      | exact HS.out _ ((Below.refl _ _).drew)
      | exact HS.out _ (((Below.refl _ W0).alloc (Nat.le_refl _) _).drew)
      | exact HS.out _ ((((Below.refl _ W0).alloc (Nat.le_refl _) _).alloc (by simp) _).drew)
      | exact HS.out _ HQ.out.1
      | exact HS.out _ (HQ.out.1.alloc HQ.out.1.size _)
      | exact HS.out _ HQ7.out.2)
      (first
      | (go_at_call 118; refine (HV.out _).mono ?_; rintro r w1 ⟨rfl, rfl⟩)
      | (go_at_call 117; (with_reducible refine Calls.mono HCA.out ?_); rintro r w2 ⟨zs, AO, co, rfl, HQ⟩)
      | (go_at_call 117; (with_reducible refine Calls.mono HCB.out ?_); rintro r w2 ⟨zs, AO, co, rfl, HQ⟩)
      | (go_at_call 117; (with_reducible refine Calls.mono HCC.out ?_); rintro r w2 ⟨zs, AO, co, rfl, HQ⟩)
      | (refine step_append_lies _ (by rfl) _ _ _ (by rfl) W0.heap.size 26 i0 _ 3 48 Try.underlying24 HI.out.1 HI.out.2.1 HI.out.2.2.1 HI.out.2.2.2 rfl (by decide) (.slice AO ny co) ny (flat zs) (by rfl) (World.ownsRow.alloc HQ.out.2.1 _) ⟨w2.heap.size, 0, none⟩ 1 1 [.int .i64 K, .string S, .slice A m c] (by rfl) (by rfl) (World.news_of_block (heap_alloc_new w2 _)) (ex_leaf _ _ _ _ _) (by decide) CM.out CB.out (by have := HQ.out.1.size; simp; omega) (w2.heap.size + 1) (by simp) ?_; intro g9 cap9 w7 ho9 hg9 hat9 hlt9; have HQ7 := Lib.hid (And.intro ho9 (wh_grown (HQ.out.1.alloc HQ.out.1.size _) hg9 (World.ownsRow.alloc HQ.out.2.1 _))); clear ho9 hg9 hat9 hlt9)
      | (refine step_append_lies _ (by rfl) _ _ _ (by rfl) W0.heap.size 26 i0 _ 3 48 Try.underlying24 HI.out.1 HI.out.2.1 HI.out.2.2.1 HI.out.2.2.2 rfl (by decide) (.slice AO ny co) ny (flat zs) (by rfl) HQ.out.2.1 ⟨W0.heap.size + 1, 0, none⟩ 1 1 [.int .i64 K, .string S, .slice A m c] (by rfl) (by rfl) (World.news_of_block (HQ.out.2.2.2 (by have := HB0.out.size; omega))) (ex_leaf _ _ _ _ _) (by decide) CM.out CB.out (by have := HQ.out.1.size; omega) w2.heap.size rfl ?_; intro g9 cap9 w7 ho9 hg9 hat9 hlt9; have HQ7 := Lib.hid (And.intro ho9 (wh_grown HQ.out.1 hg9 HQ.out.2.1)); clear ho9 hg9 hat9 hlt9)
      | (refine step_append_lies _ (by rfl) _ _ _ (by rfl) W0.heap.size 26 i0 _ 3 48 Try.underlying24 HI.out.1 HI.out.2.1 HI.out.2.2.1 HI.out.2.2.2 rfl (by decide) (.slice AO ny co) ny (flat zs) (by rfl) HQ.out.2.1 ⟨W0.heap.size, 0, none⟩ 1 1 [.int .i64 K, .string S, .slice A m c] (by rfl) (by rfl) (World.news_of_block (HQ.out.2.2.2 (by have := HB0.out.size; omega))) (ex_leaf _ _ _ _ _) (by decide) CM.out CB.out (by have := HQ.out.1.size; omega) w2.heap.size rfl ?_; intro g9 cap9 w7 ho9 hg9 hat9 hlt9; have HQ7 := Lib.hid (And.intro ho9 (wh_grown HQ.out.1 hg9 HQ.out.2.1)); clear ho9 hg9 hat9 hlt9))
    all_goals exact ⟨zs, g9, cap9, _, _, _, _, _, _, _, _, rfl, HQ.out.2.2.1, HQ7.out.1, HQ7.out.2⟩
  rintro _ W1 ⟨zs, g9, cap9, f9, f10, f11, f12, f13, f14, f15, f16, rfl, hp, hr, hb⟩
  have hs0 := HS0.out
  obtain ⟨its, hits⟩ : ∃ l, l = zs ++ [ez] := ⟨_, rfl⟩
  have hflat : flat zs ++ [.int .i64 K, .string S, .slice A m c] = flat its := by rw [hits, flat_one, HE.out.2]
  rw [hflat] at hr
  have hlen : its.length = ny + 1 := by rw [hits, List.length_append, hp.length_eq, HNY.out]; rfl
  have hperm : its.Perm (ys ++ [ez]) := by rw [hits]; exact hp.append_right _
  have HITS := Lib.hid (And.intro hlen (And.intro hperm (And.intro (heads_perm hperm HH.out.1) (fun y (hy : y ∈ its) => HH.out.2.1 y (hperm.subset hy)))))
  have HR := Lib.hid hr
  have HB := Lib.hid hb
  have hny : (ny : Int) + 1 ≤ 1099511627776 := by have := HH.out.2.2; have := HNY.out; omega
  have HI0 := Lib.hid (show WhI its W1 (w.heap.size + 1) 0 W1 from ⟨Fr.refl _ _, by rw [List.take_zero]; exact HW.out.1.2.2.2.on (HB.out.block _ (by omega))⟩)
  clear hits hflat hr hlen hperm hp hb HC HV HS
  go_wp2_with fail
  go_loopw [19] (fun i wr => ∃ k : Nat, k ≤ ny + 1 ∧ i = .int .i64 (k : Int) ∧ Hid (WhI its W1 (w.heap.size + 1) k wr)) (fun i _ => ny + 1 - (intOf i).toNat)
  case atStart => exact ⟨0, by omega, rfl, HI0⟩
  case round =>
    obtain ⟨k, hk, rfl, HQ⟩ := hrel
    by_cases hlt : k < ny + 1
    · obtain ⟨z, hz⟩ : ∃ z, its[k]? = some z := ⟨_, List.getElem?_eq_getElem (by rw [HITS.out.1]; exact hlt)⟩
      have hfz := HITS.out.2.2.2 z (List.mem_of_getElem? hz)
      have htake : its.take (k + 1) = its.take k ++ [z] := by
        have hkl := (List.getElem?_eq_some_iff.1 hz).1
        rw [List.take_succ_eq_append_getElem hkl, (List.getElem?_eq_some_iff.1 hz).2]
      have hndk : (heads (its.take k ++ [z])).Nodup := by rw [← htake]; exact heads_take HITS.out.2.2.1 _
      obtain ⟨A2, c2, e2, -, hc21, hc22⟩ := z.slice
      obtain ⟨n2, hn2⟩ : ∃ q, q = z.ex.args.length := ⟨_, rfl⟩
      rw [← hn2] at e2 hc21
      obtain ⟨K2, hK2⟩ : ∃ q, q = z.ex.kind := ⟨_, rfl⟩
      obtain ⟨S2, hS2⟩ : ∃ q, q = z.ex.name := ⟨_, rfl⟩
      have hzv : z.val = .agg #[.int .i64 K2, .string S2, .slice A2 n2 c2] := by rw [← e2, hK2, hS2]; rfl
      have hzc : z.cells = [.int .i64 K2, .string S2, .slice A2 n2 c2] := by rw [← e2, hK2, hS2]; rfl
      have hg9 := (HR.out.lt g9 rfl)
      have hpb : w.heap.size + 1 < W0.heap.size := by omega
      have hcc2 : ∀ (j : Nat) (v : Value), j < 3 → z.cells[j]? = some v → wr.cell? ⟨g9, k * 3 + j, none⟩ = some v := fun j v hj hv => by
        refine (World.cell?_of_block (w := W1) (HQ.out.fr.block g9 hg9.2 (by simp; omega))).trans ?_
        rw [HR.out.cellAt (k * 3 + j) (by omega), flat_cells hz j hj]
        exact hv
      have t0 := hcc2 0 (.int .i64 K2) (by omega) (by rw [hzc]; rfl)
      have t1 := hcc2 1 (.string S2) (by omega) (by rw [hzc]; rfl)
      have t2 := hcc2 2 (.slice A2 n2 c2) (by omega) (by rw [hzc]; rfl)
      rw [Nat.add_zero] at t0
      have hgl : g9 < wr.heap.size := Nat.lt_of_lt_of_le hg9.2 HQ.out.fr.size
      have hkb : (k : Int) < (ny : Int) + 1 := by omega
      have hk0 : (0 : Int) ≤ (k : Int) := by omega
      have hm2 : (n2 : Int) ≤ 9223372036854775807 := by omega
      have HZ := Lib.hid (And.intro hfz (And.intro htake (And.intro hndk hzv)))
      have HPL := Lib.hid (And.intro (plOf_slice e2) hn2)
      have HG := Lib.hid hg9
      have hcb9 : ny + 1 ≤ cap9 := by
        rcases HR.out.2 with ⟨h0, -⟩ | ⟨g, cap, cur, hv, -, -, h1, -⟩
        · cases h0
        · cases hv; exact h1
      have hcm : cap9 ≤ maxLen := by
        rcases HR.out.2 with ⟨h0, -⟩ | ⟨g, cap, cur, hv, -, -, h1, h2, -⟩
        · cases h0
        · cases hv; exact h2
      have hcm2 : (cap9 : Int) ≤ 9223372036854775807 := by unfold maxLen at hcm; omega
      clear hfz htake hndk hzv hzc hg9 hpb hcc2 hc21 hc22 e2 hcm hK2 hS2 hn2
      by_cases h0 : n2 = 0
      · subst h0
        have HNX := Lib.hid (show ∀ o, WhI its W1 (w.heap.size + 1) (k + 1) (wr.alloc o) from fun o => by
          refine ⟨HQ.out.fr.trans (Fr.alloc (S := []) wr o) (by simp), ?_⟩
          rw [HZ.out.2.1, List.filterMap_append, List.filterMap_cons_none (by simp [entP, HPL.out.1.1 rfl]), List.filterMap_nil, List.append_nil]
          exact HQ.out.map.on (Below.heap_alloc _ _ _ HQ.out.map.is.lt))
        clear HZ HPL
        go_wp2_with fail
        go_roundw
        case rel => exact ⟨k + 1, by omega, by go_num, HNX.out _⟩
        case measure => simp [intOf]; omega
      · obtain ⟨p, hp⟩ : ∃ p, plOf z = some p := by
          cases hpl : plOf z with
          | some p => exact ⟨p, rfl⟩
          | none => exact absurd (by rw [HPL.out.2, plOf_none hpl]; rfl) h0
        obtain ⟨g, o, c3, b3, rfl, e3, -, -, -, -⟩ := plOf_some hp
        have hA2 : A2 = some ⟨g, o, none⟩ := by
          have h := HZ.out.2.2.2
          unfold It.val at h
          rw [e3] at h
          simp only [Value.agg.injEq, Array.mk.injEq, List.cons.injEq, Value.slice.injEq, and_true] at h
          exact h.2.2.1.symm
        subst hA2
        have hfg := plOf_free hp HZ.out.1
        have HP := Lib.hid hp
        have HN2 := Lib.hid (show pkv (⟨g, o, none⟩, z.ex.args.length) = .agg #[.pointer (some ⟨g, o, none⟩), .int .i64 (n2 : Int)] by rw [HPL.out.2]; rfl)
        have hn1 : 0 < n2 := by omega
        have hn1i : (0 : Int) < (n2 : Int) := by omega
        obtain ⟨W2, hW2⟩ : ∃ W2, W2 = wr.alloc (.cells #[.int .i64 K2, .string S2, .slice (some ⟨g, o, none⟩) n2 c2] 26) := ⟨_, rfl⟩
        have HB2 := Lib.hid (show Below wr.heap.size wr W2 by rw [hW2]; exact (Below.refl _ _).alloc (Nat.le_refl _) _)
        have hx2 : W2.heap[wr.heap.size]? = some (.cells #[.int .i64 K2, .string S2, .slice (some ⟨g, o, none⟩) n2 c2] 26 (0, 0)) := by rw [hW2]; exact heap_alloc_new wr _
        have HS2 := Lib.hid (show ∀ X, Below W2.heap.size W2 X → X.cell? ⟨wr.heap.size, 0, none⟩ = some (.int .i64 K2) ∧ X.cell? ⟨wr.heap.size, 1, none⟩ = some (.string S2) ∧ X.cell? ⟨wr.heap.size, 2, none⟩ = some (.slice (some ⟨g, o, none⟩) n2 c2) from fun X hX => by
          have h := (hX.block _ (Array.getElem?_eq_some_iff.1 hx2).1).trans hx2
          exact ⟨by simp [World.cell?, h], by simp [World.cell?, h], by simp [World.cell?, h]⟩)
        have HMX := Lib.hid (show ∀ X, Below W2.heap.size W2 X → MapSt X (w.heap.size + 1) ((its.take k).filterMap entP) ∧ (∀ x ∈ (its.take k).filterMap entP, PlaceK X x.1) ∧ PlaceK X (.agg #[.pointer (some ⟨g, o, none⟩), .int .i64 (n2 : Int)]) ∧ ∀ W5 L2, MapSt W5 (w.heap.size + 1) L2 → Put ((its.take k).filterMap entP) (.agg #[.pointer (some ⟨g, o, none⟩), .int .i64 (n2 : Int)]) (.agg #[.int .i64 K2, .string S2, .slice (some ⟨g, o, none⟩) n2 c2]) L2 → X.grownBy W5 (some (w.heap.size + 1)) → WhI its W1 (w.heap.size + 1) (k + 1) W5 from fun X hX => by
          have hbx : Below wr.heap.size wr X := HB2.out.trans (hX.mono HB2.out.size)
          have hml := HQ.out.map.is.lt
          have hfb : ∀ x, FreeB w x → FreeB X x := fun x hx => by
            have l1 : x < W1.heap.size := by have := hx.lt; have := HW.out.1.1.size; have := HB.out.size; omega
            refine hx.on ((hbx.block x (Nat.lt_of_lt_of_le l1 HQ.out.fr.size)).trans ((HQ.out.fr.block x l1 (by have := hx.lt; simp; omega)).trans ((HB.out.block x (by have := hx.lt; omega)).trans (HW.out.1.1.block x hx.lt))))
          refine ⟨HQ.out.map.on (hbx.block _ hml), fun x hx => ?_, ⟨_, _, rfl, hfb _ hfg⟩, fun W5 L2 h1 h2 h3 => ?_⟩
          · obtain ⟨y, hy, q, hq, rfl⟩ := entP_keys hx
            exact ⟨q.1, (q.2 : Int), rfl, hfb _ (plOf_free hq (HITS.out.2.2.2 y (List.mem_of_mem_take hy)))⟩
          · refine ⟨(HQ.out.fr.trans (Fr.of_below (S := []) hbx) (by simp)).trans (Fr.grown (S := [w.heap.size + 1]) h3 (fun k e => by cases e; simp)) (fun x hx => Or.inl hx), ?_⟩
            rw [← HN2.out] at h2
            rw [HZ.out.2.1, List.filterMap_append, List.filterMap_cons_some (b := (pkv (⟨g, o, none⟩, z.ex.args.length), z.val)) (by simp [entP, HP.out]), List.filterMap_nil, HZ.out.2.2.2, ← put_new h2 (entP_new HP.out HZ.out.2.2.1)]
            exact h1)
        have HX2 := Lib.hid (show _ ∧ wr.heap.size ≠ w.heap.size + 1 from ⟨hx2, by have := HQ.out.map.is.lt; omega⟩)
        have HW2 := Lib.hid hW2
        have HM2 := Lib.hid (And.intro hn1 hm2)
        clear hm2 hcm2 hcc hny hW2 hx2 hp e3 hfg HZ HPL HP HN2 h0 hn1
        go_wp2_with fail
        rw [← HW2.out]
        refine cut_q9 (fun a W => ∃ (f21 f22 f23 f24 f25 f26 f27 f28 f29 f30 f31 f32 : Value), a = { tmps := #[.pointer (some ⟨cb, 0, none⟩), .agg #[.int .i64 K, .string S, .slice A m c], undef, .pointer (some ⟨w.heap.size, 0, none⟩), .slice none 0 0, .map (some (w.heap.size + 1)), undef, .pointer (some ⟨wr.heap.size, 0, none⟩), .map (some (w.heap.size + 1)), f9, f10, f11, f12, f13, f14, f15, f16, .slice (some ⟨g9, 0, none⟩) (ny + 1) cap9, .int .i64 ((ny : Int) + 1), .int .i64 (k : Int), .bool true, f21, f22, f23, f24, f25, f26, f27, f28, f29, f30, f31, f32, undef, undef, undef], defers := [] } ∧ WhI its W1 (w.heap.size + 1) (k + 1) W) ?_ ?_
        · go_region_held3 (fun X => X.cell? ⟨wr.heap.size, 0, none⟩ = some (.int .i64 K2) ∧ X.cell? ⟨wr.heap.size, 1, none⟩ = some (.string S2) ∧ X.cell? ⟨wr.heap.size, 2, none⟩ = some (.slice (some ⟨g, o, none⟩) n2 c2))
            (first
            | exact HS2.out _ ((Below.refl _ _).drew)
            | exact HS2.out _ HB3.out
            | exact HS5.out)
            (first
            | (go_at_call 91; refine (own_place g o n2 c2 W2.drew HM2.out.1 (by have := HM2.out.2; omega)).mono ?_; rintro r w3 ⟨rfl, hb3⟩; have HB3 := Lib.hid ((Below.refl W2.heap.size W2).drew.trans hb3); have HM3 := Lib.hid (HMX.out _ HB3.out); obtain ⟨w5, L2, hrun5, hm5, hp5, hg5⟩ := HM3.out.1.update (val := .agg #[.int .i64 K2, .string S2, .slice (some ⟨g, o, none⟩) n2 c2]) (placeT w3) Try.underlying169 HM3.out.2.2.1 HM3.out.2.1; have HE5 := Lib.hid (HM3.out.2.2.2 _ _ hm5 hp5 hg5); have HS5 := Lib.hid (keep_three HX2.out.2 (HB3.out.block _ (Array.getElem?_eq_some_iff.1 HX2.out.1).1) HX2.out.1 hg5); clear hb3 hm5 hp5 hg5))
          all_goals exact ⟨_, _, _, _, _, _, _, _, _, _, _, _, rfl, HE5.out⟩
        rintro _ W5 ⟨f21, f22, f23, f24, f25, f26, f27, f28, f29, f30, f31, f32, rfl, he5⟩
        have HE5 := Lib.hid he5
        clear he5 HS2 HMX
        have hny : (ny : Int) + 1 ≤ 1099511627776 := by have := HH.out.2.2; have := HNY.out; omega
        go_wp2_with fail
        go_roundw
        case rel => exact ⟨k + 1, by omega, by go_num, HE5⟩
        case measure => simp [intOf]; omega
    · obtain rfl : k = ny + 1 := by omega
      have hmap := HQ.out.map
      rw [show its.take (ny + 1) = its by rw [← HITS.out.1, List.take_length]] at hmap
      have hsh : ∀ p ∈ its.filterMap entP, ExV p.2 := fun p hp => by
        obtain ⟨y, -, q, -, rfl⟩ := entP_keys hp
        exact val_shape y
      have hlenL : (its.filterMap entP).length ≤ 1099511627776 := by
        have h1 := List.length_filterMap_le entP its
        have h2 := HITS.out.1
        have h3 := HH.out.2.2
        have h4 := HNY.out
        omega
      have hlow : Below w.heap.size w wr := (HB0.out.trans (HB.out.mono HB0.out.size)).trans (HQ.out.fr.below (fun x hx => by simp at hx; omega) (by have := HB.out.size; omega))
      have HC := Lib.hid (show Calls Try.prog 117 #[.func (.func 132) #[] #[.pointer (some ⟨wr.heap.size, 0, none⟩)]] (wr.alloc (.cells #[.map (some (w.heap.size + 1))] 169)) (WholePost (ys ++ [ez]) w) from by
        have hbx := Boxed.new wr 169 (.map (some (w.heap.size + 1)))
        refine (callsIn_wide.1 (collect_in Fence.wide 9 rfl rfl (fun _ => trivial) (by omega) (fun x : Ent (its.filterMap entP) => x.1.2) (fun x => hsh _ x.2) _ _ wr.heap.size (its.filterMap entP).length (fun xs => (xs.map (·.1)).Perm (its.filterMap entP)) (fun _ => True) [wr.heap.size] _ (enters_of Try.func132 (by kernel_rfl) rfl)
          (valsP_stops Fence.wide 7 (fun _ => trivial) rfl (by omega) wr.heap.size (w.heap.size + 1) wr.heap.size (its.filterMap entP) hmap.is.lt hsh _ hbx.cell (hmap.on (Below.heap_alloc _ _ _ hmap.is.lt))) (by simp) (fun k hk => by rw [List.mem_singleton] at hk; subst hk; simp) hlenL)).mono ?_
        rintro r w2 ⟨xs, AO, co, hp, rfl, hr, hf⟩
        have h5 : (xs.map (fun x : Ent (its.filterMap entP) => x.1.2)).Perm ((its.filter hasP).map It.val) := by
          have := hp.map Prod.snd
          rw [List.map_map, entP_vals] at this
          exact this
        obtain ⟨zs2, hz1, hz2⟩ := perm_map_inv It.val h5 _ rfl
        have hl : xs.length = zs2.length := by have := congrArg List.length hz2; simpa using this
        rw [hl, flat_of (fun x : Ent (its.filterMap entP) => x.1.2) xs zs2 hz2] at hr
        refine ⟨zs2, AO, co, hz1.trans (HITS.out.2.1.filter _), by rw [hl], row_baseW hr (by have := hlow.size; simp; omega), ?_⟩
        exact (hlow.alloc hlow.size _).trans (hf.below (fun x hx => by simp at hx; subst hx; exact hlow.size) (by have := hlow.size; simp; omega)))
      have HV2 := Lib.hid (callsIn_wide.1 (valsP_in Fence.wide 9 trivial rfl (some (w.heap.size + 1)) wr))
      clear hmap hsh hlenL hlow
      go_wp2_with (first
        | (go_at_call 119; refine HV2.out.mono ?_; rintro r w1 ⟨rfl, rfl⟩)
        | (go_at_call 117; refine HC.out.mono ?_; rintro r w2 ⟨zs2, AO2, co2, hp2, rfl, hr2, hb2⟩; have HE2 := Lib.hid (And.intro hp2 (And.intro hr2 hb2)); clear hp2 hr2 hb2))
      go_ret
      exact ⟨zs2, AO2, co2, HE2.out.1, rfl, HE2.out.2.1, HE2.out.2.2⟩
end Go.Proofs.Ytbnghkgfbjipdaa

namespace Go.Proofs.Ytbnghkgfbjipdaa
open Go Go.RowKit

/-- The cells vs are those of the expressions l, whose slices lie in the blocks bs. -/
def CellsOf (W : World) : List Ex → List Value → List Nat → Prop
  | [], vs, bs => vs = [] ∧ bs = []
  | e :: r, vs, bs => ∃ u b1 vs2 b2, vs = [.int .i64 e.kind, .string e.name, u] ++ vs2 ∧ bs = b1 ++ b2 ∧ ExIs W (.agg #[.int .i64 e.kind, .string e.name, u]) e b1 ∧ CellsOf W r vs2 b2
theorem CellsOf.keeps {W W2 : World} : ∀ {l : List Ex} {vs : List Value} {bs : List Nat}, CellsOf W l vs bs → Keeps W W2 bs → CellsOf W2 l vs bs := by
  intro l
  induction l with
  | nil => intro vs bs h _; exact h
  | cons e r ih =>
    intro vs bs h hk
    obtain ⟨u, b1, vs2, b2, e1, rfl, h1, h2⟩ := h
    exact ⟨u, b1, vs2, b2, e1, rfl, h1.keeps ⟨hk.1, fun x hx => hk.2 x (List.mem_append_left _ hx)⟩, ih h2 ⟨hk.1, fun x hx => hk.2 x (List.mem_append_right _ hx)⟩⟩
theorem CellsOf.snoc {W : World} {e : Ex} {u : Value} {b1 : List Nat} (h1 : ExIs W (.agg #[.int .i64 e.kind, .string e.name, u]) e b1) : ∀ {l : List Ex} {vs : List Value} {bs : List Nat}, CellsOf W l vs bs → CellsOf W (l ++ [e]) (vs ++ [.int .i64 e.kind, .string e.name, u]) (bs ++ b1) := by
  intro l
  induction l with
  | nil =>
    intro vs bs h
    obtain ⟨rfl, rfl⟩ := h
    exact ⟨u, b1, [], [], rfl, by simp, h1, rfl, rfl⟩
  | cons x r ih =>
    intro vs bs h
    obtain ⟨y, b3, vs2, b2, rfl, rfl, h3, h2⟩ := h
    exact ⟨y, b3, _, _, by rw [List.append_assoc], by rw [List.append_assoc], h3, ih h2⟩
theorem CellsOf.exs {W : World} {g o : Nat} : ∀ {l : List Ex} {vs : List Value} {bs : List Nat} (i : Nat), CellsOf W l vs bs → (∀ j u, vs[j]? = some u → W.cell? ⟨g, o + i * 3 + j, none⟩ = some u) → ExsAt W g o i l bs := by
  intro l
  induction l with
  | nil => intro vs bs i h _; rw [ExsAt]; exact h.2
  | cons e r ih =>
    intro vs bs i h hc
    obtain ⟨u, b1, vs2, b2, rfl, rfl, h1, h2⟩ := h
    rw [ExsAt]
    refine ⟨b1, b2, rfl, ExAt.mk (u := u) (hc 0 _ rfl) (hc 1 _ rfl) (hc 2 _ rfl) h1, ih (i + 1) h2 (fun j v hj => ?_)⟩
    have h3 := hc (j + 3) v (by rw [List.getElem?_append_right (by simp)]; simpa using hj)
    rw [show o + i * 3 + (j + 3) = o + (i + 1) * 3 + j by omega] at h3
    exact h3

/-- The slice v of the call's own holds the expressions l, whose slices lie in the blocks bs of the call's own. -/
structure Kids (base : Nat) (W : World) (v : Value) (l : List Ex) (bs : List Nat) : Prop where
  row : ∃ vs, W.ownsRow base 26 3 v l.length vs ∧ CellsOf W l vs bs
  mine : Mine W base bs
  apart : ∀ g, v.ownBlock = some g → g ∉ bs
theorem Kids.nilled (base : Nat) (W : World) : Kids base W (.slice none 0 0) [] [] := ⟨⟨[], World.ownsRow_nil _ _ _ _, rfl, rfl⟩, Mine.nil _ _, fun g h => by cases h⟩
theorem Kids.made (W : World) {base : Nat} (hb : base ≤ W.heap.size) : Kids base (W.alloc (.cells #[] 26)) (.slice (some ⟨W.heap.size, 0, none⟩) 0 0) [] [] :=
  ⟨⟨[], World.ownsRow_made W #[] 0 hb (Nat.zero_le _) rfl, rfl, rfl⟩, Mine.nil _ _, fun g _ h => by cases h⟩
theorem Kids.keep {base : Nat} {W W2 : World} {v : Value} {l : List Ex} {bs S : List Nat} (h : Kids base W v l bs) (hf : Fr S W W2) (hS : ∀ x ∈ S, x < base) : Kids base W2 v l bs := by
  obtain ⟨⟨vs, hr, hc⟩, hm, ha⟩ := h
  have hk : Keeps W W2 bs := ⟨hf.size, fun x hx hlt => hf.block x hlt (fun hs => by have := hS x hs; have := (hm.range x hx).1; omega)⟩
  exact ⟨⟨vs, row_on hr (fun k e => hf.block k (hr.lt k e).2 (fun hs => by have := hS k hs; have := (hr.lt k e).1; omega)), hc.keeps hk⟩, hm.keeps hk, ha⟩
theorem Kids.form {base : Nat} {W : World} {v : Value} {l : List Ex} {bs : List Nat} (h : Kids base W v l bs) : ∃ A c, v = .slice A l.length c ∧ l.length ≤ c ∧ c ≤ maxLen := by
  obtain ⟨⟨vs, hr, hc⟩, -, -⟩ := h
  rcases hr.2 with ⟨rfl, h0⟩ | ⟨g, cap, cur, rfl, -, -, h1, h2, -⟩
  · exact ⟨Option.none, 0, by rw [h0], by omega, by unfold maxLen; omega⟩
  · exact ⟨_, cap, rfl, h1, h2⟩
/-- What has been built is a slice of expressions. -/
theorem Kids.is {base : Nat} {W : World} {v : Value} {l : List Ex} {bs : List Nat} (h : Kids base W v l bs) : ∃ bs2, SlIs W v l bs2 ∧ Mine W base bs2 := by
  obtain ⟨⟨vs, hr, hc⟩, hm, ha⟩ := h
  rcases hr.2 with ⟨rfl, h0⟩ | ⟨g, cap, cur, rfl, hb, hg, h1, h2, -⟩
  · obtain rfl : l = [] := List.eq_nil_of_length_eq_zero h0
    obtain ⟨-, rfl⟩ := hc
    exact ⟨[], ⟨_, _, rfl, Nat.le_refl _, by omega, Or.inl ⟨rfl, rfl⟩⟩, Mine.nil _ _⟩
  · have hlt : g < W.heap.size := (Array.getElem?_eq_some_iff.1 hg).1
    refine ⟨g :: bs, ⟨_, _, rfl, h1, by unfold maxLen at h2; omega, Or.inr ⟨g, 0, bs, rfl, hlt, rfl, hc.exs 0 (fun j u hj => ?_)⟩⟩, ?_⟩
    · have h3 := hr.cells (g := g) rfl j u hj
      rw [show (⟨g, 0, none⟩ : Addr).add j = ⟨g, 0 + 0 * 3 + j, none⟩ by unfold Addr.add; split <;> simp_all] at h3
      exact h3
    · refine ⟨List.nodup_cons.2 ⟨ha g rfl, hm.nodup⟩, fun x hx => ?_, fun x hx o => ?_⟩
      · rcases List.mem_cons.1 hx with rfl | hx
        · exact ⟨hb, hlt⟩
        · exact hm.range x hx
      · rcases List.mem_cons.1 hx with rfl | hx
        · exact hr.frozenAt o
        · exact hm.free x hx o
/-- An expression more. -/
theorem Kids.push {base : Nat} {W W3 : World} {v : Value} {l : List Ex} {bs b1 : List Nat} {e : Ex} {u : Value} {vs : List Value} {o : Obj} {g cap C : Nat} (h : Kids base W v l bs) (hC : base ≤ C) (hC2 : ∀ x, x ∈ bs ∨ v.ownBlock = some x → x < C)
    (hvs : W.ownsRow base 26 3 v l.length vs ∧ CellsOf W l vs bs) (he : ExIs W (.agg #[.int .i64 e.kind, .string e.name, u]) e b1) (hm : Mine W C b1)
    (ho : W3.ownsRow base 26 3 (.slice (some ⟨g, 0, none⟩) (l.length + 1) cap) (l.length + 1) (vs ++ [.int .i64 e.kind, .string e.name, u])) (hg : (W.alloc o).grownBy W3 v.ownBlock) (hat : v.ownBlock = some g ∨ g = (W.alloc o).heap.size) :
    Kids base W3 (.slice (some ⟨g, 0, none⟩) (l.length + 1) cap) (l ++ [e]) (bs ++ b1) := by
  have hl : ∀ x ∈ bs ++ b1, x < W.heap.size ∧ v.ownBlock ≠ some x := fun x hx => by
    rcases List.mem_append.1 hx with hx | hx
    · exact ⟨(h.mine.range x hx).2, fun hh => h.apart x hh hx⟩
    · exact ⟨(hm.range x hx).2, fun hh => by have := hC2 x (Or.inr hh); have := (hm.range x hx).1; omega⟩
  have hk : Keeps W W3 (bs ++ b1) := ⟨by have := hg.size; simp at this; omega, fun x hx hlt => (hg.block x (by simp; omega) (fun hh => (hl x hx).2 hh.symm)).trans (Below.heap_alloc W o x hlt)⟩
  refine ⟨⟨_, by rw [List.length_append]; exact ho, (hvs.2.snoc he).keeps hk⟩, ?_, fun k hkk hx => ?_⟩
  · have hj : Mine W base (bs ++ b1) := by
      refine ⟨?_, fun x hx => ?_, fun x hx => ?_⟩
      · rw [List.nodup_append]
        exact ⟨h.mine.nodup, hm.nodup, fun a ha b hb e => by have := hC2 a (Or.inl ha); have := (hm.range b hb).1; omega⟩
      · rcases List.mem_append.1 hx with hx | hx
        · exact h.mine.range x hx
        · exact ⟨Nat.le_trans hC (hm.range x hx).1, (hm.range x hx).2⟩
      · rcases List.mem_append.1 hx with hx | hx
        · exact h.mine.free x hx
        · exact hm.free x hx
    exact hj.keeps hk
  · obtain rfl : k = g := by simpa [Value.ownBlock, eq_comm] using hkk
    rcases hat with hat | hat
    · exact (hl k hx).2 hat
    · have := (hl k hx).1; simp at hat; omega
end Go.Proofs.Ytbnghkgfbjipdaa

namespace Go.Proofs.Ytbnghkgfbjipdaa
open Go Go.RowKit

/-- What is known of a text whose first bytes, up to a place, are those of a name. -/
def Upto (lo hi : Nat) (s : ByteArray) (k : Nat) : Prop := 0 < k → nameL lo hi s.data.toList = tailL (s.data.toList.drop k)
theorem iter_below (w : World) (s : ByteArray) (k : Nat) : Below w.heap.size w (w.iter s k) := (Below.refl _ _).alloc (Nat.le_refl _) _

def NamePost (lo hi : Nat) (s : ByteArray) (w : World) (e : Ending) (w' : World) : Prop := e = .returned (.bool (nameL lo hi s.data.toList)) ∧ Below w.heap.size w w'

theorem upto_end (lo hi : Nat) (s : ByteArray) (k : Nat) (h : Upto lo hi s k) (hk : ¬ k < s.size) (h1 : 1 ≤ s.size) : nameL lo hi s.data.toList = true := by
  rw [h (by omega), List.drop_eq_nil_of_le (by rw [sizeN]; omega)]; rfl
theorem upto_next (lo hi : Nat) (s : ByteArray) (k : Nat) (h : Upto lo hi s k) (hk : k < s.size) (h0 : 0 < k) (hc : tailOk s[k] = true) : Upto lo hi s (k + 1) := fun _ => (h h0).trans (tail_step _ k _ (drop_at s k hk) hc)
theorem upto_stop (lo hi : Nat) (s : ByteArray) (k : Nat) (h : Upto lo hi s k) (hk : k < s.size) (h0 : 0 < k) (hc : tailOk s[k] = false) : nameL lo hi s.data.toList = false := (h h0).trans (tail_stop _ k _ (drop_at s k hk) hc)

theorem empty_list (s : ByteArray) (h : s.size < 1) : s.toList = [] := by
  rw [ByteArray.toList_eq]; exact List.eq_nil_of_length_eq_zero (by rw [sizeN]; omega)
theorem full_list (s : ByteArray) (h : 1 ≤ s.size) : s.toList.isEmpty = false := by
  cases hb : s.toList.isEmpty with
  | false => rfl
  | true =>
    rw [List.isEmpty_iff, ByteArray.toList_eq] at hb
    have := sizeN s
    rw [hb] at this
    simp at this; omega
end Go.Proofs.Ytbnghkgfbjipdaa

namespace Go.Proofs.Ytbnghkgfbjipdaa
open Go Go.RowKit

def RightPost (k : Int) (s : ByteArray) (m : Nat) (w : World) (e : Ending) (w2 : World) : Prop := e = .returned (.bool (exFormOf k s m)) ∧ Below w.heap.size w w2
theorem right_box {w w2 : World} {s : ByteArray} {A : Option Addr} {m c : Nat} {T : Nat} (h : Below (w.alloc (.cells #[.string s, .slice A m c] T)).heap.size (w.alloc (.cells #[.string s, .slice A m c] T)) w2) : w2.cell? ⟨w.heap.size, 1, none⟩ = some (.slice A m c) := by
  have := (h.block w.heap.size (by simp)).trans (heap_alloc_new w _)
  simp [World.cell?, this]
theorem right_below {w w2 : World} {o : Obj} (h : Below (w.alloc o).heap.size (w.alloc o) w2) : Below w.heap.size w w2 := ((Below.refl _ w).alloc (Nat.le_refl _) _).trans (h.mono (by simp))

end Go.Proofs.Ytbnghkgfbjipdaa
