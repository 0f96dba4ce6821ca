/- The contracts of the program's own constructorsOf and ConArity. Conditions: fewer than 2^40 nodes in each body; no string shares the memory of the program. -/
import Derived.Test.YtmndlhbgacgnlaaCons
import Derived.Test.YtmndlhbgacgnlaaThaw
namespace Go.Proofs.Ytmndlhbgacgnlaa
open Go Go.RowKit Go.Shelf
attribute [local go_sem] Oper.semAt_some

def consFun (b : Nat) : Value := .func (.func 127) #[] #[.pointer (some ⟨b, 0, none⟩)]
set_option maxHeartbeats 1000000 in
theorem constructors_in (F : Fence) (n : Nat) (hF : ∀ k, F.fn k) (hro : F.round = none) (A : Option Addr) (m c : Nat) (w : World) :
    CallsIn F n Try.prog 81 #[.agg #[.slice A m c]] w fun e w2 => e = .returned (consFun w.heap.size) ∧ w2 = w.alloc (.cells #[.slice A m c] 53) := by
  refine callsIn_of_wp Try.func81 rfl (hF _) ?_ hro
  simp only [Try.ntmps81, List.size_toArray, List.length_cons, List.length_nil, Nat.reduceAdd, Nat.reduceSub, Array.replicate_succ, Array.replicate_zero, List.push_toArray, List.append_toArray, List.nil_append, List.cons_append]
  gi_wp2
  go_ret
  exact ⟨rfl, rfl⟩

def CarI (rb : Nat) (s : ByteArray) (xs : List Cn) (Fp : List Nat) (W : World) : Prop := Fp = [rb] ∧ Boxed W rb 3 (.int .i64 0) ∧ xs.find? (isC s) = none
def CarX (rb : Nat) (s : ByteArray) (c : Code) (xs : List Cn) (Fp : List Nat) (W : World) : Prop := c = .ret ∧ Fp = [rb] ∧ ∃ y, xs.find? (isC s) = some y ∧ Boxed W rb 3 (.int .i64 (y.2 : Int))
theorem cari_foot (rb : Nat) (s : ByteArray) (xs : List Cn) : Foot (CarI rb s xs) := by
  rintro Fp X Y ⟨rfl, h1, h3⟩ _ hk
  exact ⟨rfl, box_on h1 (hk rb (by simp)), h3⟩
theorem carx_foot (rb : Nat) (s : ByteArray) (c : Code) (xs : List Cn) : Foot (CarX rb s c xs) := by
  rintro Fp X Y ⟨h0, rfl, y, h1, h2⟩ _ hk
  exact ⟨h0, rfl, y, h1, box_on h2 (hk rb (by simp))⟩
theorem res_int4 {fn : Func} (h : fn.results = #[.cell 4 3]) (tmps : Array Value) (W : World) (rb : Nat) (z : Int) (ht : tmps.getD 4 undef = .pointer (some ⟨rb, 0, none⟩)) (hc : W.cell? ⟨rb, 0, none⟩ = some (.int .i64 z)) : (results fn tmps).run Try.prog W = .ok (.int .i64 z) W := by
  rw [Array.getD_eq_getD_getElem?] at ht
  simp [results, h, ht, go_sem, hc]
theorem int4_end {F : Fence} {n : Nat} {fn : Func} {tmps : Array Value} {z : Int} {D rb : Nat} {w X : World} (h : fn.results = #[.cell 4 3]) (ht : tmps.getD 4 undef = .pointer (some ⟨rb, 0, none⟩)) (hR : Boxed X rb 3 (.int .i64 z)) (hK : X.heap[D]? = some (.deferred (some []))) (hne : D ≠ rb) (hDw : w.heap.size ≤ D) (hlow : Below w.heap.size w X) :
    LeavesInM F n Try.prog fn tmps (RetPost (.int .i64 z) w) [{ target := .collected D, args := #[] }] .returning X := by
  refine ⟨by simp, .inl ⟨D, _, rfl, run_takeDeferred hK, ?_⟩⟩
  refine ⟨.int .i64 z, res_int4 h tmps _ rb z ht ?_, rfl, hlow.trans ((Fr.put (S := [D]) X _ _ (by simp)).below (by simpa using hDw) hlow.size)⟩
  exact (box_on hR (World.putObj_heap_other (Ne.symm hne))).cell
theorem car_start (w : World) (A : Option Addr) (m c : Nat) (s : ByteArray) (W0 : World) (h : W0 = (((w.alloc (.cells #[.slice A m c] 53)).alloc (.cells #[.string s] 9)).alloc (.cells #[.int .i64 0] 3)).alloc (.cells #[.slice A m c] 53)) :
    W0.heap.size = w.heap.size + 4 ∧ Below w.heap.size w W0 ∧ Boxed W0 (w.heap.size + 1) 9 (.string s) ∧ Boxed W0 (w.heap.size + 2) 3 (.int .i64 0) ∧ W0.cell? ⟨w.heap.size + 3, 0, none⟩ = some (.slice A m c) := by
  obtain ⟨a1, h1⟩ : ∃ a1, a1 = w.alloc (.cells #[.slice A m c] 53) := ⟨_, rfl⟩
  obtain ⟨a2, h2⟩ : ∃ a2, a2 = a1.alloc (.cells #[.string s] 9) := ⟨_, rfl⟩
  obtain ⟨a3, h3⟩ : ∃ a3, a3 = a2.alloc (.cells #[.int .i64 0] 3) := ⟨_, rfl⟩
  rw [← h1, ← h2, ← h3] at h
  have s1 : a1.heap.size = w.heap.size + 1 := by rw [h1]; simp
  have s2 : a2.heap.size = w.heap.size + 2 := by rw [h2]; simp [s1]
  have s3 : a3.heap.size = w.heap.size + 3 := by rw [h3]; simp [s2]
  have s4 : W0.heap.size = w.heap.size + 4 := by rw [h]; simp [s3]
  have b2 := Boxed.new a1 9 (.string s)
  rw [← h2, s1] at b2
  have b3 := Boxed.new a2 3 (.int .i64 0)
  rw [← h3, s2] at b3
  have b4 := Boxed.new a3 53 (.slice A m c)
  rw [← h, s3] at b4
  have k3 : ∀ j, j < w.heap.size + 2 → a3.heap[j]? = a2.heap[j]? := fun j hj => by rw [h3]; exact Below.heap_alloc _ _ _ (by omega)
  have k4 : ∀ j, j < w.heap.size + 3 → W0.heap[j]? = a3.heap[j]? := fun j hj => by rw [h]; exact Below.heap_alloc _ _ _ (by omega)
  refine ⟨s4, ?_, box_on b2 ((k4 _ (by omega)).trans (k3 _ (by omega))), box_on b3 (k4 _ (by omega)), b4.cell⟩
  rw [h, h3, h2, h1]
  exact ((((Below.refl _ w).alloc (Nat.le_refl _) _).alloc (by simp) _).alloc (by simp <;> omega) _).alloc (by simp <;> omega) _

set_option maxRecDepth 100000 in
set_option maxHeartbeats 2000000 in
theorem con_in (F : Fence) (n : Nat) (hFw : F = Fence.wide) (hro : F.round = none) (hF : ∀ k, F.fn k) (hn : 10 ≤ n) (l : List Ru) (s : ByteArray) (v : Value) (bs : List Nat) (w : World) (hv : PrIs w v l bs) (hfr : Thawed w bs) (hb : ∀ r ∈ l, exSize r.body ≤ 1099511627776) :
    CallsIn F n Try.prog 40 #[v, .string s] w (RetPost (.int .i64 (conR s l)) w) := by
  obtain ⟨u, rfl, hu⟩ := id hv
  obtain ⟨A, c, rfl, hc1, hc2, -⟩ := id hu
  have h1 : 1 ≤ n := by omega
  have HFW := Lib.hid hFw
  have HU := Lib.hid hu
  have HFR := Lib.hid hfr
  have HB := Lib.hid hb
  obtain ⟨m, hm⟩ : ∃ m, m = l.length := ⟨_, rfl⟩
  rw [← hm] at HU hc1 ⊢
  clear hv hu hFw hfr hb hm
  refine callsIn_of_wp_marks Try.func40 rfl (hF _) ?_ hro
  simp only [Try.ntmps40, List.size_toArray, List.length_cons, List.length_nil, Nat.reduceAdd, Nat.reduceSub, Array.replicate_succ, Array.replicate_zero, List.push_toArray, List.append_toArray, List.nil_append, List.cons_append]
  gi_wp2_with (gi_at_call 81; refine (constructors_in F (n - 1) hF hro _ _ _ _).mono ?_; rintro e w' ⟨rfl, rfl⟩)
  obtain ⟨W0, hW0⟩ : ∃ W0, W0 = (((w.alloc (.cells #[.slice A m c] 53)).alloc (.cells #[.string s] 9)).alloc (.cells #[.int .i64 0] 3)).alloc (.cells #[.slice A m c] 53) := ⟨_, rfl⟩
  rw [← hW0]
  have HX := Lib.hid (car_start w A m c s W0 hW0)
  clear hW0
  have hx1 := HX.out.1
  refine wpIn_rangeFunc_frame hro h1 (gf := 127) (lb := #[.pointer (some ⟨w.heap.size + 3, 0, none⟩)]) rfl (hF _) (enters_of Try.func127 (by kernel_rfl) rfl)
    (cons_stops F (n - 1) HFW.out hro hF (by omega) w l A m c bs HU.out HB.out (fun z hz => (HFR.out z hz).2) (w.heap.size + 3) W0 HX.out.2.1 HX.out.2.2.2.2 (by omega)) (Below.refl _ _) (by omega) (fun k hk => by cases hk) (fun _ => rfl)
    (CarI (w.heap.size + 2) s) (CarX (w.heap.size + 2) s) (cari_foot _ _) (carx_foot _ _) [w.heap.size + 2] (fun k hk => by simp at hk; subst hk; simp; omega) ⟨rfl, HX.out.2.2.2.1, rfl⟩
    (fun pre x a2 Fp X => a2 = { tmps := #[.agg #[.slice A m c], .string s, .pointer (some ⟨w.heap.size, 0, none⟩), .pointer (some ⟨w.heap.size + 1, 0, none⟩), .pointer (some ⟨w.heap.size + 2, 0, none⟩), .string x.1, .int .i64 (x.2 : Int), .agg #[.slice A m c], consFun (w.heap.size + 3), .string x.1, .int .i64 (x.2 : Int), undef, undef, undef, undef], defers := [] } ∧ CarI (w.heap.size + 2) s pre Fp X) (fun xs x a2 Fp X Y h hs hk => ⟨h.1, cari_foot _ _ _ _ _ _ h.2 hs hk⟩) ?assign ?body ?done ?stop
  case assign =>
    intro l2 pre x Fp X KX hI hFp hFr hK
    have HI := Lib.hid hI
    have HFP := Lib.hid hFp
    have HKX := Lib.hid hK
    clear hI hFp hFr hK
    dsimp only [Cn.enc]
    gi_wp2
    exact HKX.out _ Fp _ (Fr.refl _ _) (fun k hk => ⟨Or.inl hk, (HFP.out k hk).2⟩) ⟨rfl, HI.out⟩
  case body =>
    rintro l2 pre x _ Fp X ⟨rfl, rfl, hR, hno⟩ hFp hFr hlen
    have hbs := (box_on HX.out.2.2.1 (hFr.block (w.heap.size + 1) (by omega) (by simp))).cell
    have hrc := hR.cell
    have hrf := hR.frozen
    have hrl := hR.lt
    have HR := Lib.hid hR
    have HNO := Lib.hid hno
    clear hR hno hFr hFp hlen
    by_cases hx : x.1 = s
    · have hbe := beq_yes hx
      have HXS := Lib.hid hx
      clear hx
      gi_wp2
      refine ⟨[w.heap.size + 2], Fr.set (S := [w.heap.size + 2]) _ _ _ (by simp), fun k hk => ?_, rfl, rfl, x, ?_, HR.out.set _⟩
      · simp at hk; subst hk; exact ⟨Or.inl (by simp), by have := HR.out.lt; simp [World.setCell]; omega⟩
      · rw [List.find?_append, HNO.out]; simp [isC, HXS.out]
    · have hbe := beq_no hx
      have HXS := Lib.hid hx
      clear hx
      gi_wp2
      refine ⟨[w.heap.size + 2], Fr.refl _ _, fun k hk => ?_, rfl, HR.out, ?_⟩
      · simp at hk; subst hk; exact ⟨Or.inl (by simp), HR.out.lt⟩
      · rw [List.find?_append, HNO.out]; simp [isC, HXS.out]
  case done =>
    rintro D xs Fp X hD hDF hFl hS ⟨rfl, hR, hno⟩ hFr hK
    have HCR := Lib.hid (show conR s l = -1 by rw [conR_find, ← hS, hno]; rfl)
    have hrc := hR.cell
    have hrf := hR.frozen
    have hrl := hR.lt
    have HR := Lib.hid hR
    have HK := Lib.hid hK
    have HLW := Lib.hid (show Below w.heap.size w X from HX.out.2.1.trans (hFr.below (by simp) (by omega)))
    have HDX := Lib.hid (show D ≠ w.heap.size + 2 by omega)
    clear hR hno hFr hK hS
    gi_wp2
    rw [HCR.out]
    exact int4_end rfl rfl (HR.out.set _) ((Below.heap_setCell _ _ _ _ HDX.out).trans HK.out) HDX.out (by omega) (HLW.out.setCell (p := ⟨w.heap.size + 2, 0, none⟩) (by simp) _)
  case stop =>
    rintro D cc pre Fp X hD hDF hFl ⟨rest, hS⟩ ⟨rfl, rfl, y, hy, hR⟩ hFr hK
    have HCR := Lib.hid (show conR s l = (y.2 : Int) by rw [conR_find, ← hS, List.find?_append, hy]; rfl)
    have HR := Lib.hid hR
    have HK := Lib.hid hK
    have HLW := Lib.hid (show Below w.heap.size w X from HX.out.2.1.trans (hFr.below (by simp) (by omega)))
    have HDX := Lib.hid (show D ≠ w.heap.size + 2 by omega)
    clear hR hy hFr hK hS
    gi_wp2
    rw [HCR.out]
    exact int4_end rfl rfl HR.out HK.out HDX.out (by omega) HLW.out
theorem own_con (l : List Ru) (s : ByteArray) (v : Value) (bs : List Nat) (w : World) (hv : PrIs w v l bs) (hfr : Thawed w bs) (hb : ∀ r ∈ l, exSize r.body ≤ 1099511627776) :
    Calls Try.prog 40 #[v, .string s] w (RetPost (.int .i64 (conR s l)) w) :=
  callsIn_wide.1 (con_in Fence.wide 10 rfl rfl (fun _ => trivial) (Nat.le_refl _) l s v bs w hv hfr hb)
end Go.Proofs.Ytmndlhbgacgnlaa
