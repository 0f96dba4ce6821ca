/- The contracts of the program's own FindRule, kind, arity, FunctionKind and FunctionArity. Condition: fewer than 2^40 rules. -/
import Derived.Test.YtmndlhbgacgnlaaOwnRuMaps
import Derived.Test.YtmndlhbgacgnlaaRuLight
namespace Go.Proofs.Ytmndlhbgacgnlaa
open Go Go.RowKit Go.Shelf

theorem idx_first {wo : World} {key : Rt wo → Value} {q : Ru → Bool} {K : Value} (hq : ∀ x : Rt wo, key x = K ↔ q x.ru = true) : ∀ (xs : List (Rt wo)) (k : Nat) (l : List Ru), xs.map Rt.pair = numd k l →
    (∀ p, FirstAt key xs K p → ruIdx q k l = (p.num : Int) ∧ l.find? q = some p.ru) ∧ ((∀ p ∈ xs, key p ≠ K) → ruIdx q k l = -1 ∧ l.find? q = none) := by
  intro xs
  induction xs with
  | nil =>
    intro k l h
    cases l with
    | nil => exact ⟨fun p ⟨A, B, h, _⟩ => by simp at h, fun _ => ⟨rfl, rfl⟩⟩
    | cons r t => simp [numd] at h
  | cons x t ih =>
    intro k l h
    cases l with
    | nil => simp [numd] at h
    | cons r s =>
      rw [List.map_cons, numd, List.cons.injEq, Rt.pair, Prod.mk.injEq] at h
      obtain ⟨⟨hn, hr⟩, ht⟩ := h
      obtain ⟨h1, h2⟩ := ih (k + 1) s ht
      refine ⟨fun p hp => ?_, fun hp => ?_⟩
      · rcases firstAt_cons.1 hp with ⟨e, rfl⟩ | ⟨e, hf⟩
        · have := (hq p).1 e
          rw [hr] at this
          rw [ruIdx, this, List.find?_cons, this]
          simp [hn, hr]
        · have : q r = false := by
            rw [← hr, Bool.eq_false_iff]
            exact fun hh => e ((hq x).2 hh)
          rw [ruIdx, this, List.find?_cons, this]
          simpa using h1 p hf
      · have : q r = false := by
          rw [← hr, Bool.eq_false_iff]
          exact fun hh => hp x (by simp) ((hq x).2 hh)
        rw [ruIdx, this, List.find?_cons, this]
        simpa using h2 (fun p hp2 => hp p (by simp [hp2]))
theorem rkey_named {wo : World} (s t : ByteArray) (x : Rt wo) : rkey x = .agg #[.string s, .string t] ↔ namedC s t x.ru = true := by
  simp [rkey, namedC]
theorem rname_named {wo : World} (s : ByteArray) (x : Rt wo) : rname x = .string s ↔ named s x.ru = true := by
  simp [rname, named]

theorem own_nums (l : List Ru) (v : Value) (bs : List Nat) (w : World) (hv : PrIs w v l bs) (hb : l.length ≤ 1099511627776) : Calls Try.prog 89 #[v] w (MapPost l TwoK rkey rnum w) :=
  callsIn_wide.1 (nums_in Fence.wide 9 rfl rfl (fun _ => trivial) (Nat.le_refl _) l v bs w hv hb)
theorem own_first (l : List Ru) (v : Value) (bs : List Nat) (w : World) (hv : PrIs w v l bs) (hb : l.length ≤ 1099511627776) : Calls Try.prog 131 #[v] w (MapPost l StrK rname Rt.val w) :=
  callsIn_wide.1 (first_in Fence.wide 9 rfl rfl (fun _ => trivial) (Nat.le_refl _) l v bs w hv hb)
theorem numd_le : ∀ (l : List Ru) (k : Nat), ∀ p ∈ numd k l, p.1 < k + l.length := by
  intro l
  induction l with
  | nil => intro k p hp; cases hp
  | cons r t ih =>
    intro k p hp
    rw [numd] at hp
    rcases List.mem_cons.1 hp with rfl | hp
    · simp
    · have := ih (k + 1) p hp
      rw [List.length_cons]; omega

theorem zeroNum (w : World) : (zeroValue 3).run Try.prog w = .ok (.int .i64 0) w := by kernel_rfl
theorem zeroRule (w : World) : (zeroValue 110).run Try.prog w = .ok (.agg #[.string ⟨#[]⟩, .string ⟨#[]⟩, .slice none 0 0, .slice none 0 0, .int .i64 0, .string ⟨#[]⟩, .slice none 0 0]) w := by kernel_rfl

/-- What kind and arity answer. -/
def kindOf (r : Ru) : Int := if r.con.size = 0 then 1 else 2
def arityOf (r : Ru) : Int := (r.params.length : Int) + (if r.con.size = 0 then 0 else 1)
set_option maxHeartbeats 1000000 in
theorem own_kind (r : Ru) (v : Value) (b : List Nat) (w : World) (hv : RuIs w v r b) : Calls Try.prog 140 #[v] w (RetPost (.int .i64 (kindOf r)) w) := by
  obtain ⟨v1, v2, u, b1, b2, b3, rfl, h1, h2, rfl, h3, h4, h5⟩ := hv
  obtain ⟨A1, c1, rfl, -⟩ := h3
  obtain ⟨A2, c2, rfl, -⟩ := h4
  obtain ⟨u', e3, -, A3, c3, rfl, -⟩ := h5
  simp only [Value.agg.injEq, Array.mk.injEq, List.cons.injEq, and_true, true_and] at e3
  subst e3
  by_cases hc : r.con.size = 0
  · have HE := Lib.hid (show kindOf r = 1 by unfold kindOf; rw [if_pos hc])
    have hbe := empty_yes hc
    clear hc
    go_enter Try.func140, Try.ntmps140
    go_wp2_with fail
    go_ret
    exact ⟨by rw [HE.out]; rfl, (Below.refl _ w).alloc (Nat.le_refl _) _⟩
  · have HE := Lib.hid (show kindOf r = 2 by unfold kindOf; rw [if_neg hc])
    have hbe := empty_not hc
    clear hc
    go_enter Try.func140, Try.ntmps140
    go_wp2_with fail
    go_ret
    exact ⟨by rw [HE.out]; rfl, (Below.refl _ w).alloc (Nat.le_refl _) _⟩

set_option maxHeartbeats 1000000 in
theorem own_arity (r : Ru) (v : Value) (b : List Nat) (w : World) (hv : RuIs w v r b) (hn : r.params.length ≤ 1099511627776) : Calls Try.prog 132 #[v] w (RetPost (.int .i64 (arityOf r)) w) := by
  have HR := Lib.hid hv
  obtain ⟨v1, v2, u, b1, b2, b3, rfl, h1, h2, rfl, h3, h4, h5⟩ := hv
  obtain ⟨A1, c1, rfl, -⟩ := h3
  obtain ⟨A2, c2, rfl, -⟩ := h4
  obtain ⟨u', e3, -, A3, c3, rfl, -⟩ := h5
  simp only [Value.agg.injEq, Array.mk.injEq, List.cons.injEq, and_true, true_and] at e3
  subst e3
  obtain ⟨W0, hW0⟩ : ∃ W0, W0 = w.alloc (.cells #[.string r.name, .string r.con, .slice A1 r.vars.length c1, .slice A2 r.params.length c2, .int .i64 r.body.kind, .string r.body.name, .slice A3 r.body.args.length c3] 110) := ⟨_, rfl⟩
  have hbx : Below w.heap.size w W0 := by rw [hW0]; exact (Below.refl _ w).alloc (Nat.le_refl _) _
  have HB0 := Lib.hid hbx
  have HC := Lib.hid (own_kind r _ _ W0 (HR.out.below hbx))
  have HBX := Lib.hid (fun (W : World) (hb : Below W0.heap.size W0 W) => show W.cell? ⟨w.heap.size, 3, none⟩ = some (.slice A2 r.params.length c2) from by
    have h9 : W.heap[w.heap.size]? = some (.cells #[.string r.name, .string r.con, .slice A1 r.vars.length c1, .slice A2 r.params.length c2, .int .i64 r.body.kind, .string r.body.name, .slice A3 r.body.args.length c3] 110 (0, 0)) := by
      rw [hW0] at hb
      exact (hb.block _ (by simp)).trans (World.alloc_heap_new w _)
    simp [World.cell?, h9])
  have hpl : (r.params.length : Int) ≤ 1099511627776 := by omega
  generalize hq : r.params.length = q at *
  by_cases hc : r.con.size = 0
  · have HE := Lib.hid (show arityOf r = (q : Int) by unfold arityOf; rw [if_pos hc, hq]; omega)
    have HK := Lib.hid (show kindOf r = 1 by unfold kindOf; rw [if_pos hc])
    clear hc h1 h2
    go_enter Try.func132, Try.ntmps132
    go_wp2_with (rw [← hW0]; go_at_call 140; refine HC.out.mono ?_; rintro e w1 ⟨rfl, hb1⟩; have hcl := HBX.out w1 hb1; have HB1 := Lib.hid (HB0.out.trans (hb1.mono HB0.out.size)); clear hb1; rw [HK.out])
    go_ret
    exact ⟨by rw [HE.out]; rfl, HB1.out⟩
  · have HE := Lib.hid (show arityOf r = (q : Int) + 1 by unfold arityOf; rw [if_neg hc, hq])
    have HK := Lib.hid (show kindOf r = 2 by unfold kindOf; rw [if_neg hc])
    clear hc h1 h2
    go_enter Try.func132, Try.ntmps132
    go_wp2_with (rw [← hW0]; go_at_call 140; refine HC.out.mono ?_; rintro e w1 ⟨rfl, hb1⟩; have hcl := HBX.out w1 hb1; have HB1 := Lib.hid (HB0.out.trans (hb1.mono HB0.out.size)); clear hb1; rw [HK.out])
    go_ret
    exact ⟨by rw [HE.out]; rfl, HB1.out⟩

theorem kind_find {l : List Ru} {s : ByteArray} {r : Ru} (h : l.find? (named s) = some r) : kindR l s = kindOf r := by unfold kindR; rw [h]; rfl
theorem arity_find {l : List Ru} {s : ByteArray} {r : Ru} (h : l.find? (named s) = some r) : arityR l s = arityOf r := by unfold arityR; rw [h]; rfl

end Go.Proofs.Ytmndlhbgacgnlaa
