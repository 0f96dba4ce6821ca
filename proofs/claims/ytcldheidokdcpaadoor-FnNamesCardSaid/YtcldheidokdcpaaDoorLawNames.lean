/- FnNames, from contracts of the program's own six functions. Conditions: those contracts; strconv's table of powers of ten holds the powers. -/
import Derived.Test.YtcldheidokdcpaaDoorSpecDraws
import Derived.Test.YtcldheidokdcpaaDoorSpecDistinct
import Derived.Test.YtcldheidokdcpaaDoorSpecFresh
import Derived.Test.YtcldheidokdcpaaDoorPow
namespace Go.Proofs.YtcldheidokdcpaaDoor
open Go Go.RowKit

/-- The laws' comparison of two slices of equal strings. -/
def SameEnd (w : World) (e : Ending) (w' : World) : Prop := e = .returned (.bool true) ∧ ∃ q, w' = w.drewN q
set_option maxHeartbeats 1000000 in
theorem same_texts (A B : Option Addr) (xs : List ByteArray) (cap cap2 : Nat) (w : World) (hs : Strs w A xs) (hs2 : Strs w B xs) (hn : xs.length ≤ 140737488355328) :
    Calls Tryd.prog 16 #[.slice A xs.length cap, .slice B xs.length cap2] w (SameEnd w) := by
  obtain ⟨n, hnn⟩ : ∃ n, n = xs.length := ⟨_, rfl⟩
  have HN := Lib.hid hnn
  have HS := Lib.hid hs
  have HS2 := Lib.hid hs2
  rw [← hnn]
  rw [← hnn] at hn
  clear hs hs2 hnn
  go_enter Tryd.func16, Tryd.ntmps16
  go_wp2
  go_loopw [5] (fun i wr => ∃ (k q : Nat), k ≤ n ∧ i = .int .i64 (k : Int) ∧ wr = w.drewN q) (fun i _ => n - (intOf i).toNat)
  case atStart => exact ⟨0, 0, Nat.zero_le _, rfl, by simp [World.drewN_zero]⟩
  case round =>
    obtain ⟨k, q, hk, rfl, rfl⟩ := hrel
    by_cases hlt : k < n
    · obtain ⟨a, x, rfl, hc, hmem, hx, -, -⟩ := HS.out.get k (by rw [← HN.out]; exact hlt)
      obtain ⟨b, y, rfl, hc2, -, hy, -, -⟩ := HS2.out.get k (by rw [← HN.out]; exact hlt)
      obtain rfl : x = y := Option.some.inj (hx.symm.trans hy)
      clear hmem hx hy
      have hk0 : 0 ≤ (k : Int) := by omega
      have hkn : (k : Int) < (n : Int) := by omega
      go_wp2
      go_quiet (fail)
      go_wp2
      go_roundw
      case rel => exact ⟨k + 1, _, by omega, by go_num, rfl⟩
      case measure => simp [intOf]; omega
    · go_wp2
      go_ret
      exact ⟨rfl, q, rfl⟩
set_option maxHeartbeats 400000 in
theorem big_no (A : Option Addr) (n cap : Nat) (w : World) (h : (n : Int) ≤ 1048576) :
    Calls Tryd.prog 5 #[.slice A n cap] w fun e w' => e = .returned (.bool false) ∧ w = w' := by
  go_enter Tryd.func5, Tryd.ntmps5
  go_wp2
  go_ret
  exact ⟨by simp; omega, rfl⟩

theorem unite_nodup : ∀ (xs out : List ByteArray), out.Nodup → (uniteFrom out xs).Nodup := by
  intro xs
  induction xs with
  | nil => intro out h; exact h
  | cons x r ih =>
    intro out h
    rw [uniteFrom]
    split
    · exact ih out h
    · rename_i hx
      refine ih _ ?_
      rw [List.nodup_append]
      exact ⟨h, by simp, fun a ha b hb e => by rw [List.mem_singleton] at hb; subst hb; subst e; exact hx ((idx_mem _ _).2 ha)⟩
theorem unite_mem : ∀ (xs out : List ByteArray) (y : ByteArray), y ∈ uniteFrom out xs → y ∈ out ∨ y ∈ xs := by
  intro xs
  induction xs with
  | nil => intro out y h; exact Or.inl h
  | cons x r ih =>
    intro out y h
    rw [uniteFrom] at h
    split at h
    · rcases ih out y h with h1 | h1
      · exact Or.inl h1
      · exact Or.inr (List.mem_cons_of_mem _ h1)
    · rcases ih _ y h with h1 | h1
      · rcases List.mem_append.1 h1 with h2 | h2
        · exact Or.inl h2
        · rw [List.mem_singleton] at h2; exact Or.inr (by rw [h2]; exact List.mem_cons_self)
      · exact Or.inr (List.mem_cons_of_mem _ h1)
theorem unite_distinct (a b : List ByteArray) : distinct (unite a b) = true := by
  unfold distinct unite; exact decide_eq_true (unite_nodup b _ (unite_nodup a [] List.nodup_nil))
theorem unite_from (a b : List ByteArray) (y : ByteArray) (h : y ∈ unite a b) : 0 ≤ idx a y ∨ 0 ≤ idx b y := by
  unfold unite at h
  rcases unite_mem b _ y h with h1 | h1
  · rcases unite_mem a [] y h1 with h2 | h2
    · cases h2
    · exact Or.inl ((idx_mem _ _).2 h2)
  · exact Or.inr ((idx_mem _ _).2 h1)
theorem unite_size (a b : List ByteArray) : (unite a b).length ≤ a.length + b.length := by
  have h1 := unite_len a []
  have h2 := unite_len b (uniteFrom [] a)
  unfold unite
  simp only [List.length_nil] at h1
  omega
theorem fresh_not {xs : List ByteArray} {p : ByteArray} {k : Nat} (h : IsFresh xs p k) : idx xs (nth p k) = -1 := idx_not _ _ _ h.2.1
theorem bytes_mono {w : World} {B C : Nat} {A : Option Addr} {zs : List Int} (h : Bytes w B A zs) (hB : B ≤ C) : Bytes w C A zs := fun i z hz => by
  obtain ⟨a, e, hc, h0, h1, hl⟩ := h i z hz
  exact ⟨a, e, hc, h0, h1, Nat.lt_of_lt_of_le hl hB⟩
theorem bytes_go {w w' : World} {A : Option Addr} {zs : List Int} (h : Bytes w w.heap.size A zs) (hb : Below w.heap.size w w') : Bytes w' w'.heap.size A zs := bytes_mono (h.below hb) hb.size
theorem below_drewN (w : World) (q : Nat) : Below w.heap.size w (w.drewN q) := ⟨rfl, rfl, rfl, Nat.le_refl _, fun _ _ => rfl⟩
theorem below_on {a b c : World} (h : Below a.heap.size a b) (k : Below b.heap.size b c) : Below a.heap.size a c := h.trans (k.mono h.size)

/-- What the program's own six functions of chapter 2 give. -/
structure OwnNames : Prop where
  fresh : ∀ (A : Option Addr) (xs : List ByteArray) (cap : Nat) (p : ByteArray) (w : World), Pow10 w → Strs w A xs → xs.length ≤ 1099511627776 → (∀ x ∈ xs, x.size ≤ 1048576) → p.size ≤ 1048576 →
    Calls Tryd.prog 7 #[.slice A xs.length cap, .string p] w (FreshPost xs p w)
  index : ∀ (A : Option Addr) (xs : List ByteArray) (cap : Nat) (s : ByteArray) (w : World), Strs w A xs → xs.length ≤ 1099511627776 →
    Calls Tryd.prog 15 #[.slice A xs.length cap, .string s] w (fun e w' => e = .returned (.int .i64 (idx xs s)) ∧ Below w.heap.size w w')
  unite : ∀ (A B : Option Addr) (xs ys : List ByteArray) (cap cap2 : Nat) (w : World), Strs w A xs → Strs w B ys → xs.length ≤ 1099511627776 → ys.length ≤ 1099511627776 → (∀ x ∈ xs, x.size ≤ 1048576) → (∀ x ∈ ys, x.size ≤ 1048576) →
    Calls Tryd.prog 9 #[.slice A xs.length cap, .slice B ys.length cap2] w (UnitePost xs ys w)
  distinct : ∀ (A : Option Addr) (xs : List ByteArray) (cap : Nat) (w : World), Strs w A xs → xs.length ≤ 1099511627776 → (∀ x ∈ xs, x.size ≤ 1048576) → xs.length ≤ cap → cap ≤ 9223372036854775807 →
    Calls Tryd.prog 18 #[.slice A xs.length cap] w (fun e w' => e = .returned (.bool (YtcldheidokdcpaaDoor.distinct xs)) ∧ Below w.heap.size w w')
  isname : ∀ (s : ByteArray) (w : World), s.size ≤ 1048576 → Calls Tryd.prog 20 #[.string s] w (fun e w' => e = .returned (.bool (nameL 97 122 s.data.toList)) ∧ Below w.heap.size w w')
  iscon : ∀ (s : ByteArray) (w : World), s.size ≤ 1048576 → Calls Tryd.prog 22 #[.string s] w (fun e w' => e = .returned (.bool (nameL 65 90 s.data.toList)) ∧ Below w.heap.size w w')

def TrueEndN (w : World) (e : Ending) (w' : World) : Prop := e = .returned (.bool true) ∧ Below w.heap.size w w'

set_option maxHeartbeats 4000000 in
theorem law_names (O : OwnNames) (A : Option Addr) (zs : List Int) (cap : Nat) (w : World) (hpow : Pow10 w) (hs : Bytes w w.heap.size A zs) (hn : zs.length ≤ 1048576) :
    Calls Tryd.prog 3 #[.slice A zs.length cap] w (TrueEndN w) := by
  have HO := Lib.hid O
  have HPW := Lib.hid hpow
  have HN := Lib.hid hn
  have H5 := Lib.hid (big_no A zs.length cap w (by omega))
  have HS := Lib.hid hs
  clear O hs hn hpow
  go_enter Tryd.func3, Tryd.ntmps3
  go_wp2_with fail
  go_at_call 5
  refine H5.out.mono ?_
  rintro e w' ⟨rfl, rfl⟩
  go_wp2_with fail
  go_at_call 6
  refine (draw_fresh A zs cap w HS.out HN.out).mono ?_
  rintro e w1 ⟨_, la, p, rfl, ⟨A1, c1, rfl, hs1, -, -⟩, hf1, hp, hb1⟩
  have HB1 := Lib.hid hb1
  have HF1 := Lib.hid hf1
  have HL1 := Lib.hid hs1
  have HS1 := Lib.hid (bytes_go HS.out hb1)
  have HP := Lib.hid hp
  clear hb1 hf1 hs1 hp
  go_wp2_with fail
  go_at_call 7
  refine (HO.out.fresh A1 la c1 p w1 (pow10_below HB1.out HPW.out) HL1.out (by have := HF1.out.1; omega) (fun x hx => by have := HF1.out.2 x hx; omega) (by have := HP.out; omega)).mono ?_
  rintro e w2 ⟨k1, hk1, rfl, hb2⟩
  have HK1 := Lib.hid hk1
  have HB2 := Lib.hid (below_on HB1.out hb2)
  have HL2 := Lib.hid (HL1.out.below hb2)
  have HS2 := Lib.hid (bytes_go HS1.out hb2)
  clear hk1 hb2 HL1 HS1 HB1
  go_wp2_with fail
  go_at_call 8
  refine (draw_unite A zs cap w2 HS2.out HN.out).mono ?_
  rintro e w3 ⟨_, lb, _, lc, rfl, ⟨A2, c2, rfl, hs2, -, -⟩, hf2, ⟨A3, c3, rfl, hs3, -, -⟩, hf3, hb3⟩
  have HB3 := Lib.hid (below_on HB2.out hb3)
  have HL3 := Lib.hid (And.intro (HL2.out.below hb3) (And.intro hs2 hs3))
  have HF2 := Lib.hid (And.intro hf2 hf3)
  have HS3 := Lib.hid (bytes_go HS2.out hb3)
  clear hb3 hs2 hs3 hf2 hf3 HL2 HS2 HB2
  go_wp2_with fail
  go_at_call 9
  refine (HO.out.unite A2 A3 lb lc c2 c3 w3 HL3.out.2.1 HL3.out.2.2 (by have := HF2.out.1.1; omega) (by have := HF2.out.2.1; omega) (fun x hx => by have := HF2.out.1.2 x hx; omega) (fun x hx => by have := HF2.out.2.2 x hx; omega)).mono ?_
  rintro e w4 ⟨vu, rfl, hou, hb4⟩
  obtain ⟨Au, cu, rfl, hsu, hcu1, hcu2⟩ := hou.lst
  have HB4 := Lib.hid (below_on HB3.out hb4)
  have HL4 := Lib.hid (And.intro hsu (And.intro (HL3.out.1.below hb4) (And.intro (HL3.out.2.1.below hb4) (HL3.out.2.2.below hb4))))
  have HS4 := Lib.hid (bytes_go HS3.out hb4)
  have HCU := Lib.hid (And.intro hcu1 hcu2)
  clear hb4 hou hsu hcu1 hcu2 HL3 HS3 HB3
  go_wp2_with fail
  go_at_call 10
  refine (draw_index A zs cap w4 HS4.out HN.out).mono ?_
  rintro e w5 ⟨_, lx, y, rfl, ⟨Ax, cx, rfl, hsx, -, -⟩, hfx, hy, hb5⟩
  have HB5 := Lib.hid (below_on HB4.out hb5)
  have HL5 := Lib.hid (And.intro hsx (And.intro (HL4.out.1.below hb5) (And.intro (HL4.out.2.1.below hb5) (And.intro (HL4.out.2.2.1.below hb5) (HL4.out.2.2.2.below hb5)))))
  have HS5 := Lib.hid (bytes_go HS4.out hb5)
  have HFX := Lib.hid hfx
  clear hb5 hsx hfx hy HL4 HS4 HB4
  go_wp2_with fail
  go_at_call 11
  refine (draw_isname A zs cap w5 HS5.out HN.out).mono ?_
  rintro e w6 ⟨sn, rfl, hsn, hb6⟩
  have HB6 := Lib.hid (below_on HB5.out hb6)
  have HL6 := Lib.hid (And.intro (HL5.out.1.below hb6) (And.intro (HL5.out.2.1.below hb6) (And.intro (HL5.out.2.2.1.below hb6) (And.intro (HL5.out.2.2.2.1.below hb6) (HL5.out.2.2.2.2.below hb6)))))
  have HS6 := Lib.hid (bytes_go HS5.out hb6)
  have HSN := Lib.hid hsn
  clear hb6 hsn HL5 HS5 HB5
  go_wp2_with fail
  go_at_call 12
  refine (draw_iscon A zs cap w6 HS6.out HN.out).mono ?_
  rintro e w7 ⟨sc, rfl, hsc, hb7⟩
  have HB7 := Lib.hid (below_on HB6.out hb7)
  have HL7 := Lib.hid (And.intro (HL6.out.1.below hb7) (And.intro (HL6.out.2.1.below hb7) (And.intro (HL6.out.2.2.1.below hb7) (And.intro (HL6.out.2.2.2.1.below hb7) (HL6.out.2.2.2.2.below hb7)))))
  have HS7 := Lib.hid (bytes_go HS6.out hb7)
  have HSC := Lib.hid hsc
  clear hb7 hsc HL6 HS6 HB6
  go_wp2_with fail
  go_at_call 13
  refine (draw_distinct A zs cap w7 HS7.out HN.out).mono ?_
  rintro e w8 ⟨_, ld, rfl, ⟨Ad, cd, rfl, hsd, hcd1, hcd2⟩, hfd, hb8⟩
  have HB8 := Lib.hid (below_on HB7.out hb8)
  have HLd := Lib.hid hsd
  have HLx := Lib.hid (HL7.out.1.below hb8)
  have HLu := Lib.hid (HL7.out.2.1.below hb8)
  have HLa := Lib.hid (HL7.out.2.2.1.below hb8)
  have HLb := Lib.hid (HL7.out.2.2.2.1.below hb8)
  have HLc := Lib.hid (HL7.out.2.2.2.2.below hb8)
  have HCD := Lib.hid (And.intro hcd1 hcd2)
  have HFD := Lib.hid hfd
  clear hb8 hsd hcd1 hcd2 hfd HL7 HS7 HB7 HS HN H5
  go_wp2_with fail
  go_at_call 14
  refine (fresh_any A1 la c1 p w8 HLa.out (by have := HF1.out.1; omega) (by have := HP.out; omega)).mono ?_
  rintro e w9 ⟨k2, hk2, rfl, hb9⟩
  obtain rfl := IsFresh.same HK1.out hk2
  have HB9 := Lib.hid hb9
  clear hk2 hb9
  go_wp2_with fail
  go_at_call 15
  have c15 := HO.out.index A1 la c1 (nth p k1) w9 (HLa.out.below HB9.out) (by have := HF1.out.1; omega)
  rw [fresh_not HK1.out] at c15
  refine c15.mono ?_
  clear c15
  rintro e w10 ⟨rfl, hb10⟩
  have HB10 := Lib.hid (below_on HB9.out hb10)
  clear hb10 HB9
  go_wp2_with fail
  go_at_call 17
  refine (unite_any A2 A3 lb lc c2 c3 w10 (HLb.out.below HB10.out) (HLc.out.below HB10.out) (by have := HF2.out.1.1; omega) (by have := HF2.out.2.1; omega)).mono ?_
  rintro e w11 ⟨v2, rfl, ho2, hb11⟩
  obtain ⟨A4, c4, rfl, hs4, -, -⟩ := ho2.lst
  have HB11 := Lib.hid (below_on HB10.out hb11)
  have HL4 := Lib.hid hs4
  clear ho2 hb11 hs4 HB10
  have HUN := Lib.hid (unite_size lb lc)
  have HUF := Lib.hid (fun y (h : y ∈ unite lb lc) => unite_from lb lc y h)
  have HUD := Lib.hid (unite_distinct lb lc)
  have HUS := Lib.hid (show ∀ y ∈ unite lb lc, y.size ≤ 1048576 from fun y hy => by
    unfold unite at hy
    rcases unite_mem lc _ y hy with h1 | h1
    · rcases unite_mem lb [] y h1 with h2 | h2
      · cases h2
      · have := HF2.out.1.2 y h2; omega
    · have := HF2.out.2.2 y h1; omega)
  generalize unite lb lc = lu at *
  go_wp2_with fail
  go_at_call 16
  refine (same_texts Au A4 lu cu c4 w11 (HLu.out.below HB11.out) HL4.out (by have := HUN.out; have := HF2.out.1.1; have := HF2.out.2.1; omega)).mono ?_
  rintro e _ ⟨rfl, q, rfl⟩
  have HB12 := Lib.hid (below_on HB11.out (below_drewN w11 q))
  generalize w11.drewN q = w12 at *
  clear HB11 HL4
  go_wp2_with fail
  go_at_call 18
  have c18 := HO.out.distinct Au lu cu w12 (HLu.out.below HB12.out) (by have := HUN.out; have := HF2.out.1.1; have := HF2.out.2.1; omega) HUS.out HCU.out.1 HCU.out.2
  rw [HUD.out] at c18
  refine c18.mono ?_
  clear c18
  rintro e w13 ⟨rfl, hb13⟩
  have HB13 := Lib.hid (below_on HB12.out hb13)
  clear hb13 HB12
  go_wp2_with fail
  have hul : (lu.length : Int) ≤ 10 := by have := HUN.out; have := HF2.out.1.1; have := HF2.out.2.1; omega
  go_loopw [14] (fun i wr => ∃ (k : Nat), k ≤ lu.length ∧ i = .int .i64 (k : Int) ∧ Hid (Below w8.heap.size w8 wr)) (fun i _ => lu.length - (intOf i).toNat)
  case atStart => exact ⟨0, Nat.zero_le _, rfl, HB13⟩
  case round =>
    clear HB13
    obtain ⟨k, hk, rfl, HB⟩ := hrel
    by_cases hlt : k < lu.length
    · obtain ⟨a, x, rfl, hc0, hmem, -, -, hab⟩ := HLu.out.get k hlt
      have HCELL := Lib.hid (fun (W : World) (h : Below w8.heap.size w8 W) => (h.cell (p := a.add k) (by rw [block_add]; exact hab)).trans hc0)
      have hc := HCELL.out wr HB.out
      have hk0 : 0 ≤ (k : Int) := by omega
      have hkn : (k : Int) < (lu.length : Int) := by omega
      have HUX := Lib.hid (HUF.out x hmem)
      clear hc0 hmem
      have c15 := HO.out.index A2 lb c2 x wr (HLb.out.below HB.out) (by have := HF2.out.1.1; omega)
      have HI2 := Lib.hid (fun (W : World) (h : Below w8.heap.size w8 W) => HO.out.index A3 lc c3 x W (HLc.out.below h) (by have := HF2.out.2.1; omega))
      have hx := HUX.out
      generalize idx lb x = r1 at *
      generalize idx lc x = r2 at *
      have H15 := Lib.hid c15
      clear c15
      by_cases hr : 0 ≤ r1
      · clear hx HUX
        go_wp2_with fail
        go_at_call 15
        refine H15.out.mono ?_
        rintro e w14 ⟨rfl, hb14⟩
        have HB14 := Lib.hid (below_on HB.out hb14)
        clear hb14
        go_wp2_with fail
        go_roundw
        case rel => exact ⟨k + 1, by omega, by go_num, HB14⟩
        case measure => simp [intOf]; omega
      · have hr2 : 0 ≤ r2 := by omega
        clear hx HUX
        go_wp2_with fail
        go_at_call 15
        refine H15.out.mono ?_
        rintro e w14 ⟨rfl, hb14⟩
        have HB14 := Lib.hid (below_on HB.out hb14)
        have hc14 := HCELL.out w14 HB14.out
        clear hb14
        go_wp2_with fail
        go_at_call 15
        refine (HI2.out w14 HB14.out).mono ?_
        rintro e w15 ⟨rfl, hb15⟩
        have HB15 := Lib.hid (below_on HB14.out hb15)
        clear hb15
        go_wp2_with fail
        go_roundw
        case rel => exact ⟨k + 1, by omega, by go_num, HB15⟩
        case measure => simp [intOf]; omega
    · have H15 := Lib.hid (HO.out.index Ax lx cx y wr (HLx.out.below HB.out) (by have := HFX.out.1; omega))
      go_wp2_with fail
      go_at_call 15
      refine H15.out.mono ?_
      rintro e w14 ⟨rfl, hb14⟩
      have HB14 := Lib.hid (below_on HB.out hb14)
      have H19 := Lib.hid (idx_any Ax lx cx y w14 (HLx.out.below HB14.out) (by have := HFX.out.1; omega))
      clear hb14 H15
      generalize idx lx y = r at *
      go_wp2_with fail
      go_at_call 19
      refine H19.out.mono ?_
      rintro e w' ⟨rfl, rfl⟩
      go_wp2_with fail
      go_at_call 20
      refine (HO.out.isname sn w14 (by have := HSN.out; omega)).mono ?_
      rintro e w15 ⟨rfl, hb15⟩
      have HB15 := Lib.hid (below_on HB14.out hb15)
      have H21 := Lib.hid (isname_any sn w15 (by have := HSN.out; omega))
      clear hb15 H19
      generalize nameL 97 122 sn.data.toList = bn at *
      go_wp2_with fail
      go_at_call 21
      refine H21.out.mono ?_
      rintro e w' ⟨rfl, rfl⟩
      go_wp2_with fail
      go_at_call 22
      refine (HO.out.iscon sc w15 (by have := HSC.out; omega)).mono ?_
      rintro e w16 ⟨rfl, hb16⟩
      have HB16 := Lib.hid (below_on HB15.out hb16)
      have H23 := Lib.hid (iscon_any sc w16 (by have := HSC.out; omega))
      clear hb16 H21
      generalize nameL 65 90 sc.data.toList = bc at *
      go_wp2_with fail
      go_at_call 23
      refine H23.out.mono ?_
      rintro e w' ⟨rfl, rfl⟩
      go_wp2_with fail
      go_at_call 18
      refine (HO.out.distinct Ad ld cd w16 (HLd.out.below HB16.out) (by have := HFD.out.1; omega) (fun x hx => by have := HFD.out.2 x hx; omega) HCD.out.1 HCD.out.2).mono ?_
      rintro e w17 ⟨rfl, hb17⟩
      have HB17 := Lib.hid (below_on HB16.out hb17)
      have H24 := Lib.hid (dist_any Ad ld cd w17 (HLd.out.below HB17.out) (by have := HFD.out.1; omega) HCD.out.1 HCD.out.2)
      clear hb17 H23
      go_wp2_with fail
      go_at_call 24
      refine H24.out.mono ?_
      rintro e _ ⟨rfl, q, rfl⟩
      have HB18 := Lib.hid (below_on HB8.out (below_on HB17.out (below_drewN w17 q)))
      clear H24
      generalize distinct ld = bd at *
      go_wp2_with fail
      go_ret
      exact ⟨by simp, HB18.out⟩
end Go.Proofs.YtcldheidokdcpaaDoor
