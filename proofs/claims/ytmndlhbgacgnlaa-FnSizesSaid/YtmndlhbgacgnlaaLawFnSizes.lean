/- FnSizes, from contracts of the program's own seven functions of chapter 3. Conditions: those contracts. -/
import Derived.Test.YtmndlhbgacgnlaaExDrawEq
import Derived.Test.YtmndlhbgacgnlaaSpecValid
import Derived.Test.YtmndlhbgacgnlaaSpecEqual
import Derived.Test.YtmndlhbgacgnlaaSpecVars
namespace Go.Proofs.Ytmndlhbgacgnlaa
open Go Go.RowKit

/-- The laws' comparison of two slices of equal strings. -/
def SameEnd (w : World) (e : Ending) (w' : World) : Prop := e = .returned (.bool true) ∧ ∃ q, w' = w.drewN q
set_option maxHeartbeats 1000000 in
theorem same_texts (A B : Option Addr) (xs : List ByteArray) (cap cap2 : Nat) (w : World) (hs : Strs w A xs) (hs2 : Strs w B xs) (hn : xs.length ≤ 140737488355328) :
    Calls Try.prog 17 #[.slice A xs.length cap, .slice B xs.length cap2] w (SameEnd w) := by
  obtain ⟨n, hnn⟩ : ∃ n, n = xs.length := ⟨_, rfl⟩
  have HN := Lib.hid hnn
  have HS := Lib.hid hs
  have HS2 := Lib.hid hs2
  rw [← hnn]
  rw [← hnn] at hn
  clear hs hs2 hnn
  go_enter Try.func17, Try.ntmps17
  go_wp2
  go_loopw [5] (fun i wr => ∃ (k q : Nat), k ≤ n ∧ i = .int .i64 (k : Int) ∧ wr = w.drewN q) (fun i _ => n - (intOf i).toNat)
  case atStart => exact ⟨0, 0, Nat.zero_le _, rfl, by simp [World.drewN_zero]⟩
  case round =>
    obtain ⟨k, q, hk, rfl, rfl⟩ := hrel
    by_cases hlt : k < n
    · obtain ⟨a, x, rfl, hc, hmem, hx, -, -⟩ := HS.out.get k (by rw [← HN.out]; exact hlt)
      obtain ⟨b, y, rfl, hc2, -, hy, -, -⟩ := HS2.out.get k (by rw [← HN.out]; exact hlt)
      obtain rfl : x = y := Option.some.inj (hx.symm.trans hy)
      clear hmem hx hy
      have hk0 : 0 ≤ (k : Int) := by omega
      have hkn : (k : Int) < (n : Int) := by omega
      go_wp2
      go_quiet (fail)
      go_wp2
      go_roundw
      case rel => exact ⟨k + 1, _, by omega, by go_num, rfl⟩
      case measure => simp [intOf]; omega
    · go_wp2
      go_ret
      exact ⟨rfl, q, rfl⟩
set_option maxHeartbeats 400000 in
theorem big_no (A : Option Addr) (n cap : Nat) (w : World) (h : (n : Int) ≤ 1048576) :
    Calls Try.prog 11 #[.slice A n cap] w fun e w' => e = .returned (.bool false) ∧ w = w' := by
  go_enter Try.func11, Try.ntmps11
  go_wp2
  go_ret
  exact ⟨by simp; omega, rfl⟩

set_option maxHeartbeats 400000 in
theorem big_yes (A : Option Addr) (n cap : Nat) (w : World) (h : 1048576 < (n : Int)) :
    Calls Try.prog 11 #[.slice A n cap] w fun e w' => e = .returned (.bool true) ∧ w = w' := by
  go_enter Try.func11, Try.ntmps11
  go_wp2
  go_ret
  exact ⟨by simp, rfl⟩

/-- Data have neither variables nor calls. -/
theorem data_none (n : Nat) : (∀ (e : Ex) (out : List ByteArray), exSize e ≤ n → exDat e = true → exVars out e = out ∧ exCalls e = 0) ∧ (∀ (l : List Ex) (out : List ByteArray), exSizes l ≤ n → exDatL l = true → exVarsL out l = out ∧ exCallsL l = 0) := by
  induction n with
  | zero =>
    refine ⟨fun e out h => by have := exSize_pos e; omega, fun l out h => ?_⟩
    cases l with
    | nil => intro _; exact ⟨rfl, rfl⟩
    | cons e r => rw [exSizes] at h; have := exSize_pos e; omega
  | succ n ih =>
    have hE : ∀ (e : Ex) (out : List ByteArray), exSize e ≤ n + 1 → exDat e = true → exVars out e = out ∧ exCalls e = 0 := by
      intro e out h hd
      cases e with
      | mk k s l =>
        rw [exSize] at h
        rw [exDat, Bool.and_eq_true, decide_eq_true_eq] at hd
        obtain ⟨h1, h2⟩ := ih.2 l out (by omega) (by first | exact hd.1 | exact hd.2)
        have hk : k = 2 := by first | exact hd.2 | exact hd.1
        rw [exVars, exCalls, if_neg (by omega), if_neg (by omega), h1, h2]
        exact ⟨rfl, rfl⟩
    refine ⟨hE, ?_⟩
    intro l
    induction l with
    | nil => intro out _ _; exact ⟨rfl, rfl⟩
    | cons e r ihl =>
      intro out h hd
      rw [exSizes] at h
      rw [exDatL, Bool.and_eq_true] at hd
      obtain ⟨h1, h2⟩ := hE e out (by omega) hd.1
      obtain ⟨h3, h4⟩ := ihl out (by omega) hd.2
      rw [exVarsL, exCallsL, h1, h2, h3, h4]
      exact ⟨rfl, rfl⟩

/-- What the program's own seven functions of chapter 3 give. -/
structure OwnExs : Prop where
  size : ∀ (e : Ex) (v : Value) (bs : List Nat) (W : World), ExIs W v e bs → exTot e ≤ 1048576 → Calls Try.prog 13 #[v] W (RetPost (.int .i64 (exSize e : Int)) W)
  depth : ∀ (e : Ex) (v : Value) (bs : List Nat) (W : World), ExIs W v e bs → exTot e ≤ 1048576 → Calls Try.prog 14 #[v] W (RetPost (.int .i64 (exDepth e : Int)) W)
  calls : ∀ (e : Ex) (v : Value) (bs : List Nat) (W : World), ExIs W v e bs → exTot e ≤ 1048576 → Calls Try.prog 20 #[v] W (RetPost (.int .i64 (exCalls e : Int)) W)
  valid : ∀ (e : Ex) (v : Value) (bs : List Nat) (W : World), ExIs W v e bs → exTot e ≤ 1048576 → Calls Try.prog 15 #[v] W (RetPost (.bool (exValid e)) W)
  isdata : ∀ (e : Ex) (v : Value) (bs : List Nat) (W : World), ExIs W v e bs → exTot e ≤ 1048576 → Calls Try.prog 24 #[v] W (RetPost (.bool (exIsData e)) W)
  vars : ∀ (e : Ex) (v : Value) (bs : List Nat) (W : World), ExIs W v e bs → exTot e ≤ 1048576 → Calls Try.prog 18 #[v] W (NamesPost (exVars [] e) W)
  equal : ∀ (e e2 : Ex) (v v2 : Value) (bs bs2 : List Nat) (W : World), ExIs W v e bs → ExIs W v2 e2 bs2 → exTot e ≤ 1048576 → exTot e2 ≤ 1048576 → exSize e ≤ 80 → (∀ x ∈ bs ++ bs2, ∀ o, W.frozen? ⟨x, o, none⟩ = false) → Calls Try.prog 26 #[v, v2] W (RetPost (.bool (exEq e e2)) W)

def TrueEndZ (w : World) (e : Ending) (w' : World) : Prop := e = .returned (.bool true) ∧ Below w.heap.size w w'
theorem tot_mem : ∀ {l : List Ex} {x : Ex}, x ∈ l → exTot x + 1 ≤ exTots l := by
  intro l
  induction l with
  | nil => intro x h; cases h
  | cons y r ih =>
    intro x h
    rw [exTots]
    rcases List.mem_cons.1 h with rfl | h
    · omega
    · have := ih h; omega
theorem k3_start {wr : World} {a b c : Addr} {x1 x2 x3 : Value} (h : wr.cell? a = some x1 ∧ wr.cell? b = some x2 ∧ wr.cell? c = some x3) :
    wr.drew.cell? a = some x1 ∧ wr.drew.cell? b = some x2 ∧ wr.drew.cell? c = some x3 ∧ Hid (Below wr.heap.size wr wr.drew) := ⟨h.1, h.2.1, h.2.2, Lib.hid (Below.refl _ _).drew⟩
theorem cell_in {w : World} {a : Addr} {v : Value} (h : w.cell? a = some v) : a.block < w.heap.size := by
  rcases Nat.lt_or_ge a.block w.heap.size with h' | h'
  · exact h'
  · simp [World.cell?, Array.getElem?_eq_none h'] at h
theorem k3_step {wr X w2 : World} {a b c : Addr} {x1 x2 x3 : Value} (h : Hid (wr.cell? a = some x1 ∧ wr.cell? b = some x2 ∧ wr.cell? c = some x3)) (hb : Below X.heap.size X w2)
    (hX : X.cell? a = some x1 ∧ X.cell? b = some x2 ∧ X.cell? c = some x3 ∧ Hid (Below wr.heap.size wr X)) : w2.cell? a = some x1 ∧ w2.cell? b = some x2 ∧ w2.cell? c = some x3 ∧ Hid (Below wr.heap.size wr w2) := by
  have hw := hX.2.2.2.out.trans (hb.mono hX.2.2.2.out.size)
  exact ⟨(hw.cell (cell_in h.out.1)).trans h.out.1, (hw.cell (cell_in h.out.2.1)).trans h.out.2.1, (hw.cell (cell_in h.out.2.2)).trans h.out.2.2, Lib.hid hw⟩
theorem owns_strs {B : Nat} {w : World} {v : Value} {xs : List ByteArray} (h : OwnsL B w v xs) : ∃ A c, v = .slice A xs.length c ∧ Strs w A xs := by
  rcases h.2 with ⟨rfl, h0⟩ | ⟨g, cap, cur, rfl, -⟩
  · have : xs = [] := List.eq_nil_of_length_eq_zero h0
    subst this
    exact ⟨none, 0, rfl, fun i x hx => by simp at hx⟩
  · have hl := World.ownsRow.lt h g rfl
    exact ⟨_, cap, rfl, fun i x hx => ⟨_, rfl, World.ownsRow.cells h (g := g) rfl i _ (by rw [List.getElem?_map, hx]; rfl), hl.2⟩⟩
theorem below_drewZ (w : World) (q : Nat) : Below w.heap.size w (w.drewN q) := ⟨rfl, rfl, rfl, Nat.le_refl _, fun _ _ => rfl⟩
theorem bytes_monoZ {w : World} {B C : Nat} {A : Option Addr} {zs : List Int} (h : Bytes w B A zs) (hB : B ≤ C) : Bytes w C A zs := fun i z hz => by
  obtain ⟨a, e, hc, h0, h1, hl⟩ := h i z hz
  exact ⟨a, e, hc, h0, h1, Nat.lt_of_lt_of_le hl hB⟩
theorem bytes_goZ {w w' : World} {A : Option Addr} {zs : List Int} (h : Bytes w w.heap.size A zs) (hb : Below w.heap.size w w') : Bytes w' w'.heap.size A zs := bytes_monoZ (h.below hb) hb.size
def C3 (W : World) (b : Nat) (v0 v1 v2 : Value) : Prop := W.cell? ⟨b, 0, none⟩ = some v0 ∧ W.cell? ⟨b, 1, none⟩ = some v1 ∧ W.cell? ⟨b, 2, none⟩ = some v2
theorem C3.below {W W2 : World} {b : Nat} {v0 v1 v2 : Value} (h : C3 W b v0 v1 v2) (hb : Below W.heap.size W W2) : C3 W2 b v0 v1 v2 :=
  ⟨(hb.cell (cell_in h.1)).trans h.1, (hb.cell (cell_in h.2.1)).trans h.2.1, (hb.cell (cell_in h.2.2)).trans h.2.2⟩
theorem C3.new (W : World) (v0 v1 v2 : Value) : C3 (W.alloc (.cells #[v0, v1, v2] 26)) W.heap.size v0 v1 v2 :=
  have h := Row.new W 26 [v0, v1, v2]
  ⟨h.cell 0 _ rfl, h.cell 1 _ rfl, h.cell 2 _ rfl⟩
theorem C3.alloc {W : World} {b : Nat} {v0 v1 v2 : Value} (h : C3 W b v0 v1 v2) (o : Obj) : C3 (W.alloc o) b v0 v1 v2 := h.below ((Below.refl _ _).alloc (Nat.le_refl _) o)
/-- Three boxes stay. -/
def K9 (wr X : World) (a b c : Nat) (x0 x1 x2 y0 y1 y2 z0 z1 z2 : Value) : Prop :=
  X.cell? ⟨a, 0, none⟩ = some x0 ∧ X.cell? ⟨a, 1, none⟩ = some x1 ∧ X.cell? ⟨a, 2, none⟩ = some x2 ∧ X.cell? ⟨b, 0, none⟩ = some y0 ∧ X.cell? ⟨b, 1, none⟩ = some y1 ∧ X.cell? ⟨b, 2, none⟩ = some y2 ∧
    X.cell? ⟨c, 0, none⟩ = some z0 ∧ X.cell? ⟨c, 1, none⟩ = some z1 ∧ X.cell? ⟨c, 2, none⟩ = some z2 ∧ Hid (Below wr.heap.size wr X)
theorem k9_at {wr X : World} {a b c : Nat} {x0 x1 x2 y0 y1 y2 z0 z1 z2 : Value} (h : C3 wr a x0 x1 x2 ∧ C3 wr b y0 y1 y2 ∧ C3 wr c z0 z1 z2) (hb : Below wr.heap.size wr X) : K9 wr X a b c x0 x1 x2 y0 y1 y2 z0 z1 z2 :=
  have h1 := h.1.below hb
  have h2 := h.2.1.below hb
  have h3 := h.2.2.below hb
  ⟨h1.1, h1.2.1, h1.2.2, h2.1, h2.2.1, h2.2.2, h3.1, h3.2.1, h3.2.2, Lib.hid hb⟩
theorem data_no {d : Ex} (h : exIsData d = true) : exVars [] d = [] ∧ exCalls d = 0 := by
  unfold exIsData at h
  rw [Bool.and_eq_true] at h
  exact (data_none (exSize d)).1 d [] (Nat.le_refl _) h.2
theorem box_at {w W : World} {v0 v1 v2 : Value} (h : Below (w.heap.size + 1) (w.alloc (.cells #[v0, v1, v2] 26)) W) : W.cell? ⟨w.heap.size, 0, none⟩ = some v0 ∧ W.cell? ⟨w.heap.size, 1, none⟩ = some v1 ∧ W.cell? ⟨w.heap.size, 2, none⟩ = some v2 := by
  have hb : Box W w.heap.size v0 v1 v2 := (h.block w.heap.size (Nat.lt_succ_self _)).trans (Row.new w 26 [v0, v1, v2])
  exact ⟨hb.facts.1, hb.facts.2.1, hb.facts.2.2.1⟩

set_option maxHeartbeats 2000000 in
theorem law_sizes (O : OwnExs) (A : Option Addr) (zs : List Int) (cap : Nat) (w : World) (hs : Bytes w w.heap.size A zs) (hn : zs.length ≤ 1048576) :
    Calls Try.prog 3 #[.slice A zs.length cap] w (TrueEndZ w) := by
  have HO := Lib.hid O
  have HN := Lib.hid hn
  have H5 := Lib.hid (big_no A zs.length cap w (by omega))
  have HS := Lib.hid hs
  clear O hs hn
  go_enter Try.func3, Try.ntmps3
  go_wp2_with fail
  go_at_call 11
  refine H5.out.mono ?_
  rintro e w' ⟨rfl, rfl⟩
  go_wp2_with fail
  go_at_call 12
  refine (draw_valid A zs cap w HS.out HN.out).mono ?_
  rintro r w1 ⟨_, e, bs, rfl, his, ht, hb1⟩
  obtain ⟨_, rfl, -, A1, c1, rfl, hlc, hc9, -⟩ := id his
  have HB1 := Lib.hid hb1
  have HI := Lib.hid (his.below ((Below.refl w1.heap.size w1).alloc (Nat.le_refl _) (.cells #[.int .i64 e.kind, .string e.name, .slice A1 e.args.length c1] 26)))
  have HX := Lib.hid (fun (W : World) (h : Below (w1.heap.size + 1) (w1.alloc (.cells #[.int .i64 e.kind, .string e.name, .slice A1 e.args.length c1] 26)) W) => box_at h)
  have HE := Lib.hid (fun (W : World) (h : Below (w1.heap.size + 1) (w1.alloc (.cells #[.int .i64 e.kind, .string e.name, .slice A1 e.args.length c1] 26)) W) => his.below (((Below.refl w1.heap.size w1).alloc (Nat.le_refl _) _).trans (h.mono (Nat.le_succ _))))
  have HT := Lib.hid ht
  have hes : exSize e ≤ 201 := by have := (tot_size (exSize e)).1 e (Nat.le_refl _); omega
  have HES := Lib.hid (show exSize e = exSizes e.args + 1 by cases e; rfl)
  have HDS := Lib.hid (show exDepth e = exDeep e.args + 1 by cases e; rfl)
  have HDL := Lib.hid (depth_le e)
  have hml : (e.args.length : Int) ≤ 201 := by have := sizes_len e.args; have := HES.out; omega
  obtain ⟨m, hm⟩ : ∃ m, m = e.args.length := ⟨_, rfl⟩
  have HM := Lib.hid hm
  clear hb1 his ht
  rw [← hm] at hlc hml HI HX HE
  rw [← hm]
  clear hm
  go_wp2_with fail
  go_loopw [4, 5, 6] (fun a d i wr => ∃ (k : Nat) (z y : Int), k ≤ m ∧ i = .int .i64 (k : Int) ∧ a = .int .i64 z ∧ d = .int .i64 y ∧ 1 ≤ z ∧ z ≤ 1000 ∧ 0 ≤ y ∧ y ≤ 1000 ∧ Hid (z = (exSizes (e.args.take k) : Int) + 1) ∧ Hid (y = (exDeep (e.args.take k) : Int)) ∧ Hid (Below (w1.heap.size + 1) (w1.alloc (.cells #[.int .i64 e.kind, .string e.name, .slice A1 m c1] 26)) wr)) (fun _ _ i _ => m - (intOf i).toNat)
  case atStart => exact ⟨0, 1, 0, Nat.zero_le _, rfl, rfl, rfl, by omega, by omega, by omega, by omega, Lib.hid (by simp [exSizes]), Lib.hid (by simp [exDeep]), Lib.hid (Below.refl _ _)⟩
  case round =>
    obtain ⟨k, z, y, hk, rfl, rfl, rfl, hz0, hz1, hy0, hy1, HZ, HY, HB⟩ := hrel
    obtain ⟨x0, x1, x2⟩ := HX.out wr HB.out
    by_cases hlt : k < m
    · obtain ⟨_, hu⟩ := HE.out wr HB.out
      obtain ⟨heq, -, hsl⟩ := hu
      simp only [Value.agg.injEq, Array.mk.injEq, List.cons.injEq, and_true, true_and] at heq
      subst heq
      obtain ⟨g, o, e1, u1, b1, rfl, hbl, hget, hmem, c1', c2', c3', his1, -⟩ := hsl.get k (by rw [← HM.out]; exact hlt)
      have HCE := Lib.hid (fun (W : World) (h : Below wr.heap.size wr W) => And.intro (h.cell (p := ⟨g, o + k * 3, none⟩) hbl |>.trans c1') (And.intro (h.cell (p := ⟨g, o + k * 3 + 1, none⟩) hbl |>.trans c2') (h.cell (p := ⟨g, o + k * 3 + 2, none⟩) hbl |>.trans c3')))
      have HI1 := Lib.hid (fun (W : World) (h : Below wr.heap.size wr W) => his1.below h)
      have HSN := Lib.hid (sizes_snoc e.args k e1 hget)
      have HDN := Lib.hid (deep_snoc e.args k e1 hget)
      have HTS := Lib.hid (show exTot e1 ≤ 200 by
        have h1 := HT.out
        have h2 := tot_mem hmem
        cases e; simp [exTot, Ex.args] at *; omega)
      have HST := Lib.hid (sizes_take e.args (k + 1))
      have HDE := Lib.hid (depth_le e1)
      have hs1 : (exSize e1 : Int) ≤ 201 := by have := (tot_size (exSize e1)).1 e1 (Nat.le_refl _); have := HTS.out; omega
      have hd1 : (exDepth e1 : Int) ≤ 201 := by have := HDE.out; omega
      obtain ⟨S1, hS1⟩ : ∃ S1 : Int, S1 = (exSize e1 : Int) := ⟨_, rfl⟩
      obtain ⟨D1, hD1⟩ : ∃ D1 : Int, D1 = (exDepth e1 : Int) := ⟨_, rfl⟩
      have HC1 := Lib.hid (fun (W : World) (h : Below wr.heap.size wr W) => show Calls Try.prog 13 _ W (RetPost (.int .i64 S1) W) by rw [hS1]; exact HO.out.size e1 _ b1 W (HI1.out W h) (by have := HTS.out; omega))
      have HC2 := Lib.hid (fun (W : World) (h : Below wr.heap.size wr W) => show Calls Try.prog 14 _ W (RetPost (.int .i64 D1) W) by rw [hD1]; exact HO.out.depth e1 _ b1 W (HI1.out W h) (by have := HTS.out; omega))
      have hS0 : 0 ≤ S1 := by omega
      have hD0 : 0 ≤ D1 := by omega
      rw [← hS1] at hs1
      rw [← hD1] at hd1
      have HS1 := Lib.hid hS1
      have HD1 := Lib.hid hD1
      have hbw : w1.heap.size + 1 ≤ wr.heap.size := by have := HB.out.size; simpa using this
      have HXK := Lib.hid (fun (W : World) (h : Below wr.heap.size wr W) => HX.out W (HB.out.trans (h.mono hbw)))
      clear hget hmem hsl his1 hS1 hD1
      have hzz : z + S1 ≤ 1000 := by have := HZ.out; have := HSN.out; have := HST.out; have := HES.out; have := HS1.out; omega
      go_wp2_with fail
      go_at_call 13
      refine (HC1.out wr (Below.refl _ _)).mono ?_
      rintro r w2 ⟨rfl, hb2⟩
      have HB2 := Lib.hid hb2
      clear hb2 x0 x1 x2 c1' c2' c3'
      obtain ⟨x0, x1, x2⟩ := HXK.out w2 HB2.out
      obtain ⟨c1', c2', c3'⟩ := HCE.out w2 HB2.out
      have HBR := Lib.hid (fun (W : World) (h : Below wr.heap.size wr W) => HB.out.trans (h.mono hbw))
      have HZ2 := Lib.hid (show z + S1 = (exSizes (e.args.take (k + 1)) : Int) + 1 by have := HZ.out; have := HSN.out; have := HS1.out; omega)
      have HY2 := Lib.hid (show (y < D1 → D1 = (exDeep (e.args.take (k + 1)) : Int)) ∧ (¬ y < D1 → y = (exDeep (e.args.take (k + 1)) : Int)) by have := HY.out; have := HDN.out; have := HD1.out; omega)
      by_cases hdy : y < D1
      · have HC3 := HC2
        go_wp2_with fail
        go_at_call 14
        refine (HC2.out w2 HB2.out).mono ?_
        rintro r w3 ⟨rfl, hb3⟩
        have HB3 := Lib.hid (HB2.out.trans (hb3.mono HB2.out.size))
        clear hb3 x0 x1 x2 c1' c2' c3' HC2
        obtain ⟨x0, x1, x2⟩ := HXK.out w3 HB3.out
        obtain ⟨c1', c2', c3'⟩ := HCE.out w3 HB3.out
        go_wp2_with fail
        go_at_call 14
        refine (HC3.out w3 HB3.out).mono ?_
        rintro r w4 ⟨rfl, hb4⟩
        have HB4 := Lib.hid (HBR.out w4 (HB3.out.trans (hb4.mono HB3.out.size)))
        clear hb4 x0 x1 x2 c1' c2' c3'
        go_wp2_with fail
        go_roundw
        case rel => exact ⟨k + 1, z + S1, D1, by omega, by go_num, rfl, rfl, by omega, by omega, by omega, by omega, HZ2, Lib.hid (HY2.out.1 hdy), HB4⟩
        case measure => simp [intOf]; omega
      · go_wp2_with fail
        go_at_call 14
        refine (HC2.out w2 HB2.out).mono ?_
        rintro r w3 ⟨rfl, hb3⟩
        have HB3 := Lib.hid (HBR.out w3 (HB2.out.trans (hb3.mono HB2.out.size)))
        clear hb3 x0 x1 x2 c1' c2' c3' HC2
        go_wp2_with fail
        go_roundw
        case rel => exact ⟨k + 1, z + S1, y, by omega, by go_num, rfl, rfl, by omega, by omega, by omega, by omega, HZ2, Lib.hid (HY2.out.2 hdy), HB3⟩
        case measure => simp [intOf]; omega
    · have HTK := Lib.hid (show e.args.take k = e.args from List.take_of_length_le (by rw [← HM.out]; omega))
      have hz2 : z = (exSize e : Int) := by have := HZ.out; rw [HTK.out] at this; have := HES.out; omega
      have hy2 : y + 1 = (exDepth e : Int) := by have := HY.out; rw [HTK.out] at this; have := HDS.out; omega
      have HU := Lib.hid (fun (W : World) (h : Hid (Below wr.heap.size wr W)) => HE.out W (HB.out.trans (h.out.mono (by have := HB.out.size; simpa using this))))
      have hT1 : exTot e ≤ 1048576 := by have := HT.out; omega
      have hT2 : exSize e ≤ 1099511627776 := by omega
      have G1 := Lib.hid (fun (W : World) (h : Hid (Below wr.heap.size wr W)) => show Calls Try.prog 13 _ W (RetPost (.int .i64 z) W) by rw [hz2]; exact HO.out.size e _ bs W (HU.out W h) hT1)
      have G2 := Lib.hid (fun (W : World) (h : Hid (Below wr.heap.size wr W)) => show Calls Try.prog 14 _ W (RetPost (.int .i64 (IntKind.i64.wrap (y + 1))) W) by rw [IntWalk.i64_in _ (by omega), hy2]; exact HO.out.depth e _ bs W (HU.out W h) hT1)
      have G3 := Lib.hid (fun (W : World) (h : Hid (Below wr.heap.size wr W)) => HO.out.valid e _ bs W (HU.out W h) hT1)
      have G4 := Lib.hid (fun (W : World) (h : Hid (Below wr.heap.size wr W)) => valid_any e _ bs W (HU.out W h) hT1)
      have G5 := Lib.hid (fun (W : World) (h : Hid (Below wr.heap.size wr W)) => HO.out.vars e _ bs W (HU.out W h) hT1)
      have G6 := Lib.hid (fun (W : World) (h : Hid (Below wr.heap.size wr W)) => vars_any e _ bs W (HU.out W h) hT2)
      have G8 := Lib.hid (fun (W : World) (h : Hid (Below wr.heap.size wr W)) => HO.out.calls e _ bs W (HU.out W h) hT1)
      have G9 := Lib.hid (fun (W : World) (h : Hid (Below wr.heap.size wr W)) => calls_any (exSize e) e _ bs W (Nat.le_refl _) (HU.out W h) hT2)
      have HXL := Lib.hid (show (exVars [] e).length ≤ 140737488355328 by have := (vars_len (exSize e)).1 e [] (Nat.le_refl _); simp at this; omega)
      generalize exVars [] e = xs at *
      generalize exValid e = bv at *
      generalize (exCalls e : Int) = nc at *
      have H3 := Lib.hid (And.intro x0 (And.intro x1 x2))
      clear hz2 hy2 HTK HZ HY HU HES HDS HDL
      go_wp2_with fail
      go_region_held3 (fun X => X.cell? ⟨w1.heap.size, 0, none⟩ = some (.int .i64 e.kind) ∧ X.cell? ⟨w1.heap.size, 1, none⟩ = some (.string e.name) ∧ X.cell? ⟨w1.heap.size, 2, none⟩ = some (.slice A1 m c1) ∧ Hid (Below wr.heap.size wr X))
        (first
        | exact k3_start H3.out
        | exact k3_step H3 hb2 (by assumption)
        | exact k3_step H3 hb3 (by assumption)
        | exact k3_step H3 hb4 (by assumption)
        | exact k3_step H3 hb5 (by assumption)
        | exact k3_step H3 hb6 (by assumption)
        | exact k3_step H3 hb7 (by assumption)
        | exact k3_step H3 hb8 (by assumption)
        | exact k3_step H3 hb9 (by assumption)
        | exact k3_step H3 hb10 (by assumption))
        (first
        | (go_at_call 13; have hh := (‹_ ∧ _ ∧ _ ∧ Hid (Below wr.heap.size wr _)›).2.2.2; refine (G1.out _ hh).mono ?_; rintro r w2 ⟨rfl, hb2⟩; clear hh)
        | (go_at_call 14; have hh := (‹_ ∧ _ ∧ _ ∧ Hid (Below wr.heap.size wr _)›).2.2.2; refine (G2.out _ hh).mono ?_; rintro r w3 ⟨rfl, hb3⟩; clear hh)
        | (go_at_call 15; have hh := (‹_ ∧ _ ∧ _ ∧ Hid (Below wr.heap.size wr _)›).2.2.2; refine (G3.out _ hh).mono ?_; rintro r w4 ⟨rfl, hb4⟩; clear hh)
        | (go_at_call 16; have hh := (‹_ ∧ _ ∧ _ ∧ Hid (Below wr.heap.size wr _)›).2.2.2; refine (G4.out _ hh).mono ?_; rintro r w5 ⟨rfl, hb5⟩; clear hh)
        | (go_at_call 18; have hh := (‹_ ∧ _ ∧ _ ∧ Hid (Below wr.heap.size wr _)›).2.2.2; refine (G5.out _ hh).mono ?_; rintro r w6 ⟨_, rfl, hv6, hb6⟩; obtain ⟨A6, c6, rfl, hs6⟩ := owns_strs hv6; clear hv6; have HS6 := Lib.hid hs6; clear hs6 hh)
        | (go_at_call 19; have hh := (‹_ ∧ _ ∧ _ ∧ Hid (Below wr.heap.size wr _)›).2.2.2; refine (G6.out _ hh).mono ?_; rintro r w7 ⟨_, rfl, hv7, hb7⟩; obtain ⟨A7, c7, rfl, hs7⟩ := owns_strs hv7; clear hv7; have HS7 := Lib.hid (And.intro (HS6.out.below hb7) hs7); clear hs7 hh)
        | (go_at_call 17; refine (same_texts A6 A7 xs c6 c7 _ HS7.out.1 HS7.out.2 HXL.out).mono ?_; rintro r _ ⟨rfl, q8, rfl⟩; have hb8 := below_drewZ w7 q8)
        | (go_at_call 20; have hh := (‹_ ∧ _ ∧ _ ∧ Hid (Below wr.heap.size wr _)›).2.2.2; refine (G8.out _ hh).mono ?_; rintro r w9 ⟨rfl, hb9⟩; clear hh)
        | (go_at_call 21; have hh := (‹_ ∧ _ ∧ _ ∧ Hid (Below wr.heap.size wr _)›).2.2.2; refine (G9.out _ hh).mono ?_; rintro r w10 ⟨rfl, hb10⟩; clear hh))
      all_goals
        have hx := (‹_ ∧ _ ∧ _ ∧ Hid (Below wr.heap.size wr w10)›).2.2.2
        have HB10 := Lib.hid (((HB1.out.trans (((Below.refl w1.heap.size w1).alloc (Nat.le_refl _) _).mono HB1.out.size)).trans (HB.out.mono (Nat.le_trans HB1.out.size (Nat.le_succ _)))).trans (hx.out.mono (Nat.le_trans (Nat.le_trans HB1.out.size (Nat.le_succ _)) (by have := HB.out.size; simpa using this))))
        have HS10 := Lib.hid (bytes_goZ HS.out HB10.out)
        clear hx G1 G2 G3 G4 G5 G6 G8 G9 HXL H3 x0 x1 x2 HE HX HI HT HB HB1 hb2 hb3 hb4 hb5 hb6 hb7 hb8 hb9 hb10 HS6 HS7 hT1 hT2
        go_wp2_with fail
        go_at_call 22
        refine (draw_data A zs cap w10 HS10.out HN.out).mono ?_
        rintro r w11 ⟨_, d, ds, rfl, hid, htd, hb11⟩
        obtain ⟨_, rfl, -, Ad, cd, rfl, hcd1, hcd2, -⟩ := id hid
        have HB12 := Lib.hid ((HB10.out.trans (hb11.mono HB10.out.size)).alloc (Nat.le_trans HB10.out.size hb11.size) (.cells #[.int .i64 d.kind, .string d.name, .slice Ad d.args.length cd] 26))
        have HS12 := Lib.hid (bytes_goZ HS.out HB12.out)
        have HID := Lib.hid (hid.below ((Below.refl _ _).alloc (Nat.le_refl _) (.cells #[.int .i64 d.kind, .string d.name, .slice Ad d.args.length cd] 26)))
        have HCD := Lib.hid (C3.new w11 (.int .i64 d.kind) (.string d.name) (.slice Ad d.args.length cd))
        have HTD := Lib.hid htd
        clear hid htd hb11 HB10 HS10
        go_wp2_with fail
        go_at_call 23
        generalize w11.alloc (.cells #[.int .i64 d.kind, .string d.name, .slice Ad d.args.length cd] 26) = w12 at *
        refine (draw_equal A zs cap w12 HS12.out HN.out).mono ?_
        rintro r w13 ⟨_, ea, bsa, _, eb, bsb, rfl, hia, hib, hta, htb, hb13⟩
        obtain ⟨⟨_, rfl, -, Aa, ca, rfl, -⟩, -⟩ := id hia
        obtain ⟨⟨_, rfl, -, Ab, cb, rfl, -⟩, -⟩ := id hib
        obtain ⟨oa, hoa⟩ : ∃ oa, oa = Obj.cells #[.int .i64 ea.kind, .string ea.name, .slice Aa ea.args.length ca] 26 := ⟨_, rfl⟩
        obtain ⟨ob, hob⟩ : ∃ ob, ob = Obj.cells #[.int .i64 eb.kind, .string eb.name, .slice Ab eb.args.length cb] 26 := ⟨_, rfl⟩
        have hb15 := ((Below.refl w13.heap.size w13).alloc (Nat.le_refl _) (.cells #[.int .i64 ea.kind, .string ea.name, .slice Aa ea.args.length ca] 26)).alloc (by simp) (.cells #[.int .i64 eb.kind, .string eb.name, .slice Ab eb.args.length cb] 26)
        have HB15 := Lib.hid ((HB12.out.trans (hb13.mono HB12.out.size)).trans (hb15.mono (Nat.le_trans HB12.out.size hb13.size)))
        have H9 := Lib.hid (And.intro ((HCD.out.below hb13).below hb15) (And.intro ((C3.new w13 (.int .i64 ea.kind) (.string ea.name) (.slice Aa ea.args.length ca)).alloc (.cells #[.int .i64 eb.kind, .string eb.name, .slice Ab eb.args.length cb] 26)) (C3.new (w13.alloc (.cells #[.int .i64 ea.kind, .string ea.name, .slice Aa ea.args.length ca] 26)) (.int .i64 eb.kind) (.string eb.name) (.slice Ab eb.args.length cb))))
        have HID2 := Lib.hid ((HID.out.below hb13).below hb15)
        have HIA := Lib.hid (hia.below hb15)
        have HIB := Lib.hid (hib.below hb15)
        have HTA := Lib.hid (And.intro hta htb)
        have hsz1 : (w13.alloc (.cells #[.int .i64 ea.kind, .string ea.name, .slice Aa ea.args.length ca] 26)).heap.size = w13.heap.size + 1 := by simp
        rw [hsz1] at H9
        clear hia hib hta htb hb13 hb15 HB12 HS12 HID HCD HS HN H5 hoa hob hsz1
        obtain ⟨bd, hbd⟩ : ∃ bd, bd = exIsData d := ⟨_, rfl⟩
        have HBD := Lib.hid hbd
        clear hbd
        go_wp2_with fail
        generalize (w13.alloc (.cells #[.int .i64 ea.kind, .string ea.name, .slice Aa ea.args.length ca] 26)).alloc (.cells #[.int .i64 eb.kind, .string eb.name, .slice Ab eb.args.length cb] 26) = w15 at *
        have HDR := Lib.hid (Below.drew (Below.refl w15.heap.size w15))
        have J1 := Lib.hid (fun (W : World) (h : Hid (Below w15.heap.size w15 W)) => show Calls Try.prog 24 _ W (RetPost (.bool bd) W) by rw [HBD.out]; exact HO.out.isdata d _ ds W (HID2.out.below h.out) (by have := HTD.out; omega))
        have J2 := Lib.hid (fun (W : World) (h : Hid (Below w15.heap.size w15 W)) => show Calls Try.prog 25 _ W (RetPost (.bool bd) W) by rw [HBD.out]; exact isdata_any d _ ds W (HID2.out.below h.out) (by have := HTD.out; omega))
        have J5 := Lib.hid (fun (W : World) (h : Hid (Below w15.heap.size w15 W)) => HO.out.equal ea eb _ _ bsa bsb W (HIA.out.below h.out).1 (HIB.out.below h.out).1 (by have := HTA.out.1.1; omega) (by have := HTA.out.2; omega) HTA.out.1.2 (fun x hx o => (List.mem_append.1 hx).elim (fun h' => (HIA.out.below h.out).2 x h' o) (fun h' => (HIB.out.below h.out).2 x h' o)))
        have J6 := Lib.hid (fun (W : World) (h : Hid (Below w15.heap.size w15 W)) => equal_any (exSize ea) ea eb _ _ bsa bsb W (Nat.le_refl _) (HIA.out.below h.out).1 (HIB.out.below h.out).1)
        generalize exEq ea eb = be at *
        have h9 := H9.out
        obtain ⟨⟨x0, x1, x2⟩, ⟨y0, y1, y2⟩, ⟨z0, z1, z2⟩⟩ := h9
        cases bd
        · have J3 := Lib.hid (fun (W : World) (h : Hid (Below w15.heap.size w15 W)) => HO.out.vars d _ ds W (HID2.out.below h.out) (by have := HTD.out; omega))
          have J4 := Lib.hid (fun (W : World) (h : Hid (Below w15.heap.size w15 W)) => HO.out.calls d _ ds W (HID2.out.below h.out) (by have := HTD.out; omega))
          go_wp2_with fail
          refine wp_region_held_drew (S := (fun X => X.cell? ⟨w11.heap.size, 0, none⟩ = some (.int .i64 d.kind) ∧ X.cell? ⟨w11.heap.size, 1, none⟩ = some (.string d.name) ∧ X.cell? ⟨w11.heap.size, 2, none⟩ = some (.slice Ad d.args.length cd) ∧ X.cell? ⟨w13.heap.size, 0, none⟩ = some (.int .i64 ea.kind) ∧ X.cell? ⟨w13.heap.size, 1, none⟩ = some (.string ea.name) ∧ X.cell? ⟨w13.heap.size, 2, none⟩ = some (.slice Aa ea.args.length ca) ∧ X.cell? ⟨w13.heap.size + 1, 0, none⟩ = some (.int .i64 eb.kind) ∧ X.cell? ⟨w13.heap.size + 1, 1, none⟩ = some (.string eb.name) ∧ X.cell? ⟨w13.heap.size + 1, 2, none⟩ = some (.slice Ab eb.args.length cb) ∧ Hid (Below w15.heap.size w15 X))) (by kernel_rfl) ?_ (fun hHeld => ?_)
          · exact k9_at H9.out HDR.out
          refine wpAnyH_take (i := 0) (oi := ({ dst := some 83, op := Op.load 26 (Operand.tmp 7), type := 26, pos := "laws.go:161", after := #[], guard := none } : Oper)) (v := (.agg #[.int .i64 d.kind, .string d.name, .slice Ad d.args.length cd])) rfl (by kernel_rfl) (by kernel_rfl) (by kernel_rfl) (fun _ _ _ h => h) (Or.inl ⟨by rfl, fun w hSw => ?_⟩) hHeld ?_
          · (try dsimp only at hSw)
            go_simp
          try simp only [Act.put, List.setIfInBounds_toArray, List.set_cons_zero, List.set_cons_succ]
          refine wpAnyH_take (i := 2) (oi := ({ dst := some 85, op := Op.load 26 (Operand.tmp 7), type := 26, pos := "laws.go:161", after := #[], guard := none } : Oper)) (v := (.agg #[.int .i64 d.kind, .string d.name, .slice Ad d.args.length cd])) rfl (by kernel_rfl) (by kernel_rfl) (by kernel_rfl) (fun _ _ _ h => h) (Or.inl ⟨by rfl, fun w hSw => ?_⟩) hHeld ?_
          · (try dsimp only at hSw)
            go_simp
          try simp only [Act.put, List.setIfInBounds_toArray, List.set_cons_zero, List.set_cons_succ]
          refine wpAnyH_ready (rs := [1]) (by kernel_rfl) (by simp) ?_
          refine AllReadyH.cons (o := ({ dst := some 84, op := Op.call { callee := Callee.value (Operand.func 24), args := #[Operand.tmp 83], argTypes := #[26] }, type := 4, pos := "laws.go:161", after := #[{ on := 0, ground := Ground.data }], guard := none } : Oper)) rfl (fun K hK => ?_) AllReadyH.nil
          go_simp
          go_at_call 24
          refine (J1.out _ HDR).mono ?_
          rintro r w16 ⟨rfl, hb⟩
          have Hw16 := Lib.hid (HDR.out.trans (hb.mono HDR.out.size))
          clear hb hHeld
          refine hK.out _ _ ?_ (fun hHeld => ?_)
          · exact k9_at H9.out Hw16.out
          clear hK K
          try simp only [Act.put, List.setIfInBounds_toArray, List.set_cons_zero, List.set_cons_succ]
          refine wpAnyH_ready (rs := [3]) (by kernel_rfl) (by simp) ?_
          refine AllReadyH.cons (o := ({ dst := some 86, op := Op.call { callee := Callee.value (Operand.func 25), args := #[Operand.tmp 85], argTypes := #[26] }, type := 4, pos := "laws.go:161", after := #[{ on := 2, ground := Ground.data }, { on := 1, ground := Ground.chain }], guard := none } : Oper)) rfl (fun K hK => ?_) AllReadyH.nil
          go_simp
          go_at_call 25
          refine (J2.out _ Hw16).mono ?_
          rintro r w17 ⟨rfl, hb⟩
          have Hw17 := Lib.hid (Hw16.out.trans (hb.mono Hw16.out.size))
          clear hb hHeld
          refine hK.out _ _ ?_ (fun hHeld => ?_)
          · exact k9_at H9.out Hw17.out
          clear hK K
          try simp only [Act.put, List.setIfInBounds_toArray, List.set_cons_zero, List.set_cons_succ]
          refine wpAnyH_take (i := 4) (oi := ({ dst := some 87, op := Op.binOp BinOp.eql 4 (Operand.tmp 84) (Operand.tmp 86) 4, type := 4, pos := "laws.go:161", after := #[{ on := 1, ground := Ground.data }, { on := 3, ground := Ground.data }], guard := none } : Oper)) (v := (.bool true)) rfl (by kernel_rfl) (by kernel_rfl) (by kernel_rfl) (fun _ _ _ h => h) (Or.inl ⟨by rfl, fun w hSw => ?_⟩) hHeld ?_
          · (try dsimp only at hSw)
            go_simp
          try simp only [Act.put, List.setIfInBounds_toArray, List.set_cons_zero, List.set_cons_succ]
          refine wpAnyH_take (i := 5) (oi := ({ dst := some 88, op := Op.move (Operand.tmp 87), type := 4, pos := "laws.go:161", after := #[{ on := 4, ground := Ground.data }, { on := 3, ground := Ground.chain }], guard := none } : Oper)) (v := (.bool true)) rfl (by kernel_rfl) (by kernel_rfl) (by kernel_rfl) (fun _ _ _ h => h) (Or.inl ⟨by rfl, fun w hSw => ?_⟩) hHeld ?_
          · (try dsimp only at hSw)
            go_simp
          try simp only [Act.put, List.setIfInBounds_toArray, List.set_cons_zero, List.set_cons_succ]
          refine wpAnyH_take (i := 6) (oi := ({ dst := some 89, op := Op.load 26 (Operand.tmp 7), type := 26, pos := "laws.go:161", after := #[{ on := 5, ground := Ground.guard }], guard := some (5, true) } : Oper)) (v := (.agg #[.int .i64 d.kind, .string d.name, .slice Ad d.args.length cd])) rfl (by kernel_rfl) (by kernel_rfl) (by kernel_rfl) (fun _ _ _ h => h) (Or.inl ⟨by rfl, fun w hSw => ?_⟩) hHeld ?_
          · (try dsimp only at hSw)
            go_simp
          try simp only [Act.put, List.setIfInBounds_toArray, List.set_cons_zero, List.set_cons_succ]
          refine wpAnyH_ready (rs := [7]) (by kernel_rfl) (by simp) ?_
          refine AllReadyH.cons (o := ({ dst := some 90, op := Op.call { callee := Callee.value (Operand.func 24), args := #[Operand.tmp 89], argTypes := #[26] }, type := 4, pos := "laws.go:161", after := #[{ on := 6, ground := Ground.data }, { on := 5, ground := Ground.chain }, { on := 5, ground := Ground.guard }], guard := some (5, true) } : Oper)) rfl (fun K hK => ?_) AllReadyH.nil
          go_simp
          go_at_call 24
          refine (J1.out _ Hw17).mono ?_
          rintro r w18 ⟨rfl, hb⟩
          have Hw18 := Lib.hid (Hw17.out.trans (hb.mono Hw17.out.size))
          clear hb hHeld
          refine hK.out _ _ ?_ (fun hHeld => ?_)
          · exact k9_at H9.out Hw18.out
          clear hK K
          try simp only [Act.put, List.setIfInBounds_toArray, List.set_cons_zero, List.set_cons_succ]
          refine wpAnyH_take (i := 8) (oi := ({ dst := some 91, op := Op.unOp UnOp.not 4 (Operand.tmp 90), type := 4, pos := "laws.go:161", after := #[{ on := 7, ground := Ground.data }, { on := 5, ground := Ground.guard }], guard := some (5, true) } : Oper)) (v := (.bool true)) rfl (by kernel_rfl) (by kernel_rfl) (by kernel_rfl) (fun _ _ _ h => h) (Or.inl ⟨by rfl, fun w hSw => ?_⟩) hHeld ?_
          · (try dsimp only at hSw)
            go_simp
          try simp only [Act.put, List.setIfInBounds_toArray, List.set_cons_zero, List.set_cons_succ]
          refine wpAnyH_take (i := 9) (oi := ({ dst := some 92, op := Op.move (Operand.tmp 91), type := 4, pos := "laws.go:161", after := #[{ on := 8, ground := Ground.data }, { on := 7, ground := Ground.chain }, { on := 5, ground := Ground.guard }], guard := some (5, true) } : Oper)) (v := (.bool true)) rfl (by kernel_rfl) (by kernel_rfl) (by kernel_rfl) (fun _ _ _ h => h) (Or.inl ⟨by rfl, fun w hSw => ?_⟩) hHeld ?_
          · (try dsimp only at hSw)
            go_simp
          try simp only [Act.put, List.setIfInBounds_toArray, List.set_cons_zero, List.set_cons_succ]
          refine wpAnyH_take (i := 10) (oi := ({ dst := some 93, op := Op.load 26 (Operand.tmp 7), type := 26, pos := "laws.go:161", after := #[{ on := 9, ground := Ground.guard }], guard := some (9, false) } : Oper)) (v := undef) rfl (by kernel_rfl) (by kernel_rfl) (by kernel_rfl) (fun _ _ _ h => h) (Or.inr ⟨by rfl, rfl⟩) hHeld ?_
          try simp only [Act.put, List.setIfInBounds_toArray, List.set_cons_zero, List.set_cons_succ]
          refine wpAnyH_ready (rs := [11]) (by kernel_rfl) (by simp) ?_
          refine AllReadyH.cons (o := ({ dst := some 94, op := Op.call { callee := Callee.value (Operand.func 18), args := #[Operand.tmp 93], argTypes := #[26] }, type := 31, pos := "laws.go:161", after := #[{ on := 10, ground := Ground.data }, { on := 9, ground := Ground.chain }, { on := 9, ground := Ground.guard }], guard := some (9, false) } : Oper)) rfl (fun K hK => ?_) AllReadyH.nil
          go_simp
          refine hK.out _ _ hHeld (fun hHeld => ?_)
          clear hK K
          try simp only [Act.put, List.setIfInBounds_toArray, List.set_cons_zero, List.set_cons_succ]
          refine wpAnyH_take (i := 12) (oi := ({ dst := some 95, op := Op.call { callee := Callee.builtin Builtin.len, args := #[Operand.tmp 94], argTypes := #[31] }, type := 3, pos := "laws.go:161", after := #[{ on := 11, ground := Ground.data }, { on := 9, ground := Ground.guard }], guard := some (9, false) } : Oper)) (v := undef) rfl (by kernel_rfl) (by kernel_rfl) (by kernel_rfl) (fun _ _ _ h => h) (Or.inr ⟨by rfl, rfl⟩) hHeld ?_
          try simp only [Act.put, List.setIfInBounds_toArray, List.set_cons_zero, List.set_cons_succ]
          refine wpAnyH_take (i := 13) (oi := ({ dst := some 96, op := Op.binOp BinOp.eql 3 (Operand.tmp 95) (Operand.const (Value.int IntKind.i64 0)) 3, type := 4, pos := "laws.go:161", after := #[{ on := 12, ground := Ground.data }, { on := 9, ground := Ground.guard }], guard := some (9, false) } : Oper)) (v := undef) rfl (by kernel_rfl) (by kernel_rfl) (by kernel_rfl) (fun _ _ _ h => h) (Or.inr ⟨by rfl, rfl⟩) hHeld ?_
          try simp only [Act.put, List.setIfInBounds_toArray, List.set_cons_zero, List.set_cons_succ]
          refine wpAnyH_take (i := 14) (oi := ({ dst := some 97, op := Op.move (Operand.tmp 96), type := 4, pos := "laws.go:161", after := #[{ on := 13, ground := Ground.data }, { on := 11, ground := Ground.chain }, { on := 9, ground := Ground.guard }], guard := some (9, false) } : Oper)) (v := undef) rfl (by kernel_rfl) (by kernel_rfl) (by kernel_rfl) (fun _ _ _ h => h) (Or.inr ⟨by rfl, rfl⟩) hHeld ?_
          try simp only [Act.put, List.setIfInBounds_toArray, List.set_cons_zero, List.set_cons_succ]
          refine wpAnyH_take (i := 15) (oi := ({ dst := some 98, op := Op.load 26 (Operand.tmp 7), type := 26, pos := "laws.go:161", after := #[{ on := 14, ground := Ground.guard }], guard := some (14, true) } : Oper)) (v := undef) rfl (by kernel_rfl) (by kernel_rfl) (by kernel_rfl) (fun _ _ _ h => h) (Or.inr ⟨by rfl, rfl⟩) hHeld ?_
          try simp only [Act.put, List.setIfInBounds_toArray, List.set_cons_zero, List.set_cons_succ]
          refine wpAnyH_ready (rs := [16]) (by kernel_rfl) (by simp) ?_
          refine AllReadyH.cons (o := ({ dst := some 99, op := Op.call { callee := Callee.value (Operand.func 20), args := #[Operand.tmp 98], argTypes := #[26] }, type := 3, pos := "laws.go:161", after := #[{ on := 15, ground := Ground.data }, { on := 14, ground := Ground.chain }, { on := 14, ground := Ground.guard }], guard := some (14, true) } : Oper)) rfl (fun K hK => ?_) AllReadyH.nil
          go_simp
          refine hK.out _ _ hHeld (fun hHeld => ?_)
          clear hK K
          try simp only [Act.put, List.setIfInBounds_toArray, List.set_cons_zero, List.set_cons_succ]
          refine wpAnyH_take (i := 17) (oi := ({ dst := some 100, op := Op.binOp BinOp.eql 3 (Operand.tmp 99) (Operand.const (Value.int IntKind.i64 0)) 3, type := 4, pos := "laws.go:161", after := #[{ on := 16, ground := Ground.data }, { on := 14, ground := Ground.guard }], guard := some (14, true) } : Oper)) (v := undef) rfl (by kernel_rfl) (by kernel_rfl) (by kernel_rfl) (fun _ _ _ h => h) (Or.inr ⟨by rfl, rfl⟩) hHeld ?_
          try simp only [Act.put, List.setIfInBounds_toArray, List.set_cons_zero, List.set_cons_succ]
          refine wpAnyH_take (i := 18) (oi := ({ dst := some 101, op := Op.pick (Operand.tmp 97) (Operand.tmp 100) (Operand.const (Value.bool false)), type := 4, pos := "laws.go:161", after := #[{ on := 14, ground := Ground.data }, { on := 17, ground := Ground.data }, { on := 9, ground := Ground.guard }], guard := some (9, false) } : Oper)) (v := undef) rfl (by kernel_rfl) (by kernel_rfl) (by kernel_rfl) (fun _ _ _ h => h) (Or.inr ⟨by rfl, rfl⟩) hHeld ?_
          try simp only [Act.put, List.setIfInBounds_toArray, List.set_cons_zero, List.set_cons_succ]
          refine wpAnyH_take (i := 19) (oi := ({ dst := some 102, op := Op.pick (Operand.tmp 92) (Operand.const (Value.bool true)) (Operand.tmp 101), type := 4, pos := "laws.go:161", after := #[{ on := 9, ground := Ground.data }, { on := 18, ground := Ground.data }, { on := 5, ground := Ground.guard }], guard := some (5, true) } : Oper)) (v := (.bool true)) rfl (by kernel_rfl) (by kernel_rfl) (by kernel_rfl) (fun _ _ _ h => h) (Or.inl ⟨by rfl, fun w hSw => ?_⟩) hHeld ?_
          · (try dsimp only at hSw)
            go_simp
          try simp only [Act.put, List.setIfInBounds_toArray, List.set_cons_zero, List.set_cons_succ]
          refine wpAnyH_take (i := 20) (oi := ({ dst := some 103, op := Op.pick (Operand.tmp 88) (Operand.tmp 102) (Operand.const (Value.bool false)), type := 4, pos := "laws.go:161", after := #[{ on := 5, ground := Ground.data }, { on := 19, ground := Ground.data }], guard := none } : Oper)) (v := (.bool true)) rfl (by kernel_rfl) (by kernel_rfl) (by kernel_rfl) (fun _ _ _ h => h) (Or.inl ⟨by rfl, fun w hSw => ?_⟩) hHeld ?_
          · (try dsimp only at hSw)
            go_simp
          try simp only [Act.put, List.setIfInBounds_toArray, List.set_cons_zero, List.set_cons_succ]
          refine wpAnyH_take (i := 21) (oi := ({ dst := some 104, op := Op.move (Operand.tmp 103), type := 4, pos := "laws.go:161", after := #[{ on := 20, ground := Ground.data }, { on := 16, ground := Ground.chain }], guard := none } : Oper)) (v := (.bool true)) rfl (by kernel_rfl) (by kernel_rfl) (by kernel_rfl) (fun _ _ _ h => h) (Or.inl ⟨by rfl, fun w hSw => ?_⟩) hHeld ?_
          · (try dsimp only at hSw)
            go_simp
          try simp only [Act.put, List.setIfInBounds_toArray, List.set_cons_zero, List.set_cons_succ]
          refine wpAnyH_take (i := 22) (oi := ({ dst := some 105, op := Op.load 26 (Operand.tmp 8), type := 26, pos := "laws.go:161", after := #[{ on := 21, ground := Ground.guard }], guard := some (21, true) } : Oper)) (v := (.agg #[.int .i64 ea.kind, .string ea.name, .slice Aa ea.args.length ca])) rfl (by kernel_rfl) (by kernel_rfl) (by kernel_rfl) (fun _ _ _ h => h) (Or.inl ⟨by rfl, fun w hSw => ?_⟩) hHeld ?_
          · (try dsimp only at hSw)
            go_simp
          try simp only [Act.put, List.setIfInBounds_toArray, List.set_cons_zero, List.set_cons_succ]
          refine wpAnyH_take (i := 23) (oi := ({ dst := some 106, op := Op.load 26 (Operand.tmp 9), type := 26, pos := "laws.go:161", after := #[{ on := 21, ground := Ground.guard }], guard := some (21, true) } : Oper)) (v := (.agg #[.int .i64 eb.kind, .string eb.name, .slice Ab eb.args.length cb])) rfl (by kernel_rfl) (by kernel_rfl) (by kernel_rfl) (fun _ _ _ h => h) (Or.inl ⟨by rfl, fun w hSw => ?_⟩) hHeld ?_
          · (try dsimp only at hSw)
            go_simp
          try simp only [Act.put, List.setIfInBounds_toArray, List.set_cons_zero, List.set_cons_succ]
          refine wpAnyH_take (i := 25) (oi := ({ dst := some 108, op := Op.load 26 (Operand.tmp 8), type := 26, pos := "laws.go:161", after := #[{ on := 21, ground := Ground.guard }], guard := some (21, true) } : Oper)) (v := (.agg #[.int .i64 ea.kind, .string ea.name, .slice Aa ea.args.length ca])) rfl (by kernel_rfl) (by kernel_rfl) (by kernel_rfl) (fun _ _ _ h => h) (Or.inl ⟨by rfl, fun w hSw => ?_⟩) hHeld ?_
          · (try dsimp only at hSw)
            go_simp
          try simp only [Act.put, List.setIfInBounds_toArray, List.set_cons_zero, List.set_cons_succ]
          refine wpAnyH_take (i := 26) (oi := ({ dst := some 109, op := Op.load 26 (Operand.tmp 9), type := 26, pos := "laws.go:161", after := #[{ on := 21, ground := Ground.guard }], guard := some (21, true) } : Oper)) (v := (.agg #[.int .i64 eb.kind, .string eb.name, .slice Ab eb.args.length cb])) rfl (by kernel_rfl) (by kernel_rfl) (by kernel_rfl) (fun _ _ _ h => h) (Or.inl ⟨by rfl, fun w hSw => ?_⟩) hHeld ?_
          · (try dsimp only at hSw)
            go_simp
          try simp only [Act.put, List.setIfInBounds_toArray, List.set_cons_zero, List.set_cons_succ]
          refine wpAnyH_ready (rs := [24]) (by kernel_rfl) (by simp) ?_
          refine AllReadyH.cons (o := ({ dst := some 107, op := Op.call { callee := Callee.value (Operand.func 26), args := #[Operand.tmp 105, Operand.tmp 106], argTypes := #[26, 26] }, type := 4, pos := "laws.go:161", after := #[{ on := 22, ground := Ground.data }, { on := 23, ground := Ground.data }, { on := 21, ground := Ground.chain }, { on := 21, ground := Ground.guard }], guard := some (21, true) } : Oper)) rfl (fun K hK => ?_) AllReadyH.nil
          go_simp
          go_at_call 26
          refine (J5.out _ Hw18).mono ?_
          rintro r w19 ⟨rfl, hb⟩
          have Hw19 := Lib.hid (Hw18.out.trans (hb.mono Hw18.out.size))
          clear hb hHeld
          refine hK.out _ _ ?_ (fun hHeld => ?_)
          · exact k9_at H9.out Hw19.out
          clear hK K
          try simp only [Act.put, List.setIfInBounds_toArray, List.set_cons_zero, List.set_cons_succ]
          refine wpAnyH_ready (rs := [27]) (by kernel_rfl) (by simp) ?_
          refine AllReadyH.cons (o := ({ dst := some 110, op := Op.call { callee := Callee.value (Operand.func 27), args := #[Operand.tmp 108, Operand.tmp 109], argTypes := #[26, 26] }, type := 4, pos := "laws.go:161", after := #[{ on := 25, ground := Ground.data }, { on := 26, ground := Ground.data }, { on := 24, ground := Ground.chain }, { on := 21, ground := Ground.guard }], guard := some (21, true) } : Oper)) rfl (fun K hK => ?_) AllReadyH.nil
          go_simp
          go_at_call 27
          refine (J6.out _ Hw19).mono ?_
          rintro r w20 ⟨rfl, hb⟩
          have Hw20 := Lib.hid (Hw19.out.trans (hb.mono Hw19.out.size))
          clear hb hHeld
          refine hK.out _ _ ?_ (fun hHeld => ?_)
          · exact k9_at H9.out Hw20.out
          clear hK K
          try simp only [Act.put, List.setIfInBounds_toArray, List.set_cons_zero, List.set_cons_succ]
          refine wpAnyH_take (i := 28) (oi := ({ dst := some 111, op := Op.binOp BinOp.eql 4 (Operand.tmp 107) (Operand.tmp 110) 4, type := 4, pos := "laws.go:161", after := #[{ on := 24, ground := Ground.data }, { on := 27, ground := Ground.data }, { on := 21, ground := Ground.guard }], guard := some (21, true) } : Oper)) (v := (.bool true)) rfl (by kernel_rfl) (by kernel_rfl) (by kernel_rfl) (fun _ _ _ h => h) (Or.inl ⟨by rfl, fun w hSw => ?_⟩) hHeld ?_
          · (try dsimp only at hSw)
            go_simp
          try simp only [Act.put, List.setIfInBounds_toArray, List.set_cons_zero, List.set_cons_succ]
          refine wpAnyH_take (i := 29) (oi := ({ dst := some 112, op := Op.pick (Operand.tmp 104) (Operand.tmp 111) (Operand.const (Value.bool false)), type := 4, pos := "laws.go:161", after := #[{ on := 21, ground := Ground.data }, { on := 28, ground := Ground.data }], guard := none } : Oper)) (v := (.bool true)) rfl (by kernel_rfl) (by kernel_rfl) (by kernel_rfl) (fun _ _ _ h => h) (Or.inl ⟨by rfl, fun w hSw => ?_⟩) hHeld ?_
          · (try dsimp only at hSw)
            go_simp
          try simp only [Act.put, List.setIfInBounds_toArray, List.set_cons_zero, List.set_cons_succ]
          refine wpAnyH_ready (rs := [30]) (by kernel_rfl) (by simp) ?_
          refine AllReadyH.cons (o := ({ dst := some 2, op := Op.assign (Operand.tmp 112), type := 4, pos := "laws.go:161", after := #[{ on := 29, ground := Ground.data }, { on := 27, ground := Ground.chain }, { on := 0, ground := Ground.phase }, { on := 1, ground := Ground.phase }, { on := 2, ground := Ground.phase }, { on := 3, ground := Ground.phase }, { on := 4, ground := Ground.phase }, { on := 5, ground := Ground.phase }, { on := 6, ground := Ground.phase }, { on := 7, ground := Ground.phase }, { on := 8, ground := Ground.phase }, { on := 9, ground := Ground.phase }, { on := 10, ground := Ground.phase }, { on := 11, ground := Ground.phase }, { on := 12, ground := Ground.phase }, { on := 13, ground := Ground.phase }, { on := 14, ground := Ground.phase }, { on := 15, ground := Ground.phase }, { on := 16, ground := Ground.phase }, { on := 17, ground := Ground.phase }, { on := 18, ground := Ground.phase }, { on := 19, ground := Ground.phase }, { on := 20, ground := Ground.phase }, { on := 21, ground := Ground.phase }, { on := 22, ground := Ground.phase }, { on := 23, ground := Ground.phase }, { on := 24, ground := Ground.phase }, { on := 25, ground := Ground.phase }, { on := 26, ground := Ground.phase }, { on := 27, ground := Ground.phase }, { on := 28, ground := Ground.phase }, { on := 29, ground := Ground.phase }], guard := none } : Oper)) rfl (fun K hK => ?_) AllReadyH.nil
          go_simp
          refine hK.out _ _ hHeld (fun hHeld => ?_)
          clear hK K
          try simp only [Act.put, List.setIfInBounds_toArray, List.set_cons_zero, List.set_cons_succ]
          refine wpAnyH_done (by kernel_rfl) ?_ _
          have HF := Lib.hid (HB15.out.trans (Hw20.out.mono HB15.out.size))
          clear hHeld
          go_wp2_with fail
          go_ret
          exact ⟨by simp, HF.out⟩
        · have hno := data_no HBD.out.symm
          have J3 := Lib.hid (fun (W : World) (h : Hid (Below w15.heap.size w15 W)) => show Calls Try.prog 18 _ W (NamesPost [] W) by rw [← hno.1]; exact HO.out.vars d _ ds W (HID2.out.below h.out) (by have := HTD.out; omega))
          have J4 := Lib.hid (fun (W : World) (h : Hid (Below w15.heap.size w15 W)) => show Calls Try.prog 20 _ W (RetPost (.int .i64 0) W) by rw [show (0 : Int) = ((exCalls d : Nat) : Int) by rw [hno.2]; rfl]; exact HO.out.calls d _ ds W (HID2.out.below h.out) (by have := HTD.out; omega))
          clear hno
          go_wp2_with fail
          go_region_held3 (fun X => X.cell? ⟨w11.heap.size, 0, none⟩ = some (.int .i64 d.kind) ∧ X.cell? ⟨w11.heap.size, 1, none⟩ = some (.string d.name) ∧ X.cell? ⟨w11.heap.size, 2, none⟩ = some (.slice Ad d.args.length cd) ∧ X.cell? ⟨w13.heap.size, 0, none⟩ = some (.int .i64 ea.kind) ∧ X.cell? ⟨w13.heap.size, 1, none⟩ = some (.string ea.name) ∧ X.cell? ⟨w13.heap.size, 2, none⟩ = some (.slice Aa ea.args.length ca) ∧ X.cell? ⟨w13.heap.size + 1, 0, none⟩ = some (.int .i64 eb.kind) ∧ X.cell? ⟨w13.heap.size + 1, 1, none⟩ = some (.string eb.name) ∧ X.cell? ⟨w13.heap.size + 1, 2, none⟩ = some (.slice Ab eb.args.length cb) ∧ Hid (Below w15.heap.size w15 X))
            (first
            | exact k9_at H9.out HDR.out
            | exact k9_at H9.out (hh.out.trans (hb16.mono hh.out.size))
            | exact k9_at H9.out (hh2.out.trans (hb17.mono hh2.out.size))
            | exact k9_at H9.out (hh3.out.trans (hb18.mono hh3.out.size))
            | exact k9_at H9.out (hh4.out.trans (hb19.mono hh4.out.size))
            | exact k9_at H9.out (hh5.out.trans (hb20.mono hh5.out.size))
            | exact k9_at H9.out (hh6.out.trans (hb21.mono hh6.out.size)))
            (first
            | (go_at_call 24; have hh := (‹_ ∧ _ ∧ _ ∧ _ ∧ _ ∧ _ ∧ _ ∧ _ ∧ _ ∧ Hid (Below w15.heap.size w15 _)›).2.2.2.2.2.2.2.2.2; refine (J1.out _ hh).mono ?_; rintro r w16 ⟨rfl, hb16⟩)
            | (go_at_call 25; have hh2 := (‹_ ∧ _ ∧ _ ∧ _ ∧ _ ∧ _ ∧ _ ∧ _ ∧ _ ∧ Hid (Below w15.heap.size w15 _)›).2.2.2.2.2.2.2.2.2; refine (J2.out _ hh2).mono ?_; rintro r w17 ⟨rfl, hb17⟩)
            | (go_at_call 18; have hh3 := (‹_ ∧ _ ∧ _ ∧ _ ∧ _ ∧ _ ∧ _ ∧ _ ∧ _ ∧ Hid (Below w15.heap.size w15 _)›).2.2.2.2.2.2.2.2.2; refine (J3.out _ hh3).mono ?_; rintro r w18 ⟨_, rfl, hv18, hb18⟩; obtain ⟨A18, c18, rfl, -⟩ := owns_strs hv18; clear hv18)
            | (go_at_call 20; have hh4 := (‹_ ∧ _ ∧ _ ∧ _ ∧ _ ∧ _ ∧ _ ∧ _ ∧ _ ∧ Hid (Below w15.heap.size w15 _)›).2.2.2.2.2.2.2.2.2; refine (J4.out _ hh4).mono ?_; rintro r w19 ⟨rfl, hb19⟩)
            | (go_at_call 26; have hh5 := (‹_ ∧ _ ∧ _ ∧ _ ∧ _ ∧ _ ∧ _ ∧ _ ∧ _ ∧ Hid (Below w15.heap.size w15 _)›).2.2.2.2.2.2.2.2.2; refine (J5.out _ hh5).mono ?_; rintro r w20 ⟨rfl, hb20⟩)
            | (go_at_call 27; have hh6 := (‹_ ∧ _ ∧ _ ∧ _ ∧ _ ∧ _ ∧ _ ∧ _ ∧ _ ∧ Hid (Below w15.heap.size w15 _)›).2.2.2.2.2.2.2.2.2; refine (J6.out _ hh6).mono ?_; rintro r w21 ⟨rfl, hb21⟩))
          all_goals
            have hx := (‹_ ∧ _ ∧ _ ∧ _ ∧ _ ∧ _ ∧ _ ∧ _ ∧ _ ∧ Hid (Below w15.heap.size w15 _)›).2.2.2.2.2.2.2.2.2
            have HF := Lib.hid (HB15.out.trans (hx.out.mono HB15.out.size))
            clear hx
            go_wp2_with fail
            go_ret
            exact ⟨by simp, HF.out⟩
end Go.Proofs.Ytmndlhbgacgnlaa
