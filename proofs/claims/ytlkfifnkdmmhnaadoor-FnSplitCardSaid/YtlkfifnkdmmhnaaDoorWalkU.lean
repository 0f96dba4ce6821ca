/- The contracts of the model's SplitByte and of the program's: both give the parts of the text between the occurrences of the byte, in a row of the call's own. Conditions: the text is at most 1048576 bytes long; the library's variable MaxLen holds an int. -/
import Derived.Test.YtlkfifnkdmmhnaaDoorWalkT
import Derived.Test.YtlkfifnkdmmhnaaDoorShelfS
namespace Go.Proofs.YtlkfifnkdmmhnaaDoor
open Go Go.RowKit

theorem sizeL (s : ByteArray) : s.data.toList.length = s.size := Array.length_toList
/-- What holds before the k-th byte is looked at: the current part begins at f. -/
def SplInv (s : ByteArray) (b : UInt8) (k f : Nat) (done : List ByteArray) : Prop :=
  (k ≤ s.size → parts b [] s.data.toList = done.map (·.data.toList) ++ parts b ((s.data.toList.drop f).take (k - f)) (s.data.toList.drop k)) ∧
  (k = s.size + 1 → parts b [] s.data.toList = done.map (·.data.toList))
theorem inv_start (s : ByteArray) (b : UInt8) : SplInv s b 0 0 [] := ⟨fun _ => by simp, fun h => by omega⟩
theorem drop_byte (s : ByteArray) (k : Nat) (h : k < s.size) : s.data.toList.drop k = s[k] :: s.data.toList.drop (k + 1) := by
  rw [List.drop_eq_getElem_cons (by rw [sizeL]; exact h)]; rfl
theorem inv_hit {s : ByteArray} {b : UInt8} {k f : Nat} {done : List ByteArray} (h : SplInv s b k f done) (hk : k < s.size) (hb : s[k] = b) : SplInv s b (k + 1) (k + 1) (done ++ [s.extract f k]) := by
  refine ⟨fun _ => ?_, fun e => by omega⟩
  rw [h.1 (by omega), drop_byte s k hk, hb, parts_hit, List.map_append, List.append_assoc]
  simp
theorem inv_miss {s : ByteArray} {b : UInt8} {k f : Nat} {done : List ByteArray} (h : SplInv s b k f done) (hk : k < s.size) (hf : f ≤ k) (hb : s[k] ≠ b) : SplInv s b (k + 1) f done := by
  refine ⟨fun _ => ?_, fun e => by omega⟩
  rw [h.1 (by omega), drop_byte s k hk, parts_other b _ _ _ hb]
  congr 2
  rw [show k + 1 - f = (k - f) + 1 by omega, List.take_succ_eq_append_getElem (by rw [List.length_drop, sizeL]; omega)]
  congr 2
  rw [List.getElem_drop]
  have e : f + (k - f) = k := by omega
  have : ∀ (m : Nat) (hm : m < s.data.toList.length), m = k → s.data.toList[m] = s[k] := fun m hm e => by subst e; rfl
  exact (this _ _ e).symm
theorem inv_end {s : ByteArray} {b : UInt8} {k f : Nat} {done : List ByteArray} (h : SplInv s b k f done) (hk : k = s.size) : SplInv s b (k + 1) (k + 1) (done ++ [s.extract f k]) := by
  refine ⟨fun e => by omega, fun _ => ?_⟩
  have e : s.data.toList.drop k = [] := List.drop_eq_nil_of_le (by rw [sizeL]; omega)
  rw [h.1 (by omega), e, parts_nil, List.map_append]
  simp
theorem inv_done {s : ByteArray} {b : UInt8} {k f : Nat} {done : List ByteArray} (h : SplInv s b k f done) (hk : k = s.size + 1) : done = pieces s b := pieces_eq s b done (h.2 hk).symm

theorem Tryd.info9 : (Tryd.prog.info? 9).map (fun i => (i.zero, i.size, i.bytes)) = some (some (.string ⟨#[]⟩), 1, 16) := by kernel_rfl

theorem byte_of (x : UInt8) (c : Int) (h : ((x.toNat : Int) == c) = true) : x = UInt8.ofNat c.toNat := by
  have e : (x.toNat : Int) = c := by simpa using h
  rw [← e, Int.toNat_natCast, UInt8.ofNat_toNat]
theorem byte_not (x : UInt8) (c : Int) (h0 : 0 ≤ c) (h1 : c ≤ 255) (h : ((x.toNat : Int) == c) = false) : x ≠ UInt8.ofNat c.toNat := by
  intro e
  have h2 : x.toNat = c.toNat := by rw [e, UInt8.toNat_ofNat']; omega
  have h3 : (x.toNat : Int) = c := by omega
  simp [h3] at h

/-- A slice value that owns the strings xs. -/
def OwnsStrs (w0 w : World) (v : Value) (xs : List ByteArray) : Prop := w.ownsRow w0.heap.size 9 1 v xs.length (xs.map Value.string)
def SplitPost (s : ByteArray) (b : UInt8) (w : World) (e : Ending) (w' : World) : Prop :=
  ∃ v, e = .returned v ∧ OwnsStrs w w' v (pieces s b) ∧ Below w.heap.size w w'
theorem own_next {w0 w1 : World} {v : Value} {done : List ByteArray} {x : ByteArray} (h : w1.ownsRow w0.heap.size 9 1 v (done.length + 1) (done.map Value.string ++ [Value.string x])) : w1.ownsRow w0.heap.size 9 1 v (done ++ [x]).length ((done ++ [x]).map Value.string) := by
  rw [List.length_append, List.map_append]; exact h
theorem app_belowS {w wr w1 : World} {v : Value} {n : Nat} {l : List Value} (hb : Below w.heap.size w wr) (ho : wr.ownsRow w.heap.size 9 1 v n l) (hg : wr.grownBy w1 v.ownBlock) : Below w.heap.size w w1 :=
  hb.grown hg hb.size (fun k hk => (ho.lt k hk).1)

set_option maxHeartbeats 1000000 in
theorem spec_split (s : ByteArray) (c : Int) (hc0 : 0 ≤ c) (hc1 : c ≤ 255) (hs : s.size ≤ 1048576) (w : World) :
    Calls Tryd.prog 20 #[.string s, .int .u8 c] w (SplitPost s (UInt8.ofNat c.toNat) w) := by
  obtain ⟨i0, hi, hz0, hz1, hz2⟩ := info_parts Tryd.info9
  have HI := Lib.hid (And.intro hi (And.intro hz0 (And.intro hz1 hz2)))
  clear hi hz0 hz1 hz2
  go_enter Tryd.func20, Tryd.ntmps20
  go_wp2
  have H0 := Lib.hid (show (w.alloc (.cells #[] 9)).ownsRow w.heap.size 9 1 (.slice (some ⟨w.heap.size, 0, none⟩) 0 0) 0 [] from World.ownsRow_made w #[] 0 (Nat.le_refl _) (Nat.zero_le _) rfl)
  have HB0 := Lib.hid ((Below.refl w.heap.size w).alloc (Nat.le_refl _) (.cells #[] 9))
  have HV0 := Lib.hid (inv_start s (UInt8.ofNat c.toNat))
  have HS := Lib.hid hs
  have hs2 : (s.size : Int) ≤ 1048576 := by omega
  go_loopw [5, 6, 7] (fun v fr i wr => ∃ (k f : Nat) (done : List ByteArray), k ≤ s.size + 1 ∧ f ≤ k ∧ i = .int .i64 (k : Int) ∧ fr = .int .i64 (f : Int) ∧ Hid (SplInv s (UInt8.ofNat c.toNat) k f done) ∧ done.length ≤ k ∧ Hid (wr.ownsRow w.heap.size 9 1 v done.length (done.map Value.string)) ∧ Hid (Below w.heap.size w wr)) (fun _ _ i _ => s.size + 1 - (intOf i).toNat)
  case atStart => exact ⟨0, 0, [], Nat.zero_le _, Nat.le_refl _, rfl, rfl, HV0, Nat.zero_le _, H0, HB0⟩
  case round =>
    obtain ⟨k, f, done, hk, hf, rfl, rfl, HV, hd, HO, HB⟩ := hrel
    have C1 := Lib.hid (show done.length + 1 ≤ maxLen by unfold maxLen; omega)
    have C2 := Lib.hid (show (done.length + 1) * 16 ≤ 140737488355328 by omega)
    have C3 := Lib.hid HB.out.size
    have C4 := Lib.hid (show w.heap.size ≤ (wr.alloc (.cells #[.string (s.extract f k)] 9)).heap.size by have := HB.out.size; simp; omega)
    have HO2 := Lib.hid (HO.out.alloc (.cells #[.string (s.extract f k)] 9))
    have HB2 := Lib.hid (HB.out.alloc HB.out.size (.cells #[.string (s.extract f k)] 9))
    have HNW := Lib.hid (show ∀ j u, [Value.string (s.extract f k)][j]? = some u → (wr.alloc (.cells #[.string (s.extract f k)] 9)).cell? ((⟨wr.heap.size, 0, none⟩ : Addr).add j) = some u from fun j u hu => by
      have hj : j = 0 := by
        rcases j with _ | j
        · rfl
        · simp at hu
      subst hj
      simp at hu
      rw [← hu]; simp [go_sem])
    have H1C := Lib.hid (show ∀ u ∈ [Value.string (s.extract f k)], u.oneCell' = true from fun u hu => by rw [List.mem_singleton] at hu; rw [hu]; rfl)
    have hfk : (f : Int) ≤ (k : Int) := by omega
    have HDL := Lib.hid (show ∀ x : ByteArray, (done ++ [x]).length ≤ k + 1 from fun x => by rw [List.length_append]; simp; omega)
    have HDM := Lib.hid (show done.length ≤ k + 1 by omega)
    by_cases hlt : k < s.size
    · have hlt2 : (k : Int) < (s.size : Int) := by omega
      by_cases hb : ((s[k].toNat : Int) == c) = true
      · have HV1 := Lib.hid (inv_hit HV.out hlt (byte_of s[k] c hb))
        clear hd
        go_wp2_with (at_builtin; (refine wpList_append_own _ rfl (.tmp 26) (.tmp 31) 31 rfl w.heap.size 9 i0 (.string ⟨#[]⟩) 1 16 Tryd.underlying31 HI.out.1 HI.out.2.1 HI.out.2.2.1 HI.out.2.2.2 rfl (by decide) u5 _ _ rfl HO2.out ⟨wr.heap.size, 0, none⟩ 1 1 [.string (s.extract f k)] rfl rfl HNW.out H1C.out C1.out C2.out C4.out ?_); intro v1 w1 ho1 hg1 _; have HO3 := Lib.hid (own_next ho1); have HB3 := Lib.hid (app_belowS HB2.out HO2.out hg1); clear ho1 hg1)
        go_roundw
        case rel => exact ⟨k + 1, k + 1, _, by omega, Nat.le_refl _, by go_num, by go_num, HV1, HDL.out _, HO3, HB3⟩
        case measure => simp [intOf]; omega
      · have hb' : ((s[k].toNat : Int) == c) = false := by simpa using hb
        have HV1 := Lib.hid (inv_miss HV.out hlt hf (byte_not s[k] c hc0 hc1 hb'))
        have HB' := Lib.hid hb
        clear hd hb
        go_wp2
        go_roundw
        case rel => exact ⟨k + 1, f, done, by omega, by omega, by go_num, rfl, HV1, HDM.out, HO, HB⟩
        case measure => simp [intOf]; omega
    · by_cases hke : k = s.size
      · subst hke
        have HV1 := Lib.hid (inv_end HV.out rfl)
        clear hd
        go_wp2_with (at_builtin; (refine wpList_append_own _ rfl (.tmp 26) (.tmp 31) 31 rfl w.heap.size 9 i0 (.string ⟨#[]⟩) 1 16 Tryd.underlying31 HI.out.1 HI.out.2.1 HI.out.2.2.1 HI.out.2.2.2 rfl (by decide) u5 _ _ rfl HO2.out ⟨wr.heap.size, 0, none⟩ 1 1 [.string (s.extract f s.size)] rfl rfl HNW.out H1C.out C1.out C2.out C4.out ?_); intro v1 w1 ho1 hg1 _; have HO3 := Lib.hid (own_next ho1); have HB3 := Lib.hid (app_belowS HB2.out HO2.out hg1); clear ho1 hg1)
        go_roundw
        case rel => exact ⟨s.size + 1, s.size + 1, _, by omega, Nat.le_refl _, by go_num, by go_num, HV1, HDL.out _, HO3, HB3⟩
        case measure => simp [intOf]
      · have hlt2 : (s.size : Int) < (k : Int) := by omega
        have HE := Lib.hid (inv_done HV.out (by omega))
        go_wp2
        go_ret
        exact ⟨u5, rfl, by unfold OwnsStrs; rw [← HE.out]; exact HO.out, HB.out⟩

def MaxLenIs (w : World) : Prop := ∃ m, w.cell? ⟨4, 0, none⟩ = some (.int .i64 m)
theorem lt_of_cell {w : World} {a : Addr} {v : Value} (h : w.cell? a = some v) : a.block < w.heap.size := by
  rcases Nat.lt_or_ge a.block w.heap.size with h' | h'
  · exact h'
  · simp [World.cell?, Array.getElem?_eq_none h'] at h
theorem MaxLenIs.below {w w' : World} (h : MaxLenIs w) (hb : Below w.heap.size w w') : MaxLenIs w' := by
  obtain ⟨m, hm⟩ := h
  exact ⟨m, (hb.cell (p := ⟨4, 0, none⟩) (lt_of_cell hm)).trans hm⟩

set_option maxHeartbeats 1000000 in
theorem impl_split (s : ByteArray) (c : Int) (hs : s.size ≤ 1048576) (w : World) (hm : MaxLenIs w) :
    Calls Tryd.prog 18 #[.string s, .int .u8 c] w (SplitPost s (UInt8.ofNat c.toNat) w) := by
  have hb0 := (Below.refl w.heap.size w).alloc (Nat.le_refl _) (.cells #[.int .u8 c] 5)
  obtain ⟨m, hm1⟩ := hm.below hb0
  have HA := Lib.hid (Tryd.strings_Split s ⟨#[UInt8.ofNat c.toNat]⟩ m (w.alloc (.cells #[.int .u8 c] 5)) (by omega) hm1 (Nat.le_refl 1))
  have HB := Lib.hid hb0
  have HP := Lib.hid (splitB_pieces s (UInt8.ofNat c.toNat))
  have HL := Lib.hid (pieces_length s (UInt8.ofNat c.toNat))
  have HLE := Lib.hid (pieces_le s (UInt8.ofNat c.toNat))
  have kc := fun (W : World) (v : Int) => conv_one W v
  have HS := Lib.hid hs
  clear hb0 hm1 hm hs
  go_enter Tryd.func18, Tryd.ntmps18
  go_wp2_with (go_at_call 35; refine HA.out.mono ?_; rintro e w1 ⟨rfl, rfl⟩)
  go_ret
  refine ⟨.slice (some ⟨(w.alloc (.cells #[.int .u8 c] 5)).heap.size, 0, none⟩) (Lib.countB s ⟨#[UInt8.ofNat c.toNat]⟩ + 1) (Lib.countB s ⟨#[UInt8.ofNat c.toNat]⟩ + 1), by simp, ?_, (HB.out.alloc (by simp) _)⟩
  have h := World.ownsRow_lit (base := w.heap.size) (e := 9) (size := 1) (w.alloc (.cells #[.int .u8 c] 5)) ((pieces s (UInt8.ofNat c.toNat)).map Value.string).toArray (pieces s (UInt8.ofNat c.toNat)).length (by simp) (by have := HLE.out; have := HS.out; unfold maxLen; omega) (by simp)
  unfold OwnsStrs
  rw [HP.out, ← HL.out]
  exact h

theorem own_shape {w0 w : World} {v : Value} {s : ByteArray} {b : UInt8} (h : OwnsStrs w0 w v (pieces s b)) :
    ∃ g cap, v = .slice (some ⟨g, 0, none⟩) (pieces s b).length cap ∧ w0.heap.size ≤ g ∧ g < w.heap.size ∧ Strs w (some ⟨g, 0, none⟩) (pieces s b) := by
  rcases h.2 with ⟨rfl, h0⟩ | ⟨g, cap, cur, rfl, hb, -⟩
  · have := pieces_length s b; omega
  · have hl := h.lt g rfl
    exact ⟨g, cap, rfl, hb, hl.2, fun i x hx => ⟨_, rfl, h.cells (g := g) rfl i _ (by rw [List.getElem?_map, hx]; rfl), hl.2⟩⟩
end Go.Proofs.YtlkfifnkdmmhnaaDoor
