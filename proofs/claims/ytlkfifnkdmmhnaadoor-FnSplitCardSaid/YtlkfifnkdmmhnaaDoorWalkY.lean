/- The law FnSplit as a walk: joining the parts at the separator restores the text, and no part contains it. Condition: the library's variable MaxLen holds an int. -/
import Derived.Test.YtlkfifnkdmmhnaaDoorWalkV
import Derived.Test.YtlkfifnkdmmhnaaDoorDrawB
import Derived.Test.YtlkfifnkdmmhnaaDoorShelfJ
import Derived.Lib.Join
namespace Go.Proofs.YtlkfifnkdmmhnaaDoor
open Go Go.RowKit

theorem tail_cons (sep y : List UInt8) (r : List (List UInt8)) : Lib.joinTail sep (y :: r) = sep ++ Lib.join (y :: r) sep := by
  rw [Lib.join_cons]
  simp [Lib.joinTail, List.append_assoc]
theorem join_parts (b : UInt8) : ∀ (l acc : List UInt8), Lib.join (parts b acc l) [b] = acc ++ l := by
  intro l
  induction l with
  | nil => intro acc; rw [parts_nil, Lib.join_one, List.append_nil]
  | cons c r ih =>
    intro acc
    by_cases h : c = b
    · subst h
      rw [parts_hit, Lib.join_cons]
      cases hp : parts c [] r with
      | nil => exact absurd hp (parts_ne c r [])
      | cons y r' =>
        rw [tail_cons, ← hp, ih []]
        rfl
    · rw [parts_other b c acc r h, ih, List.append_assoc]; rfl
theorem parts_free (b : UInt8) : ∀ (l acc : List UInt8), b ∉ acc → ∀ x ∈ parts b acc l, b ∉ x := by
  intro l
  induction l with
  | nil => intro acc h x hx; rw [parts_nil, List.mem_singleton] at hx; rw [hx]; exact h
  | cons c r ih =>
    intro acc h x hx
    by_cases hc : c = b
    · subst hc
      rw [parts_hit] at hx
      rcases List.mem_cons.1 hx with rfl | hx
      · exact h
      · exact ih [] (by simp) x hx
    · rw [parts_other b c acc r hc] at hx
      exact ih _ (by rw [List.mem_append, List.mem_singleton]; intro e; rcases e with e | e; exact h e; exact hc e.symm) x hx
theorem parts_single (b : UInt8) : ∀ (l acc : List UInt8), b ∉ l → parts b acc l = [acc ++ l] := by
  intro l
  induction l with
  | nil => intro acc _; simp [parts]
  | cons c r ih =>
    intro acc h
    have hc : c ≠ b := fun e => h (by rw [e]; exact List.mem_cons_self)
    rw [parts_other b c acc r hc, ih _ (fun e => h (List.mem_cons_of_mem _ e)), List.append_assoc]
    rfl
theorem lists_pieces (s : ByteArray) (b : UInt8) : (pieces s b).map (·.data.toList) = parts b [] s.data.toList := by
  unfold pieces
  rw [List.map_map]
  conv => rhs; rw [← List.map_id (parts b [] s.data.toList)]
  exact List.map_congr_left fun l _ => by simp
theorem piece_single (s : ByteArray) (b : UInt8) (x : ByteArray) (hx : x ∈ pieces s b) : (pieces x b).length = 1 := by
  have h1 : x.data.toList ∈ parts b [] s.data.toList := by rw [← lists_pieces]; exact List.mem_map.2 ⟨x, hx, rfl⟩
  have h2 := parts_free b s.data.toList [] (by simp) _ h1
  unfold pieces
  rw [parts_single b _ [] h2]; rfl
theorem parts_len (b : UInt8) : ∀ (l acc : List UInt8), ∀ x ∈ parts b acc l, x.length ≤ acc.length + l.length := by
  intro l
  induction l with
  | nil => intro acc x hx; rw [parts_nil, List.mem_singleton] at hx; rw [hx]; simp
  | cons c r ih =>
    intro acc x hx
    by_cases hc : c = b
    · subst hc
      rw [parts_hit] at hx
      rcases List.mem_cons.1 hx with rfl | hx
      · omega
      · have := ih [] x hx; simp only [List.length_nil, List.length_cons] at this ⊢; omega
    · rw [parts_other b c acc r hc] at hx
      have := ih _ x hx
      simp only [List.length_append, List.length_cons, List.length_nil] at this ⊢; omega
theorem piece_size (s : ByteArray) (b : UInt8) (x : ByteArray) (hx : x ∈ pieces s b) : x.size ≤ s.size := by
  have h1 : x.data.toList ∈ parts b [] s.data.toList := by rw [← lists_pieces]; exact List.mem_map.2 ⟨x, hx, rfl⟩
  have h2 := parts_len b s.data.toList [] _ h1
  rw [sizeL, sizeL] at h2
  simpa using h2

theorem own_shape2 {w0 w : World} {v : Value} {s : ByteArray} {b : UInt8} (h : OwnsStrs w0 w v (pieces s b)) :
    ∃ g cap, v = .slice (some ⟨g, 0, none⟩) (pieces s b).length cap ∧ (pieces s b).length ≤ cap ∧ g < w.heap.size ∧ Strs w (some ⟨g, 0, none⟩) (pieces s b) := by
  rcases h.2 with ⟨rfl, h0⟩ | ⟨g, cap, cur, rfl, hb, _, hcap, -⟩
  · have := pieces_length s b; omega
  · have hl := h.lt g rfl
    exact ⟨g, cap, rfl, hcap, hl.2, fun i x hx => ⟨_, rfl, h.cells (g := g) rfl i _ (by rw [List.getElem?_map, hx]; rfl), hl.2⟩⟩

set_option maxHeartbeats 400000 in
theorem join_pieces (g c : Nat) (s : ByteArray) (b : UInt8) (w : World) (hs : Strs w (some ⟨g, 0, none⟩) (pieces s b)) (hg : g < w.heap.size) (hc : (pieces s b).length ≤ c) (hsz : s.size ≤ 100) :
    Calls Tryd.prog 19 #[.slice (some ⟨g, 0, none⟩) (pieces s b).length c, .string ⟨#[b]⟩] w fun e w' => e = .returned (.string s) ∧ Below w.heap.size w w' := by
  have hj : Lib.join ((pieces s b).map (·.data.toList)) (⟨#[b]⟩ : ByteArray).data.toList = s.data.toList := by
    rw [lists_pieces]; exact join_parts b s.data.toList []
  have hl : s.data.toList.length ≤ 140737488355328 := by rw [sizeL]; omega
  have hle := pieces_le s b
  have hA := Tryd.strings_Join g 0 c (pieces s b) ⟨#[b]⟩ w (fun j x hx => by
    obtain ⟨a, e, hcell, -⟩ := hs j x hx
    obtain rfl := Option.some.inj e
    rw [add_litS] at hcell
    exact hcell) hg (by omega) hc (by rw [hj]; exact hl)
  rw [hj, bytes_of] at hA
  have HA := Lib.hid hA
  clear hA hs hg hc hsz hj hl hle
  go_enter Tryd.func19, Tryd.ntmps19
  go_wp2_with fail
  go_at_call 36
  refine HA.out.mono ?_
  rintro e w' ⟨rfl, hb⟩
  go_wp2
  go_ret
  exact ⟨rfl, hb⟩

set_option maxHeartbeats 400000 in
theorem big_yes (A : Option Addr) (n cap : Nat) (w : World) (hn : 1048576 < (n : Int)) (_hm : (n : Int) ≤ 9223372036854775807) :
    Calls Tryd.prog 9 #[.slice A n cap] w fun e w' => e = .returned (.bool true) ∧ w = w' := by
  go_enter Tryd.func9, Tryd.ntmps9
  go_wp2
  go_ret
  exact ⟨by simp, rfl⟩
set_option maxHeartbeats 400000 in
theorem big_no (A : Option Addr) (n cap : Nat) (w : World) (hn : (n : Int) ≤ 1048576) :
    Calls Tryd.prog 9 #[.slice A n cap] w fun e w' => e = .returned (.bool false) ∧ w = w' := by
  go_enter Tryd.func9, Tryd.ntmps9
  go_wp2
  go_ret
  exact ⟨by simp; omega, rfl⟩

set_option maxHeartbeats 400000 in
theorem split_long (A : Option Addr) (n cap : Nat) (w : World) (hn : 1048576 < (n : Int)) (hm : (n : Int) ≤ 9223372036854775807) :
    Calls Tryd.prog 4 #[.slice A n cap] w (TrueEndS w) := by
  have HA := Lib.hid (big_yes A n cap w hn hm)
  clear hn hm
  go_enter Tryd.func4, Tryd.ntmps4
  go_wp2_with (go_at_call 9; refine HA.out.mono ?_; rintro e w' ⟨rfl, rfl⟩)
  go_ret
  exact ⟨rfl, Below.refl _ _⟩

set_option maxHeartbeats 2000000 in
theorem split_short (A : Option Addr) (zs : List Int) (cap : Nat) (w : World) (hs : Bytes w w.heap.size A zs) (hn : zs.length ≤ 1048576) (hm : MaxLenIs w) :
    Calls Tryd.prog 4 #[.slice A zs.length cap] w (TrueEndS w) := by
  have HA := Lib.hid (big_no A zs.length cap w (by omega))
  have HD := Lib.hid (draw_split A zs cap w hs hn)
  have HMX := Lib.hid hm
  clear hs hn hm
  go_enter Tryd.func4, Tryd.ntmps4
  go_wp2_with (go_at_call 9; refine HA.out.mono ?_; rintro e w' ⟨rfl, rfl⟩)
  go_at_call 17
  refine HD.out.mono ?_
  rintro e w1 ⟨s, c, hsz, hc0, hc1, rfl, hb1⟩
  have HI := Lib.hid (fun (x : ByteArray) (hx : x.size ≤ 100) (W : World) (hb : Below w.heap.size w W) => impl_split x c (by omega) W (HMX.out.below hb))
  have HSP := Lib.hid (fun (W : World) => spec_split s c hc0 hc1 (by omega) W)
  have HSZ := Lib.hid hsz
  have HB1 := Lib.hid hb1
  clear hsz hb1 hc0 hc1
  go_wp2_with fail
  go_at_call 18
  refine (HI.out s HSZ.out _ HB1.out).mono ?_
  rintro e w2 ⟨v1, rfl, ho1, hb2⟩
  obtain ⟨g1, cap1, rfl, hcap, hl1, hs1⟩ := own_shape2 ho1
  have HB2 := Lib.hid (below_go HB1.out hb2 HB1.out.size)
  clear ho1 hb2
  have hl1a : g1 < (w2.alloc (.cells #[.int .u8 c] 5)).heap.size := by simp; omega
  have hb2a := (Below.refl w2.heap.size w2).alloc (Nat.le_refl _) (.cells #[.int .u8 c] 5)
  have HJ := Lib.hid (join_pieces g1 cap1 s (UInt8.ofNat c.toNat) (w2.alloc (.cells #[.int .u8 c] 5)) (hs1.below hb2a) hl1a hcap HSZ.out)
  have HS2 := Lib.hid (hs1.below hb2a)
  have HB2a := Lib.hid (below_go HB2.out hb2a HB2.out.size)
  have hle := pieces_le s (UInt8.ofNat c.toNat)
  obtain ⟨n, hn⟩ : ∃ n, n = (pieces s (UInt8.ofNat c.toNat)).length := ⟨_, rfl⟩
  have hn1 : n ≤ 101 := by have := HSZ.out; omega
  have HN := Lib.hid hn
  rw [← hn] at HJ
  rw [← hn]
  clear hl1a hb2a hs1 hcap hl1 hle hn
  have kc := fun (W : World) (v : Int) => conv_one W v
  go_wp2_with fail
  go_at_call 19
  refine HJ.out.mono ?_
  rintro e w3 ⟨rfl, hb3⟩
  have HB3 := Lib.hid (below_go HB2a.out hb3 HB2a.out.size)
  have HS3 := Lib.hid (HS2.out.below hb3)
  clear hb3 HJ
  go_wp2_with fail
  go_at_call 20
  refine (HSP.out w3).mono ?_
  rintro e w4 ⟨v2, rfl, ho2, hb4⟩
  obtain ⟨g2, cap2, rfl, -, -, -⟩ := own_shape2 ho2
  have HB4 := Lib.hid (below_go HB3.out hb4 HB3.out.size)
  have HS4 := Lib.hid (HS3.out.below hb4)
  rw [← HN.out]
  clear hb4 ho2
  go_wp2_with fail
  go_loopw [6] (fun i wr => ∃ (k : Nat), k ≤ n ∧ i = .int .i64 (k : Int) ∧ Hid (Below w.heap.size w wr) ∧ Hid (Strs wr (some ⟨g1, 0, none⟩) (pieces s (UInt8.ofNat c.toNat)))) (fun i _ => n - (intOf i).toNat)
  case atStart => exact ⟨0, Nat.zero_le _, rfl, HB4, HS4⟩
  case round =>
    obtain ⟨k, hk, rfl, HB, HS⟩ := hrel
    by_cases hlt : k < n
    · obtain ⟨a, x, ha, hcell, hmem, -, -, -⟩ := HS.out.get k (by rw [← HN.out]; exact hlt)
      obtain rfl := Option.some.inj ha
      rw [add_litS, Nat.zero_add] at hcell
      have hxs : x.size ≤ 100 := Nat.le_trans (piece_size s _ x hmem) HSZ.out
      have HX := Lib.hid (HI.out x hxs wr HB.out)
      have H1 := Lib.hid (piece_single s _ x hmem)
      clear ha hmem hxs
      go_wp2_with fail
      go_at_call 18
      refine HX.out.mono ?_
      rintro e w5 ⟨v3, rfl, ho3, hb5⟩
      obtain ⟨g3, cap3, rfl, -, -, -⟩ := own_shape2 ho3
      have HB5 := Lib.hid (below_go HB.out hb5 HB.out.size)
      have HS5 := Lib.hid (HS.out.below hb5)
      rw [H1.out]
      clear ho3 hb5
      go_wp2
      go_roundw
      case rel => exact ⟨k + 1, by omega, by go_num, HB5, HS5⟩
      case measure => simp [intOf]; omega
    · go_wp2
      go_ret
      exact ⟨rfl, HB.out⟩
end Go.Proofs.YtlkfifnkdmmhnaaDoor
