/- A part of the proof of the seat's statement: RuCon. Condition: as each says. -/
import Derived.Test.YtiaknfnhmoinpaaGreatAppStrs
import Derived.Test.YtiaknfnhmoinpaaGreatSpecJoin
set_option maxHeartbeats 8000000
namespace Go.Proofs.YtiaknfnhmoinpaaGreat
open Go Go.RowKit
mutual
def conE (c : ByteArray) : Ex → Int
 | .mk k s l => if k = 2 ∧ s = c then (l.length : Int) else conL c l
def conL (c : ByteArray) : List Ex → Int
 | [] => -1
 | e :: r => if 0 ≤ conE c e then conE c e else conL c r
end
def conR (c : ByteArray) : List Ru → Int
 | [] => -1
 | r :: t => if r.con = c ∧ c.size ≠ 0 then (r.vars.length : Int) else if 0 ≤ conE c r.body then conE c r.body else conR c t
theorem conL_le (c : ByteArray) (n : Nat) : (∀ e : Ex, exSize e ≤ n → -1 ≤ conE c e ∧ conE c e ≤ (exSize e : Int)) ∧ (∀ l : List Ex, exSizes l ≤ n → -1 ≤ conL c l ∧ conL c l ≤ (exSizes l : Int)) := by
 induction n with
 | zero =>
  refine ⟨fun e h => by have := exSize_pos e; omega, fun l h => ?_⟩
  cases l with
  | nil => rw [conL]; simp [exSizes]
  | cons e r => rw [exSizes] at h; have := exSize_pos e; omega
 | succ n ih =>
  have hE : ∀ e : Ex, exSize e ≤ n + 1 → -1 ≤ conE c e ∧ conE c e ≤ (exSize e : Int) := by
   intro e h
   cases e with
   | mk k s l =>
    rw [exSize] at h
    have h1 := ih.2 l (by omega)
    have h2 := sizes_len l
    rw [conE, exSize]
    split <;> (push_cast; omega)
  refine ⟨hE, ?_⟩
  intro l
  induction l with
  | nil => intro _; rw [conL]; simp [exSizes]
  | cons e r ihl =>
   intro h
   rw [exSizes] at h
   have h1 := hE e (by omega)
   have h2 := ihl (by omega)
   rw [conL, exSizes]
   split <;> (push_cast; omega)
theorem conE_le (c : ByteArray) (e : Ex) : -1 ≤ conE c e ∧ conE c e ≤ (exSize e : Int) := (conL_le c _).1 e (nR _)
theorem conL_here {c : ByteArray} {l : List Ex} {k : Nat} {e : Ex} (h : l[k]? = some e) : conL c (l.drop k) = if 0 ≤ conE c e then conE c e else conL c (l.drop (k + 1)) := by
 obtain ⟨h1, h2⟩ := List.getElem?_eq_some_iff.1 h
 rw [List.drop_eq_getElem_cons h1, h2, conL]
theorem conR_here {c : ByteArray} {l : List Ru} {k : Nat} {r : Ru} (h : l[k]? = some r) : conR c (l.drop k) = if r.con = c ∧ c.size ≠ 0 then (r.vars.length : Int) else if 0 ≤ conE c r.body then conE c r.body else conR c (l.drop (k + 1)) := by
 obtain ⟨h1, h2⟩ := List.getElem?_eq_some_iff.1 h
 rw [List.drop_eq_getElem_cons h1, h2, conR]
theorem con_ex (c : ByteArray) (n : Nat) : ∀ (e : Ex) (v : Value) (bs : List Nat) (w : World), exSize e ≤ n → ExIs w v e bs → exSize e ≤ 1099511627776 →
 Calls Tryz.prog 41 #[v, .string c] w (RetPost (.int .i64 (conE c e)) w) := by
 induction n with
 | zero => intro e v bs w h; have := exSize_pos e; omega
 | succ n ih =>
  intro e v bs w hle hv hb
  obtain ⟨u, rfl, hsz, hu⟩ := hv
  obtain ⟨A, q, rfl, hc1, hc2, -⟩ := id hu
  cases e with
  | mk K S L =>
  simp only [Ex.kind, Ex.name, Ex.args] at *
  have HE0 := zH (show conE c (.mk K S L) = if K = 2 ∧ S = c then (L.length : Int) else conL c L by rw [conE])
  rw [exSize] at hle hb
  have hll := sizes_len L
  obtain ⟨m, hm⟩ : ∃ m, m = L.length := ⟨_, rfl⟩
  have HU := zH hu
  rw [← hm] at hc1 HE0 HU hll ⊢
  have HM := zH hm
  have HN := zH hle
  have HIH := zH ih
  have HBD := zH hb
  have HB0 := zH ((wB w.heap.size w).alloc (nR _) (.cells #[.int .i64 K, .string S, .slice A m q] 32))
  have HBX := zH (box_cells2 w K S (.slice A m q))
  clear hu hm ih hle
  by_cases hk2 : K = 2 ∧ S = c
  · have HE := zH (show conE c (.mk K S L) = (m : Int) by rw [HE0.out, if_pos hk2])
    have hbe := beq_yes hk2.2
    obtain ⟨rfl, -⟩ := hk2
    go_enter Tryz.func41, Tryz.ntmps41
    go_wp2_with fail
    go_ret
    exact ⟨by rw [HE.out]; rfl, HB0.out⟩
  have HE := zH (show conE c (.mk K S L) = conL c (L.drop 0) by rw [HE0.out, if_neg hk2]; rfl)
  have hmm : m ≤ 1099511627776 := by omega
  have key : ∀ (Q : Prop), (K = 2 → (S.toList == c.toList) = false → Q) → ((K == 2) = false → Q) → Q := fun Q h1 h2 => by
   by_cases hK : K = 2
   · exact h1 hK (beq_no (fun hh => hk2 ⟨hK, hh⟩))
   exact h2 (by simpa using hK)
  clear hk2 hb hll
  refine key _ (fun hK hbe => ?_) (fun hK => ?_)
  · clear key
    subst hK
    go_enter Tryz.func41, Tryz.ntmps41
    go_wp2_with fail
    go_loopw [5] (fun i wr => ∃ (k : Nat), k ≤ m ∧ i = .int .i64 (k : Int) ∧ Hid (conE c (.mk 2 S L) = conL c (L.drop k)) ∧ Hid (Below (w.alloc (.cells #[.int .i64 2, .string S, .slice A m q] 32)).heap.size (w.alloc (.cells #[.int .i64 2, .string S, .slice A m q] 32)) wr)) (fun i _ => m - (intOf i).toNat)
    case atStart => exact ⟨0, Nat.zero_le _, rfl, HE, zH (wB _ _)⟩
    case round =>
     obtain ⟨k, hk, rfl, HK, HB⟩ := hrel
     obtain ⟨x0, x1, x2⟩ := HBX.out wr HB.out
     have HL := zH (HB0.out.trans (HB.out.mono HB0.out.size))
     by_cases hlt : k < m
     · obtain ⟨g, o, e1, u, b1, rfl, hbl, hget, hmem, c0, c1, c2, his, -⟩ := (HU.out.below HL.out).get k (by rw [← HM.out]; exact hlt)
       have hsm := exSizes_mem hmem
       have HCALL := zH (HIH.out e1 _ b1 wr (by have := HN.out; omega) his (by have := HBD.out; omega))
       have HG := zH (conL_here (c := c) hget)
       have hcb := conE_le c e1
       have hcs : (exSize e1 : Int) ≤ 1099511627776 := by have := HBD.out; omega
       clear his hget hmem hsm
       generalize conE c e1 = z at *
       by_cases hz : 0 ≤ z
       · have HE2 := zH (show conE c (.mk 2 S L) = z by rw [HK.out, HG.out, if_pos hz])
         go_wp2_with (go_at_call 41; refine HCALL.out.mono ?_; rintro r w1 ⟨rfl, hb1⟩; have HB1 := zH (HB.out.trans (hb1.mono HB.out.size)); clear hb1)
         go_ret
         exact ⟨by rw [HE2.out]; rfl, HB0.out.trans (HB1.out.mono HB0.out.size)⟩
       have HE2 := zH (show conE c (.mk 2 S L) = conL c (L.drop (k + 1)) by rw [HK.out, HG.out, if_neg hz])
       go_wp2_with (go_at_call 41; refine HCALL.out.mono ?_; rintro r w1 ⟨rfl, hb1⟩; have HB1 := zH (HB.out.trans (hb1.mono HB.out.size)); clear hb1)
       go_roundw
       case rel => exact ⟨k + 1, by omega, by go_num, HE2, HB1⟩
       case measure => simp [intOf]; omega
     have HE2 := zH (show conE c (.mk 2 S L) = -1 by rw [HK.out, List.drop_eq_nil_of_le (by rw [← HM.out]; omega)]; rfl)
     go_wp2_with fail
     go_ret
     exact ⟨by rw [HE2.out]; rfl, HL.out⟩
  clear key
  go_enter Tryz.func41, Tryz.ntmps41
  go_wp2_with fail
  go_loopw [5] (fun i wr => ∃ (k : Nat), k ≤ m ∧ i = .int .i64 (k : Int) ∧ Hid (conE c (.mk K S L) = conL c (L.drop k)) ∧ Hid (Below (w.alloc (.cells #[.int .i64 K, .string S, .slice A m q] 32)).heap.size (w.alloc (.cells #[.int .i64 K, .string S, .slice A m q] 32)) wr)) (fun i _ => m - (intOf i).toNat)
  case atStart => exact ⟨0, Nat.zero_le _, rfl, HE, zH (wB _ _)⟩
  case round =>
   obtain ⟨k, hk, rfl, HK, HB⟩ := hrel
   obtain ⟨x0, x1, x2⟩ := HBX.out wr HB.out
   have HL := zH (HB0.out.trans (HB.out.mono HB0.out.size))
   by_cases hlt : k < m
   · obtain ⟨g, o, e1, u, b1, rfl, hbl, hget, hmem, c0, c1, c2, his, -⟩ := (HU.out.below HL.out).get k (by rw [← HM.out]; exact hlt)
     have hsm := exSizes_mem hmem
     have HCALL := zH (HIH.out e1 _ b1 wr (by have := HN.out; omega) his (by have := HBD.out; omega))
     have HG := zH (conL_here (c := c) hget)
     have hcb := conE_le c e1
     have hcs : (exSize e1 : Int) ≤ 1099511627776 := by have := HBD.out; omega
     clear his hget hmem hsm
     generalize conE c e1 = z at *
     by_cases hz : 0 ≤ z
     · have HE2 := zH (show conE c (.mk K S L) = z by rw [HK.out, HG.out, if_pos hz])
       go_wp2_with (go_at_call 41; refine HCALL.out.mono ?_; rintro r w1 ⟨rfl, hb1⟩; have HB1 := zH (HB.out.trans (hb1.mono HB.out.size)); clear hb1)
       go_ret
       exact ⟨by rw [HE2.out]; rfl, HB0.out.trans (HB1.out.mono HB0.out.size)⟩
     have HE2 := zH (show conE c (.mk K S L) = conL c (L.drop (k + 1)) by rw [HK.out, HG.out, if_neg hz])
     go_wp2_with (go_at_call 41; refine HCALL.out.mono ?_; rintro r w1 ⟨rfl, hb1⟩; have HB1 := zH (HB.out.trans (hb1.mono HB.out.size)); clear hb1)
     go_roundw
     case rel => exact ⟨k + 1, by omega, by go_num, HE2, HB1⟩
     case measure => simp [intOf]; omega
   have HE2 := zH (show conE c (.mk K S L) = -1 by rw [HK.out, List.drop_eq_nil_of_le (by rw [← HM.out]; omega)]; rfl)
   go_wp2_with fail
   go_ret
   exact ⟨by rw [HE2.out]; rfl, HL.out⟩
set_option maxRecDepth 100000 in
theorem conr_any (l : List Ru) (v : Value) (bs : List Nat) (c : ByteArray) (w : World) (hv : PrIs w v l bs) (hn : rusTot l ≤ 1048576) :
 Calls Tryz.prog 16 #[v, .string c] w (RetPost (.int .i64 (conR c l)) w) := by
 have hll := rusTot_ge l
 obtain ⟨u, rfl, hu⟩ := hv
 obtain ⟨A, q, rfl, hc1, hc2, -⟩ := id hu
 obtain ⟨m, hm⟩ : ∃ m, m = l.length := ⟨_, rfl⟩
 have HU := zH hu
 rw [← hm] at hc1 HU hll ⊢
 have HM := zH hm
 have HB0 := zH ((wB w.heap.size w).alloc (nR _) (.cells #[.slice A m q] 26))
 have HBX := zH (fun (W : World) (h : Below (w.alloc (.cells #[.slice A m q] 26)).heap.size (w.alloc (.cells #[.slice A m q] 26)) W) => pbox h)
 have HE := zH (show conR c l = conR c (l.drop 0) from rfl)
 have HS := zH hn
 clear hu hm
 go_enter Tryz.func16, Tryz.ntmps16
 go_wp2_with fail
 go_loopw [5] (fun i wr => ∃ (k : Nat), k ≤ m ∧ i = .int .i64 (k : Int) ∧ Hid (conR c l = conR c (l.drop k)) ∧ Hid (Below (w.alloc (.cells #[.slice A m q] 26)).heap.size (w.alloc (.cells #[.slice A m q] 26)) wr)) (fun i _ => m - (intOf i).toNat)
 case atStart => exact ⟨0, Nat.zero_le _, rfl, HE, zH (wB _ _)⟩
 case round =>
  obtain ⟨k, hk, rfl, HK, HB⟩ := hrel
  have x0 := HBX.out wr HB.out
  have HL := zH (HB0.out.trans (HB.out.mono HB0.out.size))
  by_cases hlt : k < m
  · obtain ⟨g, o, r, v1, v2, u, b1, hA⟩ := (HU.out.below HL.out).get k (by rw [← HM.out]; exact hlt)
    obtain rfl := hA.eq
    have hsm := rusTot_mem hA.mem
    obtain ⟨d1, d2, d3, -, -, -, hv1, -, hbd⟩ := hA.is.parts
    obtain ⟨A1, k1, rfl⟩ := hv1.slice
    have hes : exSize r.body ≤ 1048577 := by have := (tot_size (exSize r.body)).1 r.body (nR _); unfold ruTot at hsm; omega
    have HCALL := zH (con_ex c (exSize r.body) r.body _ d3 wr (nR _) hbd (by omega))
    have HG := zH (conR_here (c := c) hA.get)
    have hcb := conE_le c r.body
    have hcs : (exSize r.body : Int) ≤ 1048577 := by omega
    obtain ⟨c0, c1, c2, c3, c4, c5, c6⟩ := hA.cells
    have hvl : r.vars.length ≤ 1048576 := by unfold ruTot ssTot at hsm; omega
    have hce := empty_str c
    clear hA hsm hv1 hbd hes
    generalize conE c r.body = z at *
    by_cases hx : r.con = c
    · have hbe := beq_yes hx
      by_cases hy : c.size = 0
      · have hyy := fun hh : r.con = c ∧ c.size ≠ 0 => hh.2 hy
        rw [decide_eq_true hy] at hce
        by_cases hz : 0 ≤ z
        · have HE2 := zH (show conR c l = z by rw [HK.out, HG.out, if_neg hyy, if_pos hz])
          clear hyy
          go_wp2_with (go_at_call 41; refine HCALL.out.mono ?_; rintro r w1 ⟨rfl, hb1⟩; have HB1 := zH (HB.out.trans (hb1.mono HB.out.size)); clear hb1)
          go_ret
          exact ⟨by rw [HE2.out]; rfl, HB0.out.trans (HB1.out.mono HB0.out.size)⟩
        have HE2 := zH (show conR c l = conR c (l.drop (k + 1)) by rw [HK.out, HG.out, if_neg hyy, if_neg hz])
        clear hyy
        go_wp2_with (go_at_call 41; refine HCALL.out.mono ?_; rintro r w1 ⟨rfl, hb1⟩; have HB1 := zH (HB.out.trans (hb1.mono HB.out.size)); clear hb1)
        go_roundw
        case rel => exact ⟨k + 1, by omega, by go_num, HE2, HB1⟩
        case measure => simp [intOf]; omega
      have HE2 := zH (show conR c l = (r.vars.length : Int) by rw [HK.out, HG.out, if_pos ⟨hx, hy⟩])
      rw [decide_eq_false hy] at hce
      clear hx hy
      go_wp2_with fail
      go_ret
      exact ⟨by rw [HE2.out]; rfl, HL.out⟩
    have hbe := beq_no hx
    have hyy := fun hh : r.con = c ∧ c.size ≠ 0 => hx hh.1
    by_cases hz : 0 ≤ z
    · have HE2 := zH (show conR c l = z by rw [HK.out, HG.out, if_neg hyy, if_pos hz])
      clear hyy
      go_wp2_with (go_at_call 41; refine HCALL.out.mono ?_; rintro r w1 ⟨rfl, hb1⟩; have HB1 := zH (HB.out.trans (hb1.mono HB.out.size)); clear hb1)
      go_ret
      exact ⟨by rw [HE2.out]; rfl, HB0.out.trans (HB1.out.mono HB0.out.size)⟩
    have HE2 := zH (show conR c l = conR c (l.drop (k + 1)) by rw [HK.out, HG.out, if_neg hyy, if_neg hz])
    clear hyy
    go_wp2_with (go_at_call 41; refine HCALL.out.mono ?_; rintro r w1 ⟨rfl, hb1⟩; have HB1 := zH (HB.out.trans (hb1.mono HB.out.size)); clear hb1)
    go_roundw
    case rel => exact ⟨k + 1, by omega, by go_num, HE2, HB1⟩
    case measure => simp [intOf]; omega
  have HE2 := zH (show conR c l = -1 by rw [HK.out, List.drop_eq_nil_of_le (by rw [← HM.out]; omega)]; rfl)
  go_wp2_with fail
  go_ret
  exact ⟨by rw [HE2.out]; rfl, HL.out⟩
end Go.Proofs.YtiaknfnhmoinpaaGreat
