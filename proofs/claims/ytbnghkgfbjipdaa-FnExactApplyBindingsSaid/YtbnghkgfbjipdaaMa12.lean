/- The walk of the law FnExactFindBinding, from a contract of the program's own function. Conditions: that contract; the arguments lie in memory. The contract of the model's ApplyBindings. Condition: fewer than 2^40 nodes in each argument. Maps that the program makes for itself, as lists of entries: looked up, written, their size. The keys may be strings, structs of strings, or hold pointers to memory that can be told apart. No condition. Pairs of pointers, and pointers with a number, as keys of maps: told apart where the memory that they lead to is plain. No condition. -/
import Derived.Test.YtbnghkgfbjipdaaMa05
import Derived.Test.YtbnghkgfbjipdaaMa08
import Derived.Test.YtbnghkgfbjipdaaMa09
import Derived.Test.YtbnghkgfbjipdaaMa11
import Derived.Test.YtbnghkgfbjipdaaRows
import Derived.WalkKit
import Derived.Lib.Hide
import Derived.Maps.OwnSet
import Derived.Maps.OwnIn
import Derived.Test.YtbnghkgfbjipdaaMa01
import Derived.LaidEql
namespace Go.Proofs.Ytbnghkgfbjipdaa
open Go Go.RowKit

/-- What the program's FindBinding gives. -/
def FindOwn (l : List Bi) (s : ByteArray) (w : World) (r : Ending) (w2 : World) : Prop :=
  ∃ v bs, r = .returned (.tuple #[v, .bool (valOf l s).isSome]) ∧ ExIs w2 v ((valOf l s).getD zeroX) bs ∧ Mine w2 w.heap.size bs ∧ Below w.heap.size w w2
theorem valOf_mem {l : List Bi} {s : ByteArray} {e : Ex} (h : valOf l s = some e) : ∃ r ∈ l, r.val = e := by
  induction l with
  | nil => cases h
  | cons r t ih =>
    rw [valOf] at h
    by_cases hr : r.name = s
    · rw [if_pos hr] at h
      cases h
      exact ⟨r, by simp, rfl⟩
    · rw [if_neg hr] at h
      obtain ⟨x, hx, hv⟩ := ih h
      exact ⟨x, by simp [hx], hv⟩
theorem valOf_small {l : List Bi} (h : bisTot l ≤ 1048576) (s : ByteArray) : exSizes ((valOf l s).getD zeroX).args ≤ 1048576 := by
  cases hv : valOf l s with
  | none => simp [zeroX, Ex.args, exSizes]
  | some e =>
    obtain ⟨r, hr, rfl⟩ := valOf_mem hv
    have h1 := bisTot_mem hr
    have h2 := args_totB r.val
    unfold biTot at h1
    show exSizes r.val.args ≤ _
    omega
def Bx9 (W : World) (B : Nat) (K : Int) (S : ByteArray) (u : Value) : Prop := W.heap[B]? = some (.cells #[.int .i64 K, .string S, u] 26 (0, 0))
theorem Bx9.cells {W : World} {B : Nat} {K : Int} {S : ByteArray} {u : Value} (h : Bx9 W B K S u) : W.cell? ⟨B, 0, none⟩ = some (.int .i64 K) ∧ W.cell? ⟨B, 1, none⟩ = some (.string S) ∧ W.cell? ⟨B, 2, none⟩ = some u ∧ B < W.heap.size := by
  unfold Bx9 at h
  exact ⟨by simp [World.cell?, h], by simp [World.cell?, h], by simp [World.cell?, h], (Array.getElem?_eq_some_iff.1 h).1⟩
theorem Bx9.keep {W W2 : World} {B : Nat} {K : Int} {S : ByteArray} {u : Value} {T : List Nat} (h : Bx9 W B K S u) (hf : Fr T W W2) (hT : B ∉ T) : Bx9 W2 B K S u := (hf.block B h.cells.2.2.2 hT).trans h
theorem OnlyIn.fr9 {a b : World} {bs : List Nat} (h : OnlyIn a b bs) : Fr bs a b := ⟨h.os, h.tape, h.output, h.size, h.block⟩
theorem mine_far {W W2 : World} {B : Nat} {bs S : List Nat} (h : Mine W B bs) (hf : Fr S W W2) (hd : ∀ x ∈ bs, x ∉ S) : Mine W2 B bs := h.keeps ⟨hf.size, fun x hx hlt => hf.block x hlt (hd x hx)⟩

end Go.Proofs.Ytbnghkgfbjipdaa

namespace Go.Proofs.Ytbnghkgfbjipdaa
open Go Go.RowKit

theorem zero_facts9 {w5 : World} {rb : Nat} {x0 x1 x2 : Value} (hra : w5.heap[rb]? = some (.cells #[x0, x1, x2] 26 (0, 0))) : w5.cell? ⟨rb, 0, none⟩ = some x0 ∧ w5.cell? ⟨rb, 1, none⟩ = some x1 ∧ w5.cell? ⟨rb, 2, none⟩ = some x2 ∧ (∀ o, w5.frozen? ⟨rb, o, none⟩ = false) ∧ rb < w5.heap.size :=
  ⟨by simp [World.cell?, hra], by simp [World.cell?, hra], by simp [World.cell?, hra], fun o => by simp [World.frozen?, hra], (Array.getElem?_eq_some_iff.1 hra).1⟩
theorem far_end {e : Ex} {w w6 : World} {A6 : Option Addr} {n6 c6 : Nat} {b6 : List Nat} (h : ExF w6 (.agg #[.int .i64 e.kind, .string e.name, .slice A6 n6 c6]) e b6) (hlo : ∀ x ∈ b6, w.heap.size + 1 < x) (hb : Below w.heap.size w w6) :
    ExF (set3 w6 (w.heap.size + 1) (.int .i64 e.kind) (.string e.name) (.slice A6 n6 c6)) (.agg #[.int .i64 e.kind, .string e.name, .slice A6 n6 c6]) e b6 ∧ (∀ x ∈ b6, w.heap.size ≤ x) ∧ Below w.heap.size w (set3 w6 (w.heap.size + 1) (.int .i64 e.kind) (.string e.name) (.slice A6 n6 c6)) := by
  have hk : Keeps w6 (set3 w6 (w.heap.size + 1) (.int .i64 e.kind) (.string e.name) (.slice A6 n6 c6)) b6 := set3_keeps (fun hx => by have := hlo _ hx; omega) _ _ _
  refine ⟨⟨h.1.keeps hk, fun x hx o => ?_⟩, fun x hx => by have := hlo x hx; omega, set3_low hb (by omega) _ _ _⟩
  exact (World.frozen?_of_block (w := w6) (a := ⟨x, o, none⟩) (hk.2 x hx (h.lt x hx))).trans (h.2 x hx o)
theorem Cp.re {w : World} {e : Ex} {u ov : Value} {l : List Ex} {ys : List Value} {bs : List Nat} {W : World} (h : Cp w e u l ov ys bs W) : Cp w (.mk e.kind e.name l) u l ov ys bs W := ⟨h.low, h.arg, h.res, h.out, h.own, h.reads, h.lo, h.sep, h.free⟩
set_option maxRecDepth 100000 in
set_option maxHeartbeats 8000000 in
theorem applym_step (n : Nat) (l : List Bi) (ih : ∀ (e : Ex) (v v2 : Value) (bs b2 : List Nat) (w : World), exSize e ≤ n → ExIs w v e bs → BlIs w v2 l b2 → exSize e ≤ 1099511627776 → Calls Try.prog 27 #[v, v2] w (Copy2End (subE (valOf l) e) w))
    (hl : l.length ≤ 1099511627776) (hlv : ∀ r ∈ l, exSize r.val ≤ 1099511627776)
    (e : Ex) (v v2 : Value) (bs bL : List Nat) (w : World) (hle : exSize e ≤ n + 1) (hv : ExIs w v e bs) (hv2 : BlIs w v2 l bL) (hb : exSize e ≤ 1099511627776) : Calls Try.prog 27 #[v, v2] w (Copy2End (subE (valOf l) e) w) := by
  obtain ⟨i0, hi, hz0, hz1, hz2⟩ := info_parts Try.infoEx
  have HI := Lib.hid (And.intro hi (And.intro hz0 (And.intro hz1 hz2)))
  clear hi hz0 hz1 hz2
  obtain ⟨u, rfl, hsz, hu⟩ := id hv
  obtain ⟨A, c, rfl, hc1, hc2, -⟩ := id hu
  obtain ⟨AL, cL, rfl, -⟩ := id hv2
  have HSZ := Lib.hid hsz
  have HU := Lib.hid hu
  have HV := Lib.hid hv
  have HV2 := Lib.hid hv2
  have HIH := Lib.hid ih
  have hES : exSize e = exSizes e.args + 1 := by cases e; rfl
  have hlen := sizes_len e.args
  have HN := Lib.hid (show exSizes e.args ≤ n by omega)
  have HBD := Lib.hid (show exSizes e.args ≤ 1099511627776 by omega)
  have HBE := Lib.hid hb
  have HFB := Lib.hid (fun (s : ByteArray) (W : World) (hW : Below w.heap.size w W) => findb_any l _ bL s W (hv2.below hW) hl hlv)
  obtain ⟨m, hm⟩ : ∃ m, m = e.args.length := ⟨_, rfl⟩
  obtain ⟨q, hq⟩ : ∃ q, q = l.length := ⟨_, rfl⟩
  have HST := Lib.hid (Cp.start w e (.slice A e.args.length c))
  rw [← hm] at hc1 HU HST hlen HV ⊢
  rw [← hq] at HV2 HFB ⊢
  have HM := Lib.hid hm
  have hm40 : m ≤ 1099511627776 := by omega
  clear hu hv hv2 hsz ih hle hb hlen hm hES hl hlv hq
  by_cases hk : e.kind = 1
  · have hkb : (e.kind == 1) = true := by simp [hk]
    have HRS := Lib.hid (show subE (valOf l) e = (valOf l e.name).getD e by
      cases e with
      | mk k s a =>
        have hk : k = 1 := hk
        subst hk
        simp [subE, Ex.name])
    clear hk HST
    obtain ⟨wa, hwa⟩ : ∃ wa, wa = (w.alloc (.cells #[.int .i64 e.kind, .string e.name, .slice A m c] 26)).alloc (.cells #[.int .i64 0, .string ⟨#[]⟩, .slice none 0 0] 26) := ⟨_, rfl⟩
    have HWA := Lib.hid hwa
    have H2 := Lib.hid (show Below w.heap.size w wa ∧ wa.heap[w.heap.size]? = some (.cells #[.int .i64 e.kind, .string e.name, .slice A m c] 26 (0, 0)) ∧ wa.heap[w.heap.size + 1]? = some (.cells #[.int .i64 0, .string ⟨#[]⟩, .slice none 0 0] 26 (0, 0)) by
      rw [hwa]
      refine ⟨((Below.refl _ w).alloc (Nat.le_refl _) _).alloc (by simp) _, (Below.heap_alloc _ _ _ (by simp)).trans (heap_alloc_new w _), ?_⟩
      have := heap_alloc_new (w.alloc (.cells #[.int .i64 e.kind, .string e.name, .slice A m c] 26)) (.cells #[.int .i64 0, .string ⟨#[]⟩, .slice none 0 0] 26)
      rw [World.size_alloc] at this
      exact this)
    clear hwa
    go_enter Try.func27, Try.ntmps27
    go_wp2_with fail
    rw [← HWA.out]
    refine (HFB.out e.name wa H2.out.1).mono ?_
    rintro r w5 ⟨v5, b5, rfl, hf5, hlo5, hb5⟩
    obtain ⟨⟨u5, rfl, hsz5, hu5⟩, -⟩ := id hf5
    obtain ⟨A5, c5, rfl, -⟩ := id hu5
    have he5 := (hb5.block _ (Array.getElem?_eq_some_iff.1 H2.out.2.1).1).trans H2.out.2.1
    have hr5 := (hb5.block _ (Array.getElem?_eq_some_iff.1 H2.out.2.2).1).trans H2.out.2.2
    have hrl := (Array.getElem?_eq_some_iff.1 H2.out.2.2).1
    obtain ⟨k0, k1, k2, kf, kl⟩ := zero_facts9 he5
    obtain ⟨z0, z1, z2, zf, zl⟩ := zero_facts9 hr5
    have HF5 := Lib.hid hf5
    have HLO := Lib.hid hlo5
    have HB5 := Lib.hid (H2.out.1.trans (hb5.mono H2.out.1.size))
    have HWL := Lib.hid (show w.heap.size + 1 < wa.heap.size from hrl)
    have HR5 := Lib.hid hr5
    cases hv : valOf l e.name with
    | none =>
      rw [hv] at HRS
      have HCP := Lib.hid (fun W (hW : Below w5.heap.size w5 W) => copy2_any (exSize e) e _ bs W (Nat.le_refl _) (HV.out.below (HB5.out.trans (hW.mono HB5.out.size))) HBE.out)
      have HBA := Lib.hid (fun o => (Below.refl w5.heap.size w5).alloc (Nat.le_refl _) o)
      simp only [Option.getD_none, Option.isSome_none]
      clear hf5 hlo5 hb5 hu5 hsz5 he5 hr5 hrl hv HFB HIH
      go_wp2_with fail
      refine (HCP.out _ (HBA.out _)).mono ?_
      rintro r w6 ⟨v6, b6, rfl, hf6, hlo6, hb6⟩
      obtain ⟨⟨u6, rfl, hsz6, hu6⟩, -⟩ := id hf6
      obtain ⟨A6, c6, rfl, -⟩ := id hu6
      have hb56 := (HBA.out _).trans (hb6.mono (HBA.out _).size)
      obtain ⟨z0, z1, z2, zf, zl⟩ := zero_facts9 ((hb56.block _ zl).trans HR5.out)
      have HEND := Lib.hid (far_end hf6 (fun x hx => by have := hlo6 x hx; have := (HBA.out (.cells #[.int .i64 zeroX.kind, .string zeroX.name, .slice A5 zeroX.args.length c5] 26)).size; have := HB5.out.size; have := HWL.out; have := HR5.out; have h9 := (Array.getElem?_eq_some_iff.1 this).1; omega : ∀ x ∈ b6, w.heap.size + 1 < x) (HB5.out.trans (hb56.mono HB5.out.size)))
      generalize e.args.length = m6 at *
      clear hf6 hu6 hsz6 hlo6 hb6 hb56
      go_wp2_with fail
      refine bodyPost_ret (v := .agg #[.int .i64 e.kind, .string e.name, .slice A6 m6 c6]) (by simp [results, Try.results27, go_sem, z0, z1, z2]) rfl ?_
      rw [HRS.out]
      exact ⟨_, b6, rfl, HEND.out⟩
    | some e1 =>
      rw [hv] at HRS HF5
      simp only [Option.getD_some, Option.isSome_some]
      clear hf5 hlo5 hb5 hu5 hsz5 he5 hr5 hrl HFB HIH
      have HEND := Lib.hid (far_end HF5.out (fun x hx => by have := HLO.out x hx; have := HWL.out; omega : ∀ x ∈ b5, w.heap.size + 1 < x) HB5.out)
      have hq : ((((w5.setCell ⟨w.heap.size + 1, 0, none⟩ (.int .i64 e1.kind)).setCell ⟨w.heap.size + 1, 1, none⟩ (.string e1.name)).setCell ⟨w.heap.size + 1, 2, none⟩ (.slice A5 e1.args.length c5)).alloc (.cells #[.int .i64 e1.kind, .string e1.name, .slice A5 e1.args.length c5] 26)).heap[w.heap.size + 1]? = some (.cells #[.int .i64 e1.kind, .string e1.name, .slice A5 e1.args.length c5] 26 (0, 0)) := by
        refine (Below.heap_alloc _ _ _ (by simpa [World.setCell] using zl)).trans ?_
        simp [World.setCell, Array.getElem?_modify, HR5.out]
      obtain ⟨y0, y1, y2, -, -⟩ := zero_facts9 hq
      have HY := Lib.hid (And.intro y0 (And.intro y1 y2))
      clear hq y0 y1 y2
      go_wp2_with fail
      obtain ⟨y0, y1, y2⟩ := HY.out
      refine bodyPost_ret (v := .agg #[.int .i64 e1.kind, .string e1.name, .slice A5 e1.args.length c5]) (by simp [results, Try.results27, go_sem, y0, y1, y2]) rfl ?_
      rw [HRS.out]
      refine ⟨_, b5, rfl, HEND.out.1.below ((Below.refl _ _).alloc (Nat.le_refl _) _), HEND.out.2.1, HEND.out.2.2.alloc HEND.out.2.2.size _⟩
  · have hkb : (e.kind == 1) = false := by simp [hk]
    have HRS := Lib.hid (show subE (valOf l) e = .mk e.kind e.name (e.args.map (subE (valOf l))) by
      cases e with
      | mk k s a =>
        have hk : ¬ k = 1 := hk
        simp [subE, hk, Ex.kind, Ex.name, Ex.args, subEs_map])
    clear hk
    go_enter Try.func27, Try.ntmps27
    go_wp2_with fail
    go_loopw [8] (fun i wr => ∃ (k : Nat) (AO : Option Addr) (co : Nat) (ys : List Value) (cs : List Nat), k ≤ m ∧ i = .int .i64 (k : Int) ∧ Hid (Cp w e (.slice A m c) ((e.args.take k).map (subE (valOf l))) (.slice AO k co) ys cs wr)) (fun i _ => m - (intOf i).toNat)
    case atStart => exact ⟨0, none, 0, [], [], Nat.zero_le _, rfl, HST⟩
    case round =>
      clear HST
      obtain ⟨k, AO, co, ys, cs, hk, rfl, HP⟩ := hrel
      obtain ⟨a0, a1, a2, af⟩ := HP.out.arg.facts
      obtain ⟨o0, o1, o2, of_⟩ := HP.out.out.facts
      have hbig := HP.out.big
      by_cases hlt : k < m
      · obtain ⟨g, o, e1, u1, b1, rfl, hbl, hget, hmem, c1, c2, c3, his, -⟩ := (HU.out.below HP.out.low).get k (by rw [← HM.out]; exact hlt)
        have HTK := Lib.hid (show e.args.take (k + 1) = e.args.take k ++ [e1] by
          have hk2 : k < e.args.length := by rw [← HM.out]; exact hlt
          rw [List.take_succ_eq_append_getElem hk2, (List.getElem?_eq_some_iff.1 hget).2])
        have HLK := Lib.hid (show ((e.args.take k).map (subE (valOf l))).length = k by rw [List.length_map, List.length_take, ← HM.out]; omega)
        obtain ⟨r1, hr1⟩ : ∃ z, z = subE (valOf l) e1 := ⟨_, rfl⟩
        have HR1 := Lib.hid hr1
        have HCALL := Lib.hid (show ∀ (W : World), Below wr.heap.size wr W → Calls Try.prog 27 #[_, .slice AL q cL] W (Copy2End r1 W) from fun (W : World) (hb : Below wr.heap.size wr W) => by rw [hr1]; exact HIH.out e1 _ _ b1 bL W (by have := exSizes_mem hmem; have := HN.out; omega) (his.below hb) (HV2.out.below (HP.out.low.trans (hb.mono HP.out.low.size))) (by have := exSizes_mem hmem; have := HBD.out; omega))
        clear his hmem hr1
        have hk0 : 0 ≤ (k : Int) := by omega
        have hkn : (k : Int) < (m : Int) := by omega
        have HEL := Lib.hid (And.intro c1 (And.intro c2 c3))
        have HAR := Lib.hid a2
        have HUP := Lib.hid HP.out.up
        have HSX := Lib.hid (fun (W : World) (h : Below (w.heap.size + 1) (w.alloc (.cells #[.int .i64 e.kind, .string e.name, .slice (some ⟨g, o, none⟩) m c] 26)) W) => cp_cells HU.out HM.out hlt hget HEL.out.2.2 HP.out.low h)
        clear c1 c2 c3 a0 a1 a2 af
        have hgl : g < wr.heap.size := hbl
        have CM := Lib.hid (show k + 1 ≤ maxLen by unfold maxLen; omega)
        have CB := Lib.hid (show (k + 1) * 48 ≤ 140737488355328 by omega)
        obtain ⟨c1, c2, c3, a2⟩ := HSX.out wr HUP.out
        go_wp2_with fail
        go_region_law
          (first
          | (go_simp; go_at_call 27; refine (HCALL.out _ (Below.refl _ _).drew).mono ?_; rintro r w2 ⟨_, b2, rfl, hs2, hlo2, hb2⟩; obtain ⟨⟨u2, rfl, hsz2, hu2⟩, -⟩ := id hs2; obtain ⟨A2, c2', rfl, -⟩ := id hu2; have hbb := (Below.refl wr.heap.size wr).drew.trans hb2; have hp2 := HP.out.below hbb; have HU2 := Lib.hid hp2.up; have hbz2 : w.heap.size + 1 ≤ w2.heap.size := Nat.le_trans (Nat.le_add_right _ 2) hp2.big; obtain ⟨p0, p1, p2, pf⟩ := hp2.out.facts; have hbl2 : w.heap.size + 1 + 1 < w2.heap.size := hp2.out.lt; have HP2 := Lib.hid hp2; have HS2 := Lib.hid hs2; have HL2 := Lib.hid hlo2; have HBB := Lib.hid hbb; clear hs2 hu2 hlo2 hb2 hbb hp2 hsz2)
          | (refine step_append_lies _ (by rfl) _ _ _ (by rfl) (w.heap.size + 3) 26 i0 _ 3 48 Try.underlying24 HI.out.1 HI.out.2.1 HI.out.2.2.1 HI.out.2.2.2 rfl (by decide) (.slice AO k co) k ys (by rfl) (World.ownsRow.alloc (own_at HP2.out HLK.out) _) ⟨w2.heap.size, 0, none⟩ 1 1 [.int .i64 r1.kind, .string r1.name, .slice A2 r1.args.length c2'] (by rfl) (by rfl) (World.news_of_block (heap_alloc_new w2 _)) (cp_one r1 A2 _ c2') (by decide) CM.out CB.out (size_far HP2.out _) (w2.heap.size + 1) (by simp) ?_; intro g3 c3' w3 ho3 hg3 hat3 hlt3; have HCP := Lib.hid (Cp.step HP.out HBB.out HS2.out HL2.out (own_to HLK.out ho3) hg3 hat3); have HGR := Lib.hid (Cp.grown HP2.out hg3); obtain ⟨t0, t1, t2, tf⟩ := HGR.out.1.facts; clear ho3 hg3 hat3 hlt3))
        all_goals
          have hcp := HCP.out
          rw [HLK.out, HR1.out, show (e.args.take k).map (subE (valOf l)) ++ [subE (valOf l) e1] = (e.args.take (k + 1)).map (subE (valOf l)) by rw [HTK.out, List.map_append]; rfl] at hcp
          have HNX := Lib.hid hcp
          clear hcp HCP HGR HU2 HP2 HS2 HL2 HBB HP HSX HUP HAR HEL HCALL c1 c2 c3 a2 o0 o1 o2 of_ p0 p1 p2 pf t0 t1 t2 tf
          go_wp2_with fail
          go_roundw
          case rel => exact ⟨k + 1, some ⟨g3, 0, none⟩, c3', _, _, by omega, by go_num, HNX⟩
          case measure => simp [intOf]; omega
      · have HE := Lib.hid (show e.args.take k = e.args from List.take_of_length_le (by rw [← HM.out]; omega))
        have hp := HP.out
        rw [HE.out] at hp
        have HP2 := Lib.hid hp
        clear hp
        obtain ⟨r0, r1, r2, rf⟩ := HP.out.res.facts
        have hmk : m = k := by omega
        go_wp2_with fail
        refine bodyPost_ret (v := .agg #[.int .i64 e.kind, .string e.name, .slice AO k co]) (by simp [results, Try.results27, go_sem, r0, r1, r2]) rfl ?_
        rw [HRS.out]
        exact Cp.fin HP2.out.re HSZ.out
theorem applym_any (n : Nat) (l : List Bi) (hl : l.length ≤ 1099511627776) (hlv : ∀ r ∈ l, exSize r.val ≤ 1099511627776) : ∀ (e : Ex) (v v2 : Value) (bs b2 : List Nat) (w : World), exSize e ≤ n → ExIs w v e bs → BlIs w v2 l b2 → exSize e ≤ 1099511627776 → Calls Try.prog 27 #[v, v2] w (Copy2End (subE (valOf l) e) w) := by
  induction n with
  | zero => intro e v v2 bs b2 w h; have := exSize_pos e; omega
  | succ n ih => intro e v v2 bs b2 w h1 h2 h3 h4; exact applym_step n l ih hl hlv e v v2 bs b2 w h1 h2 h3 h4
end Go.Proofs.Ytbnghkgfbjipdaa

namespace Go.Proofs.Ytbnghkgfbjipdaa
open Go Go.RowKit Go.ChangeMaps Go.WideMaps

/-- What the values of K are good for as keys of type k in w. -/
structure KeyT (P : Program) (k : TypeId) (w : World) (K : Value → Prop) : Prop where
  check : ∀ (em : Bool) (v : Value), K v → (Instr.checkKey em 10000 k v).run P w = .ok () w
  find : ∀ (x : Value) (es : List MapEntry), K x → (∀ e ∈ es, K e.key) → ((Instr.findKey k x es).run P w = .ok none w ∧ ∀ e ∈ es, e.key ≠ x) ∨ ∃ j e, (Instr.findKey k x es).run P w = .ok (some (j, e.val)) w ∧ es[j]? = some e ∧ e.key = x
  stays : ∀ v : Value, K v → (Instr.keyThatStays v v).run P w = .ok v w
theorem KeyT.of_keyed {P : Program} {k : TypeId} (h : Maps.Keyed P k) (w : World) : KeyT P k w (fun v => ∃ l, keyOf P k v = some l) :=
  ⟨fun em _ ⟨_, hv⟩ => h.check w em hv, fun _ es ⟨_, hx⟩ he => h.find w hx es he, fun _ ⟨_, hv⟩ => h.stays w hv⟩

/-- Keys that are compared one by one. -/
theorem find_asking {P : Program} {k : TypeId} {w : World} {K : Value → Prop} (heq : ∀ x y : Value, K x → K y → ∃ r : Bool, (Op.equal k x y).run P w = .ok r w ∧ (r = true ↔ x = y)) {x : Value} (hx : K x) :
    ∀ (es : List MapEntry) (i : Nat), (∀ e ∈ es, K e.key) → ((Instr.findAsking k x es i).run P w = .ok none w ∧ ∀ e ∈ es, e.key ≠ x) ∨ ∃ j e, (Instr.findAsking k x es i).run P w = .ok (some (i + j, e.val)) w ∧ es[j]? = some e ∧ e.key = x := by
  intro es
  induction es with
  | nil => intro i _; exact Or.inl ⟨by simp [Instr.findAsking], fun e h => by cases h⟩
  | cons e r ih =>
    intro i hall
    obtain ⟨b, hr, hiff⟩ := heq x e.key hx (hall e (by simp))
    cases b with
    | true => exact Or.inr ⟨0, e, by simp [Instr.findAsking, hr], rfl, (hiff.1 rfl).symm⟩
    | false =>
      have hne : e.key ≠ x := fun h => by have := hiff.2 h.symm; cases this
      rcases ih (i + 1) (fun y hy => hall y (by simp [hy])) with ⟨h1, h2⟩ | ⟨j, e', h1, h2, h3⟩
      · refine Or.inl ⟨by simp [Instr.findAsking, hr, h1], fun y hy => ?_⟩
        rcases List.mem_cons.1 hy with rfl | hy
        · exact hne
        · exact h2 y hy
      · exact Or.inr ⟨j + 1, e', by simp [Instr.findAsking, hr, h1]; omega, by simpa using h2, h3⟩

/-- Block b of w is a map with the entries L, each key once. -/
def MapIs (w : World) (b : Nat) (L : List (Value × Value)) : Prop :=
  ∃ es clock, w.heap[b]? = some (.map es clock) ∧ es.toList.map (fun e => (e.key, e.val)) = L ∧ (L.map Prod.fst).Nodup
theorem MapIs.lt {w : World} {b : Nat} {L : List (Value × Value)} (h : MapIs w b L) : b < w.heap.size := by
  obtain ⟨es, clock, hb, -⟩ := h
  exact (Array.getElem?_eq_some_iff.1 hb).1
theorem MapIs.on {w w2 : World} {b : Nat} {L : List (Value × Value)} (h : MapIs w b L) (hk : w2.heap[b]? = w.heap[b]?) : MapIs w2 b L := by
  obtain ⟨es, clock, hb, r⟩ := h
  exact ⟨es, clock, hk.trans hb, r⟩
theorem MapIs.made (w : World) : MapIs (w.alloc (.map #[] 0)) w.heap.size [] := ⟨#[], 0, (MapKept.heap_alloc w _).1, rfl, List.nodup_nil⟩
/-- What stands at a key. -/
def Hits (L : List (Value × Value)) (key : Value) (z v : Value) (b : Bool) : Prop := ((key, v) ∈ L ∧ b = true) ∨ ((∀ x ∈ L, x.1 ≠ key) ∧ v = z ∧ b = false)
/-- What a store leaves. -/
def Put (L : List (Value × Value)) (key val : Value) (L2 : List (Value × Value)) : Prop := ((∀ x ∈ L, x.1 ≠ key) ∧ L2 = L ++ [(key, val)]) ∨ ∃ A v0 B, L = A ++ (key, v0) :: B ∧ L2 = A ++ (key, val) :: B
theorem nodup_one : ∀ (L : List (Value × Value)), (L.map Prod.fst).Nodup → ∀ x ∈ L, ∀ y ∈ L, x.1 = y.1 → x = y := by
  intro L
  induction L with
  | nil => intro _ x hx; cases hx
  | cons p r ih =>
    intro hn x hx y hy e
    rw [List.map_cons, List.nodup_cons] at hn
    rcases List.mem_cons.1 hx with e1 | h1 <;> rcases List.mem_cons.1 hy with e2 | h2
    · rw [e1, e2]
    · exact (hn.1 (List.mem_map.2 ⟨y, h2, by rw [← e, e1]⟩)).elim
    · exact (hn.1 (List.mem_map.2 ⟨x, h1, by rw [e, e2]⟩)).elim
    · exact ih hn.2 x h1 y h2 e
theorem Hits.uniq {L : List (Value × Value)} (hn : (L.map Prod.fst).Nodup) {key z v v2 : Value} {b b2 : Bool} (h : Hits L key z v b) (h2 : Hits L key z v2 b2) : v = v2 ∧ b = b2 := by
  rcases h with ⟨h1, rfl⟩ | ⟨h1, rfl, rfl⟩ <;> rcases h2 with ⟨h3, rfl⟩ | ⟨h3, rfl, rfl⟩
  · exact ⟨(Prod.mk.inj (nodup_one L hn _ h1 _ h3 rfl)).2, rfl⟩
  · exact absurd rfl (h3 _ h1)
  · exact absurd rfl (h1 _ h3)
  · exact ⟨rfl, rfl⟩

section
variable {P : Program} {w : World} {k e t : TypeId} {K : Value → Prop} {b : Nat} {L : List (Value × Value)}

theorem MapIs.look (h : MapIs w b L) (hK : KeyT P k w K) (ht : P.underlying t = some (.map k e)) {z : Value} (hz : (zeroValue e).run P w = .ok z w) {key : Value} (hkey : K key) (hL : ∀ x ∈ L, K x.1) :
    ∃ v has, (∀ ok : Bool, (Instr.lookup t (.map (some b)) key ok).run P w = .ok (if ok then .tuple #[v, .bool has] else v) w) ∧ Hits L key z v has := by
  obtain ⟨es, clock, hb, rfl, hn⟩ := h
  have hes : ∀ e ∈ es.toList, K e.key := fun e he => hL _ (List.mem_map_of_mem he)
  rcases hK.find key es.toList hkey hes with ⟨h1, h2⟩ | ⟨j, e0, h1, h2, h3⟩
  · refine ⟨z, false, fun ok => ?_, Or.inr ⟨fun x hx => ?_, rfl, rfl⟩⟩
    · simp [Instr.lookup, run_underlying ht, MapKept.run_getObj_map hb, hK.check _ key hkey, h1, hz, Result.andThen]
    · obtain ⟨e1, he1, rfl⟩ := List.mem_map.1 hx
      exact h2 e1 he1
  · refine ⟨e0.val, true, fun ok => ?_, Or.inl ⟨?_, rfl⟩⟩
    · simp [Instr.lookup, run_underlying ht, MapKept.run_getObj_map hb, hK.check _ key hkey, h1, Result.andThen]
    · rw [← h3]
      exact List.mem_map.2 ⟨e0, List.mem_of_getElem? h2, rfl⟩

theorem nodup_split {A B : List (Value × Value)} {key v0 v1 : Value} (h : ((A ++ (key, v0) :: B).map Prod.fst).Nodup) : ((A ++ (key, v1) :: B).map Prod.fst).Nodup := by
  simpa using h

theorem MapIs.update (h : MapIs w b L) (hK : KeyT P k w K) (ht : P.underlying t = some (.map k e)) {key val : Value} (hkey : K key) (hL : ∀ x ∈ L, K x.1) :
    ∃ w' L2, (Instr.mapUpdate t (.map (some b)) key val).run P w = .ok () w' ∧ MapIs w' b L2 ∧ Put L key val L2 ∧ w.grownBy w' (some b) := by
  obtain ⟨es, clock, hb, rfl, hn⟩ := h
  have hes : ∀ e ∈ es.toList, K e.key := fun e he => hL _ (List.mem_map_of_mem he)
  have grown : ∀ o : Obj, w.grownBy (setBlock w b o) (some b) := fun o => ⟨rfl, rfl, rfl, by simp [setBlock], fun i _ hi => heap_setBlock_other hb _ (fun e => hi (by rw [e]))⟩
  rcases hK.find key es.toList hkey hes with ⟨h1, h2⟩ | ⟨j, e0, h1, h2, h3⟩
  · have hne : ∀ x ∈ es.toList.map (fun e => (e.key, e.val)), x.1 ≠ key := fun x hx => by
      obtain ⟨e1, he1, rfl⟩ := List.mem_map.1 hx
      exact h2 e1 he1
    refine ⟨setBlock w b (.map (es.push ⟨key, val, clock⟩) (clock + 1)), es.toList.map (fun e => (e.key, e.val)) ++ [(key, val)], ?_, ⟨_, _, heap_setBlock_same hb _, by simp, ?_⟩, Or.inl ⟨hne, rfl⟩, grown _⟩
    · simp [Instr.mapUpdate, run_underlying ht, MapKept.run_getObj_map hb, hK.check false key hkey, h1, MapKept.run_setObj_map _ hb, Result.andThen, setBlock]
    · rw [List.map_append, List.nodup_append]
      refine ⟨hn, by simp, fun a ha b hb e => ?_⟩
      simp only [List.map_cons, List.map_nil, List.mem_singleton] at hb
      obtain ⟨x, hx, rfl⟩ := List.mem_map.1 ha
      exact hne x hx (e.trans hb)
  · have hj : es[j]? = some e0 := by simpa using h2
    have hlist : (es.modify j (fun e' => { e' with key := key, val := val })).toList = es.toList.set j { e0 with key := key, val := val } := by rw [Array.toList_modify, modify_eq_set _ _ _ _ h2]
    obtain ⟨A, B, hAB, hA⟩ : ∃ A B, es.toList = A ++ e0 :: B ∧ A.length = j := by
      have hl := (List.getElem?_eq_some_iff.1 h2).1
      refine ⟨es.toList.take j, es.toList.drop (j + 1), ?_, by rw [List.length_take]; omega⟩
      rw [← (List.getElem?_eq_some_iff.1 h2).2, ← List.drop_eq_getElem_cons hl, List.take_append_drop]
    have hset : es.toList.set j { e0 with key := key, val := val } = A ++ { e0 with key := key, val := val } :: B := by
      rw [hAB, List.set_append_right _ _ (by omega), hA, Nat.sub_self, List.set_cons_zero]
    refine ⟨setBlock w b (.map (es.modify j (fun e' => { e' with key := key, val := val })) clock), A.map (fun e => (e.key, e.val)) ++ (key, val) :: B.map (fun e => (e.key, e.val)), ?_, ⟨_, _, heap_setBlock_same hb _, by rw [hlist, hset]; simp, ?_⟩, Or.inr ⟨A.map (fun e => (e.key, e.val)), e0.val, B.map (fun e => (e.key, e.val)), by rw [hAB]; simp [h3], rfl⟩, grown _⟩
    · simp [Instr.mapUpdate, run_underlying ht, MapKept.run_getObj_map hb, hK.check false key hkey, h1, hj, h3, hK.stays key hkey, MapKept.run_setObj_map _ hb, Result.andThen, setBlock]
    · rw [hAB] at hn
      refine nodup_split (v0 := e0.val) ?_
      simpa [h3] using hn
end
theorem Put.nodup_keys {L L2 : List (Value × Value)} {key val : Value} (h : Put L key val L2) {K : Value → Prop} (hL : ∀ x ∈ L, K x.1) (hk : K key) : ∀ x ∈ L2, K x.1 := by
  rcases h with ⟨-, rfl⟩ | ⟨A, v0, B, rfl, rfl⟩
  · intro x hx
    rcases List.mem_append.1 hx with hx | hx
    · exact hL x hx
    · rw [List.mem_singleton] at hx; subst hx; exact hk
  · intro x hx
    rcases List.mem_append.1 hx with hx | hx
    · exact hL x (by simp [hx])
    · rcases List.mem_cons.1 hx with rfl | hx
      · exact hk
      · exact hL x (by simp [hx])

section
variable {P : Program} {k e t : TypeId} {K : Value → Prop} {b : Nat} {L : List (Value × Value)} (w : World) {ops : Array Oper} {rest : List Oper} {o : Oper} {a : Act} {Q : Exit → Act → World → Prop} {F : Fence} {nF : Nat}
/-- 'm[k] = v' at the operation. -/
theorem asc_put (hg : o.guard = none) (m x v : Operand) (t : TypeId) (hop : o.op = Op.mapUpdate t m x v) (k e : TypeId) (ht : P.underlying t = some (.map k e)) (K : Value → Prop) (hK : KeyT P k w K) (b : Nat) (L : List (Value × Value)) (hm : a.eval m = .map (some b)) (h : MapIs w b L) (key val : Value) (hx : a.eval x = key) (hv : a.eval v = val) (hkey : K key) (hL : ∀ x ∈ L, K x.1)
    (hQ : ∀ w' L2, MapIs w' b L2 → Put L key val L2 → w.grownBy w' (some b) → wpList P ops Q rest (a.put o.dst undef) w') : wpList P ops Q (o :: rest) a w := by
  refine wpList_plain hg fun K' hK' => ?_
  obtain ⟨w', L2, hrun, r1, r2, r3⟩ := h.update (val := val) hK ht hkey hL
  unfold Oper.wp
  simp [execOp, hop, hm, hx, hv, hrun, Result.andThen]
  exact hK' _ _ (hQ w' L2 r1 r2 r3)
theorem asc_put_in (hg : o.guard = none) (m x v : Operand) (t : TypeId) (hop : o.op = Op.mapUpdate t m x v) (k e : TypeId) (ht : P.underlying t = some (.map k e)) (K : Value → Prop) (hK : KeyT P k w K) (b : Nat) (L : List (Value × Value)) (hm : a.eval m = .map (some b)) (h : MapIs w b L) (key val : Value) (hx : a.eval x = key) (hv : a.eval v = val) (hkey : K key) (hL : ∀ x ∈ L, K x.1)
    (hQ : ∀ w' L2, MapIs w' b L2 → Put L key val L2 → w.grownBy w' (some b) → wpListIn F nF P ops Q rest (a.put o.dst undef) w') : wpListIn F nF P ops Q (o :: rest) a w := by
  refine wpListIn_plain hg fun K' hK' => ?_
  obtain ⟨w', L2, hrun, r1, r2, r3⟩ := h.update (val := val) hK ht hkey hL
  unfold Oper.wpIn
  refine ⟨by simp [Oper.about, hop], ?_⟩
  rw [Oper.semAt_plain F _ _ (by rw [hop]; intro c hc'; cases hc')]
  simp [execOp, hop, hm, hx, hv, hrun, Result.andThen]
  exact hK' _ _ (hQ w' L2 r1 r2 r3)
theorem asc_len_run (h : MapIs w b L) (ht : P.underlying t = some (.map k e)) (ty : TypeId) : (Builtin.len_ #[t] ty #[.map (some b)]).run P w = .ok (.int .i64 (L.length : Int)) w := by
  obtain ⟨es, clock, hb, rfl, -⟩ := h
  simp [Builtin.len_, run_underlying ht, MapKept.run_getObj_map hb, goInt, Result.andThen]
end
end Go.Proofs.Ytbnghkgfbjipdaa

namespace Go.Proofs.Ytbnghkgfbjipdaa
open Go Go.RowKit

/-- A block of cells none of which a string shares. -/
def FreeB (w : World) (b : Nat) : Prop := (∃ c t f, w.heap[b]? = some (.cells c t f)) ∧ ∀ o, w.frozen? ⟨b, o, none⟩ = false
theorem FreeB.lt {w : World} {b : Nat} (h : FreeB w b) : b < w.heap.size := by
  obtain ⟨⟨c, t, f, h⟩, -⟩ := h
  exact (Array.getElem?_eq_some_iff.1 h).1
theorem FreeB.on {w w2 : World} {b : Nat} (h : FreeB w b) (hk : w2.heap[b]? = w.heap[b]?) : FreeB w2 b := by
  obtain ⟨⟨c, t, f, h1⟩, h2⟩ := h
  exact ⟨⟨c, t, f, hk.trans h1⟩, fun o => (World.frozen?_of_block (w := w) (a := ⟨b, o, none⟩) hk).trans (h2 o)⟩
theorem FreeB.of_box {w : World} {b : Nat} {cs : Array Value} {t : TypeId} (h : w.heap[b]? = some (.cells cs t (0, 0))) : FreeB w b :=
  ⟨⟨_, _, _, h⟩, fun o => by simp [World.frozen?, h]⟩
theorem FreeB.of_cell {w : World} {b o : Nat} {v : Value} (h : w.cell? ⟨b, o, none⟩ = some v) (hf : ∀ o, w.frozen? ⟨b, o, none⟩ = false) : FreeB w b := by
  refine ⟨?_, hf⟩
  unfold World.cell? at h
  split at h
  · exact ⟨_, _, _, ‹_›⟩
  · cases h
theorem frozen_off {w : World} {b : Nat} (h : ∀ o, w.frozen? ⟨b, o, none⟩ = false) (a : Addr) (ha : a.block = b) : w.frozen? a = false := by
  have := h a.off
  unfold World.frozen? at this ⊢
  rw [ha]; exact this
theorem same_free {P : Program} {w : World} {a b : Addr} (ha : FreeB w a.block) (hb : FreeB w b.block) : (sameAddr a b).run P w = .ok (decide (a = b)) w := by
  by_cases hbl : a.block = b.block
  · have : (a == b) = decide (a = b) := by by_cases h : a = b <;> simp [h]
    simp [sameAddr, hbl, this]
  · obtain ⟨⟨ca, ta, fa, hca⟩, hfa⟩ := ha
    obtain ⟨⟨cb, tb, fb, hcb⟩, hfb⟩ := hb
    have hne : a ≠ b := fun e => hbl (by rw [e])
    have h1 : ∀ o p, w.frozen? ⟨a.block, o, p⟩ = false := fun o p => frozen_off hfa _ rfl
    have h2 : ∀ o p, w.frozen? ⟨b.block, o, p⟩ = false := fun o p => frozen_off hfb _ rfl
    simp [sameAddr, hbl, h1, h2, hca, hcb, noView, viewAt, World.shape?, mayBeOne, stringish, hne]
theorem eq_ptr {P : Program} {w : World} {tp te : TypeId} {j : TypeInfo} {a b : Addr} (hp : P.underlying tp = some (.pointer te)) (hte : P.info? te = some j) (hsz : j.size ≠ 0) (ha : FreeB w a.block) (hb : FreeB w b.block) (d : Nat) :
    (Op.equalIn (d + 1) tp (.pointer (some a)) (.pointer (some b))).run P w = .ok (decide (a = b)) w := by
  simp [Op.equalIn, run_underlying hp, sizeOf, typeInfo, hte, hsz, same_free ha hb]
theorem check_ptr {P : Program} {w : World} {tp te : TypeId} {v : Value} (hp : P.underlying tp = some (.pointer te)) (em : Bool) (d : Nat) : (Instr.checkKey em (d + 1) tp v).run P w = .ok () w := by
  simp [Instr.checkKey, run_underlying hp]

/-- A pair of pointers to plain memory. -/
def PairK (w : World) (v : Value) : Prop := ∃ a b : Addr, v = .agg #[.pointer (some a), .pointer (some b)] ∧ FreeB w a.block ∧ FreeB w b.block
theorem eq_pair (w : World) {a b c d : Addr} (ha : FreeB w a.block) (hb : FreeB w b.block) (hc : FreeB w c.block) (hd : FreeB w d.block) :
    (Op.equal 125 (.agg #[.pointer (some a), .pointer (some b)]) (.agg #[.pointer (some c), .pointer (some d)])).run Try.prog w = .ok (decide (a = c) && decide (b = d)) w := by
  obtain ⟨j, hj, -, hz, -⟩ := info_parts Try.infoEx
  have hz : j.size ≠ 0 := by omega
  have e1 := eq_ptr (P := Try.prog) (w := w) (tp := 124) Try.underlying124 hj hz ha hc 9998
  have e2 := eq_ptr (P := Try.prog) (w := w) (tp := 124) Try.underlying124 hj hz hb hd 9998
  have u129 := run_underlying (w := w) Try.underlying125
  have z : (sizeOf 124).run Try.prog w = .ok 1 w := by kernel_rfl
  have p0 : ∀ x y : Value, (part 124 #[x, y] 0).run Try.prog w = .ok x w := fun x y => by kernel_rfl
  have p1 : ∀ x y : Value, (part 124 #[x, y] 1).run Try.prog w = .ok y w := fun x y => by kernel_rfl
  rw [Op.equal, show Op.maxDepth = 9999 + 1 from rfl, Op.equalIn]
  simp only [Sem.run_bind, u129, Result.andThen_ok, z]
  simp only [Std.Legacy.Range.forIn_eq_forIn_range', Std.Legacy.Range.size, Nat.sub_zero, Nat.add_one_sub_one, Nat.div_one]
  simp only [List.range'_succ, List.range'_zero, List.forIn_cons, Sem.run_bind, Result.andThen_ok, Nat.zero_mul, Nat.one_mul, Nat.zero_add, p0, e1]
  by_cases h1 : a = c
  · by_cases h2 : b = d
    · simp [h1, h2, p1] at e2 ⊢
      simp [e2]
    · simp [h1, h2, p1] at e2 ⊢
      simp [e2]
  · simp [h1]
theorem pairT (w : World) : KeyT Try.prog 125 w (PairK w) := by
  refine ⟨fun em v ⟨a, b, hv, _, _⟩ => ?_, fun x es hx hes => ?_, fun v ⟨a, b, hv, _, _⟩ => ?_⟩
  · subst hv
    have u129 := run_underlying (w := w) Try.underlying125
    have z : (sizeOf 124).run Try.prog w = .ok 1 w := by kernel_rfl
    have p0 : ∀ x y : Value, (part 124 #[x, y] 0).run Try.prog w = .ok x w := fun x y => by kernel_rfl
    have p1 : ∀ x y : Value, (part 124 #[x, y] 1).run Try.prog w = .ok y w := fun x y => by kernel_rfl
    have c := fun v : Value => check_ptr (P := Try.prog) (w := w) (v := v) Try.underlying124 em 9998
    rw [show 10000 = 9999 + 1 from rfl, Instr.checkKey]
    simp only [Sem.run_bind, u129, Result.andThen_ok]
    simp only [Std.Legacy.Range.forIn_eq_forIn_range', Std.Legacy.Range.size, Nat.sub_zero, Nat.add_one_sub_one, Nat.div_one]
    simp only [List.range'_succ, List.range'_zero, List.forIn_cons, Sem.run_bind, Result.andThen_ok, Nat.zero_mul, Nat.one_mul, Nat.zero_add, z, p0, c]
    simp [z, p1, c]
  · have h := find_asking (P := Try.prog) (k := 125) (w := w) (K := PairK w) (fun x y ⟨a, b, hx, h1, h2⟩ ⟨c, d, hy, h3, h4⟩ => ⟨decide (a = c) && decide (b = d), by rw [hx, hy]; exact eq_pair w h1 h2 h3 h4, by rw [hx, hy]; simp⟩) hx es 0 hes
    have e := Go.run_findKey_eq (P := Try.prog) w (k := 125) (by kernel_rfl) x es
    rw [e]
    simpa using h
  · subst hv
    simp [Instr.keyThatStays, Instr.sameBits]
end Go.Proofs.Ytbnghkgfbjipdaa
