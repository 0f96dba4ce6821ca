/- The walk of the law FnExactEqualBindings, from a contract of the program's own function. Conditions: that contract; the arguments lie in memory. -/
import Derived.Test.YtmndlhbgacgnlaaBiCopy
import Derived.Test.YtmndlhbgacgnlaaBiEq
import Derived.Test.YtmndlhbgacgnlaaBiEqual
import Derived.Test.YtmndlhbgacgnlaaLawSizes
namespace Go.Proofs.Ytmndlhbgacgnlaa
open Go Go.RowKit

theorem bis_small {l : List Bi} (h : bisTot l ≤ 1048576) : (∀ r ∈ l, exSize r.val ≤ 1099511627776) ∧ l.length ≤ 1099511627776 :=
  ⟨fun r hr => by
    have h1 := bisTot_mem hr
    have h2 := (tot_size (exSize r.val)).1 r.val (Nat.le_refl _)
    unfold biTot at h1
    omega, by have := bisTot_ge l; omega⟩
theorem bl_slice {w : World} {v : Value} {l : List Bi} {bs : List Nat} (h : BlIs w v l bs) : ∃ A c, v = .slice A l.length c := by
  obtain ⟨A, c, e, -⟩ := h
  exact ⟨A, c, e⟩
theorem mine_two {W : World} {B C : Nat} {b2 b3 : List Nat} (h2 : Mine W B b2) (h3 : Mine W C b3) : ∀ x ∈ b2 ++ b3, ∀ o, W.frozen? ⟨x, o, none⟩ = false := fun x hx => (List.mem_append.1 hx).elim (fun h => h2.free x h) (fun h => h3.free x h)

set_option maxRecDepth 100000 in
set_option maxHeartbeats 8000000 in
theorem lawequalb (l m : List Bi) (vp vq : Value) (bsp bsq : List Nat) (w : World) (hp : BlIs w vp l bsp) (hq : BlIs w vq m bsq)
    (hO : ∀ (v2 v3 : Value) (b2 b3 : List Nat) (W : World), BlIs W v2 l b2 → BlIs W v3 m b3 → (∀ x ∈ b2 ++ b3, ∀ o, W.frozen? ⟨x, o, none⟩ = false) → bisTot l ≤ 1048576 → bisTot m ≤ 1048576 → Calls Try.prog 51 #[v2, v3] W (RetPost (.bool (eqBl l m)) W)) :
    Calls Try.prog 10 #[vp, vq] w (TrueX w) := by
  have HZ := Lib.hid (fun (W : World) (hb : Below w.heap.size w W) => sz_binds l vp bsp W 1048576 (hp.below hb) (by omega) (by omega))
  have HZ' := Lib.hid (fun (L : Int) (h0 : 0 ≤ L) (h1 : L ≤ 1048576) (W : World) (hb : Below w.heap.size w W) => sz_binds m vq bsq W L (hq.below hb) h0 h1)
  have HC := Lib.hid (fun (ht : bisTot l ≤ 1048576) (W : World) (hb : Below w.heap.size w W) => copy_binds l vp bsp W (hp.below hb) (bis_small ht).1 (bis_small ht).2)
  have HC' := Lib.hid (fun (ht : bisTot m ≤ 1048576) (W : World) (hb : Below w.heap.size w W) => copy_binds m vq bsq W (hq.below hb) (bis_small ht).1 (bis_small ht).2)
  have HO := Lib.hid hO
  have HP := Lib.hid (fun (v2 v3 : Value) (b2 b3 : List Nat) (W : World) (h : BlIs W v2 l b2) (h' : BlIs W v3 m b3) => show Calls Try.prog 49 #[v2, v3] W (RetPost (.bool (eqBl l m)) W) from equalb_any l m v2 v3 b2 b3 W h h')
  clear hO
  obtain ⟨Ap, cp, rfl⟩ := bl_slice hp
  obtain ⟨Aq, cq, rfl⟩ := bl_slice hq
  clear hp hq
  generalize eqBl l m = R at *
  go_enter Try.func10, Try.ntmps10
  go_wp2_with fail
  go_at_call 48
  refine (HZ.out _ (Below.refl _ _)).mono ?_
  rintro r w1 ⟨z, rfl, hb1, hz⟩
  have HW1 := Lib.hid hb1
  clear hb1 HZ
  rcases hz with ⟨rfl, -⟩ | ⟨hz0, hz⟩
  · go_wp2_with fail
    go_ret
    exact ⟨rfl, HW1.out⟩
  have hta : bisTot l ≤ 1048576 := by omega
  have hz1 : z ≤ 1048576 := by omega
  have HTA := Lib.hid hta
  clear hz hta
  go_wp2_with fail
  go_at_call 48
  refine (HZ'.out z hz0 hz1 _ HW1.out).mono ?_
  rintro r w2 ⟨z2, rfl, hb2, hz⟩
  have HW2 := Lib.hid (HW1.out.trans (hb2.mono HW1.out.size))
  clear hb2 HZ' HW1
  rcases hz with ⟨rfl, -⟩ | ⟨hz20, hz⟩
  · go_wp2_with fail
    go_ret
    exact ⟨rfl, HW2.out⟩
  have HTB := Lib.hid (show bisTot m ≤ 1048576 by omega)
  clear hz
  have HCA := Lib.hid (fun (W : World) (hb : Below w.heap.size w W) => HC.out HTA.out W hb)
  have HCB := Lib.hid (fun (W : World) (hb : Below w.heap.size w W) => HC'.out HTB.out W hb)
  clear HC HC'
  go_wp2_with fail
  go_at_call 50
  refine (HCA.out _ HW2.out).mono ?_
  rintro r w3 ⟨v3, b3, rfl, hs3, -, hb3⟩
  obtain ⟨A3, c3, rfl⟩ := bl_slice hs3
  have HS3 := Lib.hid hs3
  have HW3 := Lib.hid (HW2.out.trans (hb3.mono HW2.out.size))
  clear hs3 hb3
  go_wp2_with fail
  go_at_call 50
  refine (HCB.out _ HW3.out).mono ?_
  rintro r w4 ⟨v4, b4, rfl, hs4, -, hb4⟩
  obtain ⟨A4, c4, rfl⟩ := bl_slice hs4
  have HS34 := Lib.hid (HS3.out.below hb4)
  have HS4 := Lib.hid hs4
  have HW4 := Lib.hid (HW3.out.trans (hb4.mono HW3.out.size))
  clear hs4 hb4 HS3
  go_wp2_with fail
  go_at_call 49
  refine (HP.out _ _ b3 b4 w4 HS34.out HS4.out).mono ?_
  rintro r w5 ⟨rfl, hb5⟩
  have HW5 := Lib.hid (HW4.out.trans (hb5.mono HW4.out.size))
  clear hb5 HS34 HS4
  go_wp2_with fail
  go_at_call 50
  refine (HCA.out _ HW5.out).mono ?_
  rintro r w6 ⟨v6, b6, rfl, hs6, hm6, hb6⟩
  obtain ⟨A6, c6, rfl⟩ := bl_slice hs6
  have HS6 := Lib.hid hs6
  have HM6 := Lib.hid hm6
  have HW6 := Lib.hid (HW5.out.trans (hb6.mono HW5.out.size))
  clear hs6 hm6 hb6
  go_wp2_with fail
  go_at_call 50
  refine (HCB.out _ HW6.out).mono ?_
  rintro r w7 ⟨v7, b7, rfl, hs7, hm7, hb7⟩
  obtain ⟨A7, c7, rfl⟩ := bl_slice hs7
  have HS67 := Lib.hid (HS6.out.below hb7)
  have HS7 := Lib.hid hs7
  have HM7 := Lib.hid (mine_two (HM6.out.keeps (keeps_below hb7 _)) hm7)
  have HW7 := Lib.hid (HW6.out.trans (hb7.mono HW6.out.size))
  clear hs7 hm7 hb7 HS6 HM6
  go_wp2_with fail
  go_at_call 51
  refine (HO.out _ _ b6 b7 _ HS67.out HS7.out HM7.out HTA.out HTB.out).mono ?_
  rintro r w8 ⟨rfl, hb8⟩
  have HS68 := Lib.hid (HS67.out.below hb8)
  have HS78 := Lib.hid (HS7.out.below hb8)
  have HW8 := Lib.hid (HW7.out.trans (hb8.mono HW7.out.size))
  clear hb8 HS67 HS7 HM7
  cases R
  all_goals
    go_wp2_with fail
    go_at_call 50
    refine (HCA.out _ HW8.out).mono ?_
    rintro r w9 ⟨v9, b9, rfl, hs9, -, hb9⟩
    obtain ⟨A9, c9, rfl⟩ := bl_slice hs9
    have HS9 := Lib.hid hs9
    have HS69 := Lib.hid (HS68.out.below hb9)
    have HS79 := Lib.hid (HS78.out.below hb9)
    have HW9 := Lib.hid (HW8.out.trans (hb9.mono HW8.out.size))
    clear hs9 hb9 HS68 HS78
    go_wp2_with fail
    go_at_call 52
    refine (eq_binds l _ _ b6 b9 w9 HS69.out HS9.out).mono ?_
    rintro r w10 ⟨rfl, hb10⟩
    have HS710 := Lib.hid (HS79.out.below hb10)
    have HW10 := Lib.hid (HW9.out.trans (hb10.mono HW9.out.size))
    clear hb10 HS69 HS9 HS79
    go_wp2_with fail
    go_at_call 50
    refine (HCB.out _ HW10.out).mono ?_
    rintro r w11 ⟨v11, b11, rfl, hs11, -, hb11⟩
    obtain ⟨A11, c11, rfl⟩ := bl_slice hs11
    have HS11 := Lib.hid hs11
    have HS711 := Lib.hid (HS710.out.below hb11)
    have HW11 := Lib.hid (HW10.out.trans (hb11.mono HW10.out.size))
    clear hs11 hb11 HS710
    go_wp2_with fail
    go_at_call 52
    refine (eq_binds m _ _ b7 b11 w11 HS711.out HS11.out).mono ?_
    rintro r w12 ⟨rfl, hb12⟩
    have HW12 := Lib.hid (HW11.out.trans (hb12.mono HW11.out.size))
    clear hb12
    go_wp2_with fail
    go_ret
    exact ⟨rfl, HW12.out⟩
end Go.Proofs.Ytmndlhbgacgnlaa
