/- A part of the proof of the seat's statement: SpecFmt. Condition: as each says. -/
import Derived.Test.YtiaknfnhmoinpaaGreatNames
import Derived.Test.YtiaknfnhmoinpaaGreatRKids
import Derived.Test.YtiaknfnhmoinpaaGreatOwnConcat
import Derived.Test.YtiaknfnhmoinpaaGreatSpecReadPr
import Derived.Test.YtiaknfnhmoinpaaGreatRows
import Derived.WalkKit
import Derived.WalkSpells
import Derived.WalkLawsBesides
import Derived.Lib.Hide
import Derived.Lib.ItoaLen
set_option maxHeartbeats 8000000
namespace Go.Proofs.YtiaknfnhmoinpaaGreat
open Go Go.RowKit
structure Ps (w : World) (B g : Nat) (A : Option Addr) (zs : List Int) (cap : Nat) (W : World) : Prop where
 only : Only g w W
 cur : Cur W g A zs.length cap
 bytes : Bytes W B A zs
theorem Ps.start {w : World} {B g : Nat} {A : Option Addr} {zs : List Int} {cap : Nat} (hs : Bytes w B A zs) (hc : Cur w g A zs.length cap) : Ps w B g A zs cap w := ⟨Only.refl g w, hc, hs⟩
theorem Ps.call {w : World} {B g : Nat} {A : Option Addr} {zs : List Int} {cap : Nat} {W W2 : World} (h : Ps w B g A zs cap W) (hg : B ≤ g) (hc : Cur W2 g A zs.length cap) (ho : Only g W W2) : Ps w B g A zs cap W2 :=
 ⟨h.only.trans ho, hc, h.bytes.only ho hg (nT hg (Nat.le_of_lt h.cur.lt))⟩
theorem Only.ofBelow {g : Nat} {W W2 : World} (hb : Below W.heap.size W W2) : Only g W W2 := ⟨hb.os, hb.tape, hb.output, hb.size, fun i hi _ => hb.block i hi⟩
theorem Cur.below {W W2 : World} {g n cap : Nat} {A : Option Addr} (h : Cur W g A n cap) (hb : Below W.heap.size W W2) : Cur W2 g A n cap := by
 have hl := h.lt
 obtain ⟨k, x, hk, hr⟩ := h
 exact ⟨k, x, hk, (hb.block g hl).trans hr⟩
theorem Ps.below {w : World} {B g : Nat} {A : Option Addr} {zs : List Int} {cap : Nat} {W W2 : World} (h : Ps w B g A zs cap W) (hg : B ≤ g) (hb : Below W.heap.size W W2) : Ps w B g A zs cap W2 :=
 h.call hg (h.cur.below hb) (Only.ofBelow hb)
theorem Ps.alloc {w : World} {B g : Nat} {A : Option Addr} {zs : List Int} {cap : Nat} {W : World} (h : Ps w B g A zs cap W) (hg : B ≤ g) (o : Obj) : Ps w B g A zs cap (W.alloc o) := h.below hg ((wB _ _).alloc (nR _) o)
theorem Ps.set {w : World} {B g : Nat} {A : Option Addr} {zs : List Int} {cap : Nat} {W : World} (h : Ps w B g A zs cap W) (hg : B ≤ g) (hgl : g < w.heap.size) {b : Nat} (hb : w.heap.size ≤ b) (m : Nat) (u : Value) : Ps w B g A zs cap (W.setCell ⟨b, m, none⟩ u) := by
 refine ⟨h.only.setNew hb m u, ?_, h.bytes.below ((wB B W).setCell (by simp; omega) u)⟩
 obtain ⟨k, x, hk, hr⟩ := h.cur
 exact ⟨k, x, hk, (Below.heap_setCell W ⟨b, m, none⟩ u g (by simp; omega)).trans hr⟩
theorem Ps.pick {w : World} {B g : Nat} {A : Option Addr} {zs : List Int} {cap : Nat} {W : World} (h : Ps w B g A zs cap W) (hg : B ≤ g) (hn : zs.length ≤ 1048576) (ss : List ByteArray) (h0 : 1 ≤ ss.length) (h1 : ss.length ≤ 256) {b : Nat} (hr : Row W b 9 (ss.map Value.string)) (hne : b ≠ g) :
 Calls Tryz.prog 39 #[.pointer (some ⟨g, 0, none⟩), .slice (some ⟨b, 0, none⟩) ss.length ss.length] W (PickPost ss g A zs.length cap W) :=
 pick_any B g b A zs cap ss.length ss W h.bytes hg h.cur hn hr hne h0 h1
theorem Ps.pickN {w : World} {B g : Nat} {A : Option Addr} {zs : List Int} {cap : Nat} {W : World} (h : Ps w B g A zs cap W) (hg : B ≤ g) (hn : zs.length ≤ 1048576) (ss : List ByteArray) (h0 : 1 ≤ ss.length) (h1 : ss.length ≤ 256) :
 Calls Tryz.prog 39 #[.pointer (some ⟨g, 0, none⟩), .slice (some ⟨W.heap.size, 0, none⟩) ss.length ss.length] (W.alloc (.cells (ss.map Value.string).toArray 9)) (PickPost ss g A zs.length cap (W.alloc (.cells (ss.map Value.string).toArray 9))) :=
 Ps.pick (h.alloc hg _) hg hn ss h0 h1 (Row.new W 9 _) (Nat.ne_of_gt h.cur.lt)
theorem Ps.num {w : World} {B g : Nat} {A : Option Addr} {zs : List Int} {cap : Nat} {W : World} (h : Ps w B g A zs cap W) (hg : B ≤ g) (hn : zs.length ≤ 1048576) (lim : Int) (h0 : 1 ≤ lim) (h1 : lim ≤ 256) :
 Calls Tryz.prog 47 #[.pointer (some ⟨g, 0, none⟩), .int .i64 lim] W (NumPost lim g A zs.length cap W) := below_small B g A zs cap lim W h.bytes hg h.cur hn h0 h1
def PBox (W : World) (b : Nat) (v : Value) : Prop := W.heap[b]? = some (.cells #[v] 26 (0, 0))
theorem PBox.facts {W : World} {b : Nat} {v : Value} (h : PBox W b v) : W.cell? ⟨b, 0, none⟩ = some v ∧ W.frozen? ⟨b, 0, none⟩ = false ∧ b < W.heap.size := by
 unfold PBox at h
 exact ⟨by rw [World.cell?, h]; rfl, by simp [World.frozen?, h], (Array.getElem?_eq_some_iff.1 h).1⟩
theorem PBox.new (W : World) (v : Value) : PBox (W.alloc (.cells #[v] 26)) W.heap.size v := heap_alloc_new W _
theorem PBox.below {W W2 : World} {b : Nat} {v : Value} (h : PBox W b v) (hb : Below W.heap.size W W2) : PBox W2 b v := (hb.block b h.facts.2.2).trans h
theorem PBox.only {W W2 : World} {g b : Nat} {v : Value} (h : PBox W b v) (ho : Only g W W2) (hne : b ≠ g) : PBox W2 b v := (ho.block b h.facts.2.2 (fun e => hne (Option.some.inj e))).trans h
theorem PBox.set {W : World} {b : Nat} {v : Value} (h : PBox W b v) (u : Value) : PBox (W.setCell ⟨b, 0, none⟩ u) b u := one_set h
def PoolPost (g : Nat) (A : Option Addr) (n cap : Nat) (w : World) (r : Ending) (w' : World) : Prop :=
 ∃ v l bs, r = .returned (.agg #[v]) ∧ SKids w.heap.size w' v l bs ∧ smallPr l = true ∧ Cur w' g A n cap ∧ Only g w w'
set_option maxRecDepth 100000 in
theorem pool_any (B g : Nat) (A : Option Addr) (zs : List Int) (cap : Nat) (w : World) (hs : Bytes w B A zs) (hg : B ≤ g) (hc : Cur w g A zs.length cap) (hn : zs.length ≤ 1048576) :
 Calls Tryz.prog 46 #[.pointer (some ⟨g, 0, none⟩)] w (PoolPost g A zs.length cap w) := by
 have hgl := hc.lt
 have h0 := (Ps.start hs hc).alloc hg (.cells #[.slice none 0 0] 26)
 have HPK := zH (fun (a b c d e : ByteArray) => show Calls Tryz.prog 39 #[.pointer (some ⟨g, 0, none⟩), .slice (some ⟨w.heap.size + 1, 0, none⟩) 5 5] ((w.alloc (.cells #[.slice none 0 0] 26)).alloc (.cells #[.string a, .string b, .string c, .string d, .string e] 9)) (PickPost [a, b, c, d, e] g A zs.length cap ((w.alloc (.cells #[.slice none 0 0] 26)).alloc (.cells #[.string a, .string b, .string c, .string d, .string e] 9))) from by
  have h1 := h0.pickN hg hn [a, b, c, d, e] (by simp) (by simp)
  simp only [World.size_alloc] at h1
  exact h1)
 have HAL := zH (fun (o : Obj) => h0.alloc hg o)
 have HBX := zH (fun (o : Obj) => (PBox.new w (.slice none 0 0)).below ((wB _ _).alloc (nR _) o))
 clear hs hc hn h0
 go_enter Tryz.func46, Tryz.ntmps46
 go_wp2_with fail
 go_at_call 39
 refine (HPK.out _ _ _ _ _).mono ?_
 rintro r w2 ⟨y, hy, rfl, hc2, ho2⟩
 have H2 := zH ((HAL.out _).call hg hc2 ho2)
 have HB2 := zH ((HBX.out _).only ho2 (by omega))
 obtain ⟨hy1, hy2⟩ := poolOk_is (five hy (by decide +kernel) (by decide +kernel) (by decide +kernel) (by decide +kernel) (by decide +kernel))
 have HP := zH (parsepr_row y w2 hy1)
 have HY := zH hy2
 clear hc2 ho2 hy hy1 hy2 HPK HAL HBX
 go_wp2_with fail
 go_at_call 66
 refine HP.out.mono ?_
 rintro r w3 ⟨v, bs, rfl, hk, hb3⟩
 obtain ⟨A3, c3, rfl, -⟩ := hk.form
 obtain ⟨q0, qf, ql⟩ := (HB2.out.below hb3).facts
 have HK := zH hk
 have HB3 := zH hb3
 have H3 := zH (H2.out.below hg hb3)
 have hl2 := HB2.out.facts.2.2
 clear hk hb3
 generalize hL : (readPr y).1 = L at *
 generalize hn : L.length = n at *
 go_wp2_with fail
 have hps := (H3.out.set hg hgl (nR _) 0 (.slice A3 n c3)).alloc hg (.cells #[.slice A3 n c3] 26)
 have hkf := ((HK.out.keep (Fr.set (S := [w.heap.size]) w3 ⟨w.heap.size, 0, none⟩ (.slice A3 n c3) (by simp)) (by simp; omega)).keep (Fr.alloc (S := []) _ (.cells #[.slice A3 n c3] 26)) (by simp)).mono (b := w.heap.size) (by omega)
 have hbf := (((HB2.out.below HB3.out).set (.slice A3 n c3)).below ((wB _ _).alloc (nR _) (.cells #[.slice A3 n c3] 26))).facts.1
 refine bP (v := .agg #[.slice A3 n c3]) (by simp [results, Tryz.results46, go_sem, hbf]) rfl ?_
 exact ⟨_, L, bs, rfl, hkf, HY.out, hps.cur, hps.only⟩
theorem conv_one (W : World) (v : Int) : (convert 22 9 (.slice (some ⟨W.heap.size, 0, none⟩) 1 1)).run Tryz.prog (W.alloc (.cells #[.int .u8 v] 5)) = .ok (.string ⟨#[UInt8.ofNat v.toNat]⟩) (W.alloc (.cells #[.int .u8 v] 5)) :=
 run_convert_bytes_arg (P := Tryz.prog) _ 22 5 Tryz.underlying22 Tryz.underlying5 W.heap.size 0 1 1 [v] rfl (fun i hi => by
  obtain rfl : i = 0 := by omega
  exact World.cell?_alloc_new _ _ _ _) 9 Tryz.underlying9
theorem dz_int (a : Int) (h : 0 < a) : dz a.toNat = dz (a / 10).toNat ++ [UInt8.ofNat (48 + a % 10).toNat] := by
 have e1 : (a / 10).toNat = a.toNat / 10 := by omega
 have e2 : (48 + a % 10).toNat = 48 + a.toNat % 10 := by omega
 rw [e1, e2]; exact dz_step a.toNat (by omega)
theorem dz_len (n : Int) (h0 : 0 < n) (h1 : n ≤ 9223372036854775807) : (dz n.toNat).length ≤ 21 := by
 have h := Lib.itoa_length_le n (by omega) h1
 rw [show n = ((n.toNat : Nat) : Int) by omega, itoa_pos n.toNat (by omega)] at h
 exact h
theorem spec_pos (n : Int) (h0 : 0 < n) (h1 : n ≤ 9223372036854775807) (w : World) :
 Calls Tryz.prog 49 #[.int .i64 n] w fun e w' => e = .returned (.string ⟨(dz n.toNat).toArray⟩) ∧ Below w.heap.size w w' := by
 have hp : (n == 0) = false := by simp; omega
 have hq : ¬ (n < 0) := by omega
 have HN := zH (dz_len n h0 h1)
 go_enter Tryz.func49, Tryz.ntmps49
 go_wp2
 clear hp hq
 go_loopw [0, 4] (fun m o wr => ∃ a : Int, ∃ l : List UInt8, 0 ≤ a ∧ a ≤ 9223372036854775807 ∧ dz a.toNat ++ l = dz n.toNat ∧ m = .int .i64 a ∧ o = .string ⟨l.toArray⟩ ∧ Below w.heap.size w wr) (fun m _ _ => (intOf m).toNat)
 case atStart => exact ⟨n, [], by omega, h1, by simp, rfl, rfl, wB _ _⟩
 case round =>
  obtain ⟨a, l, hk0, hk1, hl, rfl, rfl, hb⟩ := hrel
  have hlen : l.length ≤ 21 := by
   have e := congrArg List.length hl
   have e2 := HN.out
   rw [lA] at e
   omega
  have HL := zH hl
  clear hl
  by_cases hz : a = 0
  · subst hz
    go_wp2
    go_ret
    have e := HL.out
    simp [dz_zero] at e
    exact ⟨by rw [e]; rfl, hb⟩
  have hz' : (a != 0) = true := by simp; omega
  have ha : 0 < a := by omega
  have HZ := zH hz
  clear hz
  have hz2 : ¬ (a % 10 < 0) := by omega
  have hz3 : 0 ≤ a % 10 := by omega
  have hz4 : a % 10 < 10 := by omega
  have hs := zH hb.size
  have kc := fun (W : World) (v : Int) => conv_one W v
  go_wp2
  go_roundw
  case rel =>
   refine ⟨a / 10, UInt8.ofNat (48 + a % 10).toNat :: l, by omega, by omega, ?_, rfl, rfl, hb.alloc hs.out _⟩
   rw [← HL.out, dz_int a ha, List.append_assoc]
   rfl
  case measure => simp [intOf]; omega
end Go.Proofs.YtiaknfnhmoinpaaGreat
