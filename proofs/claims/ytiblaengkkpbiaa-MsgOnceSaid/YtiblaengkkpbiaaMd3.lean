/- Contracts: msg: the reader: a list, ints by pointers. -/
import Derived.BigRegion
import Derived.Deep.RegionHeld3
import Derived.Test.YtiblaengkkpbiaaProg
import Derived.Test.YtiblaengkkpbiaaKit
import Derived.Test.YtiblaengkkpbiaaRow
import Derived.Test.YtiblaengkkpbiaaCod7
import Derived.Test.YtiblaengkkpbiaaFrm4
import Derived.Test.YtiblaengkkpbiaaFrm7
import Derived.Test.YtiblaengkkpbiaaFp
import Derived.Test.YtiblaengkkpbiaaNet0
import Derived.Test.YtiblaengkkpbiaaKp0
import Derived.Test.YtiblaengkkpbiaaMg0
import Derived.Test.YtiblaengkkpbiaaMd1
import Derived.Test.YtiblaengkkpbiaaMd2
namespace Go.Proofs.Ytiblaengkkpbiaa
open Go.RowKit Go.Proofs

theorem intsR_snoc : ∀ (i : Nat) (s : List UInt8 × Bool), intsR (i + 1) s = ((intsR i s).1 ++ [(numR 8 (intsR i s).2).1], (numR 8 (intsR i s).2).2)
  | 0, s => rfl
  | i + 1, s => by
    have ih := intsR_snoc i (numR 8 s).2
    rw [intsR, ih]
    rfl

theorem intsR_len : ∀ (i : Nat) (s : List UInt8 × Bool), (intsR i s).1.length = i
  | 0, _ => rfl
  | i + 1, s => by rw [intsR, List.length_cons, intsR_len i]

theorem numR_byte (s : List UInt8 × Bool) : (numR 1 s).1 < 256 := by
  unfold numR
  split
  · decide
  · dsimp only
    have h := numS_lt (takeR 1 s).1
    have h1 := takeR_len 1 s
    have h2 : (256 : Nat) ^ (takeR 1 s).1.length ≤ 256 ^ 1 := Nat.pow_le_pow_right (by decide) h1
    omega

theorem rdV_base {w w1 w2 : World} {B g : Nat} {s : List UInt8 × Bool} (h : RdV w w1 B g s) (hg : g < w.heap.size) (hb : Below w.heap.size w1 w2) : RdV w w2 B g s := by
  obtain ⟨⟨h1, v, h2, h3⟩, hk⟩ := h
  refine ⟨⟨h1, v, ⟨Nat.zero_le _, by rw [hb.block g hg]; exact h2.2⟩, ?_⟩, ?_⟩
  · obtain ⟨a, c, hv, hc, hl⟩ := h3
    exact ⟨a, c, hv, hc, lies_keep hl (fun k hk1 _ => hb.block k (by omega))⟩
  · exact ⟨hb.os.trans hk.os, hb.tape.trans hk.tape, hb.output.trans hk.output, Nat.le_trans hk.size hb.size, fun k hk1 hk2 => (hb.block k hk1).trans (hk.blk k hk1 hk2)⟩

theorem rdAt_lt {w : World} {B g : Nat} {s : List UInt8 × Bool} (h : RdAt w B g s) : g < w.heap.size := by
  obtain ⟨_, v, h2, _⟩ := h
  exact Rw.size h2

theorem own_off {w w2 : World} {b g n sz : Nat} {e : TypeId} {v : Value} {xs : List Value} (h : w.ownsRow b e sz v n xs) (hg : g < b) (hk : Kept (fun k => k = g) w w2) : w2.ownsRow b e sz v n xs := own_same h (fun k hkk => hk.blk k (own_lt h hkk) (fun e => by have := (World.ownsRow.lt h k hkk).1; omega))

def ListV (w w' : World) (B g : Nat) (e : Ending) (q : List Int × List UInt8 × Bool) : Prop := ∃ v', e = .returned v' ∧ w'.ownsRow w.heap.size 3 1 v' q.1.length (q.1.map kiV) ∧ RdV w w' B g q.2

set_option maxRecDepth 100000 in
set_option maxHeartbeats 2000000 in
theorem rlist_any {w : World} {B g : Nat} {s : List UInt8 × Bool} (h : RdAt w B g s) :
    Calls Try.prog 55 #[.pointer (some ⟨g, 0, none⟩)] w fun e w' => ListV w w' B g e (lstR s) := by
  have HNM := Lib.hid (rnumber_any h 1 (by decide))
  have hpos := numR_pos 1 s
  have hbyte := numR_byte s
  have HG := Lib.hid (rdAt_lt h)
  have HY : Hid (lstR s = intsR (numR 1 s).1.toNat (numR 1 s).2) := Lib.hid rfl
  obtain ⟨q, hq⟩ : ∃ q, q = numR 1 s := ⟨_, rfl⟩
  obtain ⟨y, hy⟩ : ∃ y, y = lstR s := ⟨_, rfl⟩
  rw [← hq] at HNM HY hpos hbyte
  rw [← hy] at HY ⊢
  obtain ⟨x, s2⟩ := q
  dsimp only at HY hpos hbyte
  obtain ⟨N, rfl⟩ := Int.eq_ofNat_of_zero_le hpos
  rw [Int.toNat_natCast] at HY
  have HN : Hid (N < 256) := Lib.hid (by omega)
  obtain ⟨i0, hi, hz, hz1, hz2⟩ := info_parts Try.infoInt
  clear h hq hy hpos hbyte
  go_enter Try.func55, Try.ntmps55
  go_wp2_with fail
  refine (HNM.out).mono ?_
  rintro e w1 ⟨rfl, hv1⟩
  dsimp only at hv1 ⊢
  have HV1 := Lib.hid hv1
  clear hv1 HNM
  go_wp2_with fail
  go_loopw [3, 6] (fun v i wr => ∃ (k : Nat) (a : Option Addr) (c : Nat), k ≤ N ∧ i = .int .i64 k ∧ v = .slice a k c ∧ Hid (wr.ownsRow w.heap.size 3 1 (.slice a k c) k ((intsR k s2).1.map kiV)) ∧ Hid (RdV w wr B g (intsR k s2).2)) (fun _ i _ => N - (intOf i).toNat)
  case atStart => exact ⟨0, none, 0, Nat.zero_le _, rfl, rfl, Lib.hid (World.ownsRow_nil _ _ _ _), HV1⟩
  case round =>
    obtain ⟨k, a, c, hk, rfl, rfl, HO, HV⟩ := hrel
    obtain ⟨w3, hw3⟩ : ∃ w3 : World, w3 = wr := ⟨_, rfl⟩
    subst hw3
    by_cases hlt : k < N
    · have HNX := Lib.hid (rnumber_any HV.out.1 8 (by decide))
      obtain ⟨q2, hq2⟩ : ∃ q2, q2 = numR 8 (intsR k s2).2 := ⟨_, rfl⟩
      rw [← hq2] at HNX
      have HSN : Hid (intsR (k + 1) s2 = ((intsR k s2).1 ++ [q2.1], q2.2)) := Lib.hid (by rw [intsR_snoc, hq2])
      obtain ⟨z, s3⟩ := q2
      dsimp only at HSN
      have hy : (k : Int) < (N : Int) := by omega
      have hk8 : (k : Int) < 256 := by have := HN.out; omega
      have HKL := Lib.hid hlt
      have hkb : k < 1099511627776 := by have := HN.out; omega
      clear hq2 hlt hk
      go_wp2_with fail
      refine (HNX.out).mono ?_
      rintro e w4 ⟨rfl, hv4⟩
      dsimp only at hv4 ⊢
      have HV4 := Lib.hid (rdV_then HV.out hv4)
      have HO4 := Lib.hid (own_off HO.out HG.out hv4.2)
      have HB4 : Hid (w.heap.size ≤ w4.heap.size) := Lib.hid HV4.out.2.size
      clear hv4 HNX
      go_wp2_with (at_builtin; refine wpList_append1 rfl _ _ 23 rfl w.heap.size 3 rfl i0 (.int .i64 0) 8 Try.underlying23 hi hz hz1 hz2 rfl (.slice a k c) k _ rfl HO4.out rfl rfl hkb (by decide) HB4.out ?_; intro v8 w8 hown8 hb8; obtain ⟨a8, c8, rfl⟩ := own_len hown8)
      have HO8 := Lib.hid hown8
      have HB8 := Lib.hid hb8
      clear hown8 hb8
      go_roundw
      case rel =>
        refine ⟨k + 1, a8, c8, HKL.out, by go_num, rfl, Lib.hid ?_, Lib.hid ?_⟩
        · rw [HSN.out, List.map_append]
          exact HO8.out
        · rw [HSN.out]
          exact rdV_base HV4.out HG.out HB8.out
      case measure => have := HKL.out; simp [intOf]; omega
    · have hyk : ¬ (k : Int) < (N : Int) := by omega
      have hkn : k = N := by omega
      have HE : Hid (w3.ownsRow w.heap.size 3 1 (.slice a k c) y.1.length (y.1.map kiV) ∧ RdV w w3 B g y.2) := Lib.hid (by
        rw [HY.out, intsR_len, ← hkn]
        exact ⟨HO.out, HV.out⟩)
      clear hlt hk hkn
      go_wp2_with fail
      go_ret
      exact ⟨_, rfl, HE.out.1, HE.out.2⟩

/-- Cells set one by one. -/
def setL : List Value → List Nat → List Int → List Value
  | cs, j :: js, x :: xs => setL (cs.set j (.int .i64 x)) js xs
  | cs, _, _ => cs

theorem setL_snoc : ∀ (js : List Nat) (xs : List Int) (cs : List Value) (j : Nat) (x : Int), js.length = xs.length → setL cs (js ++ [j]) (xs ++ [x]) = (setL cs js xs).set j (.int .i64 x)
  | [], [], cs, j, x, _ => rfl
  | a :: js, b :: xs, cs, j, x, h => by
    rw [List.cons_append, List.cons_append, setL, setL]
    exact setL_snoc js xs _ j x (by simpa using h)
  | [], _ :: _, _, _, _, h => by simp at h
  | _ :: _, [], _, _, _, h => by simp at h

theorem setL_len : ∀ (js : List Nat) (xs : List Int) (cs : List Value), (setL cs js xs).length = cs.length
  | [], _, _ => by rw [setL]; intro j js x xs h; cases h
  | _ :: _, [], _ => by rw [setL]; intro j js x xs _ h; cases h
  | j :: js, x :: xs, cs => by rw [setL, setL_len js xs]; simp

def PtrsV (w w' : World) (B g gm : Nat) (T : TypeId) (cs : List Value) (js : List Nat) (q : List Int × List UInt8 × Bool) : Prop := RdAt w' B g q.2 ∧ Rw w' 0 gm T (setL cs js q.1) ∧ Kept (fun k => k = g ∨ k = gm) w w'

theorem rdAt_kept {w w' : World} {B g gm : Nat} {s : List UInt8 × Bool} (h : RdAt w B g s) (hB : B ≤ gm) (hne : gm ≠ g) (hk : Kept (fun k => k = gm) w w') : RdAt w' B g s := by
  obtain ⟨h1, v, h2, h3⟩ := h
  exact ⟨h1, v, rw_kept h2 hk (fun e => hne e.symm), bySl_kept h3 hB hk⟩

set_option maxRecDepth 100000 in
set_option maxHeartbeats 2000000 in
theorem rptrs_any {w : World} {B g gm b o n c : Nat} {T : TypeId} {cs : List Value} {s : List UInt8 × Bool} (h : RdAt w B g s) (hm : Rw w 0 gm T cs) (hB : B ≤ gm) (hne : gm ≠ g) {js : List Nat} (hn : n = js.length) (hj : ∀ j ∈ js, j < cs.length) (hbg : b ≠ g) (hbm : b ≠ gm) (hp : ∀ i j, js[i]? = some j → w.cell? ⟨b, o + i, none⟩ = some (.pointer (some ⟨gm, j, none⟩))) (hn8 : n ≤ 8) :
    Calls Try.prog 43 #[.pointer (some ⟨g, 0, none⟩), .slice (some ⟨b, o, none⟩) n c] w fun e w' => e = .returned (.tuple #[]) ∧ PtrsV w w' B g gm T cs js (intsR n s) := by
  have H0 : Hid (PtrsV w w B g gm T cs (js.take 0) (intsR 0 s)) := Lib.hid ⟨h, by rw [List.take_zero]; exact hm, kept_refl _ _⟩
  have HP := Lib.hid hp
  have HN := Lib.hid hn
  have HJ := Lib.hid hj
  have HNE := Lib.hid hne
  have HB := Lib.hid hB
  have HBG := Lib.hid hbg
  have HBM := Lib.hid hbm
  clear h hm hp hn hj hne hB hbg hbm
  go_enter Try.func43, Try.ntmps43
  go_wp2_with fail
  go_loopw [8] (fun i wr => ∃ k : Nat, k ≤ n ∧ i = .int .i64 k ∧ Hid (PtrsV w wr B g gm T cs (js.take k) (intsR k s))) (fun i _ => n - (intOf i).toNat)
  case atStart => exact ⟨0, Nat.zero_le _, rfl, H0⟩
  case round =>
    clear H0
    obtain ⟨k, hk, rfl, HV⟩ := hrel
    obtain ⟨w3, hw3⟩ : ∃ w3 : World, w3 = wr := ⟨_, rfl⟩
    subst hw3
    by_cases hlt : k < n
    · obtain ⟨j, hjj⟩ : ∃ j, js[k]? = some j := ⟨_, List.getElem?_eq_getElem (by rw [← HN.out]; exact hlt)⟩
      have d0 : w3.cell? ⟨b, o + k, none⟩ = some (.pointer (some ⟨gm, j, none⟩)) := cell_kept (HP.out k j hjj) (HV.out.2.2.blk b (block_of_cell (HP.out k j hjj)) (fun e => e.elim HBG.out HBM.out))
      have HNX := Lib.hid (rnumber_any HV.out.1 8 (by decide))
      obtain ⟨q2, hq2⟩ : ∃ q2, q2 = numR 8 (intsR k s).2 := ⟨_, rfl⟩
      rw [← hq2] at HNX
      have HSN : Hid (intsR (k + 1) s = ((intsR k s).1 ++ [q2.1], q2.2)) := Lib.hid (by rw [intsR_snoc, hq2])
      obtain ⟨z, s3⟩ := q2
      dsimp only at HSN
      have HTK := Lib.hid (show js.take (k + 1) = js.take k ++ [j] from take_succ_of hjj)
      have HJL : Hid (j < cs.length) := Lib.hid (HJ.out j (List.mem_of_getElem? hjj))
      have hy : (k : Int) < (n : Int) := by omega
      have hk8 : (k : Int) < 8 := by omega
      have HKL := Lib.hid hlt
      clear hq2 hlt hk hjj
      go_wp2_with fail
      refine (HNX.out).mono ?_
      rintro e w4 ⟨rfl, hv4⟩
      dsimp only at hv4 ⊢
      have hr4 := rw_kept HV.out.2.1 hv4.2 HNE.out
      obtain ⟨x0, hx0⟩ : ∃ x0, (setL cs (js.take k) (intsR k s).1)[j]? = some x0 := ⟨_, List.getElem?_eq_getElem (by rw [setL_len]; exact HJL.out)⟩
      have d4 := Rw.cell hr4 hx0
      have f4 := Rw.free hr4 j
      have hrs := Rw.stored hr4 j (.int .i64 z)
      have hks : Kept (fun k => k = gm) w4 (w4.setCell ⟨gm, j, none⟩ (.int .i64 z)) := kept_put (F := fun k => k = gm) (kept_refl _ _) (.inl rfl) j _
      have HE : Hid (PtrsV w (w4.setCell ⟨gm, j, none⟩ (.int .i64 z)) B g gm T cs (js.take (k + 1)) (intsR (k + 1) s)) := Lib.hid ⟨by rw [HSN.out]; exact rdAt_kept hv4.1 HB.out HNE.out hks, by
        rw [HSN.out, HTK.out, setL_snoc _ _ _ _ _ (by rw [intsR_len, List.length_take, ← HN.out]; have := HKL.out; omega)]
        exact hrs, kept_then (kept_then HV.out.2.2 hv4.2 (fun x hx => .inl (.inl hx))) hks (fun x hx => .inl (.inr hx))⟩
      clear hr4 hx0 hrs hks hv4 d0 HNX
      go_wp2_with fail
      go_roundw
      case rel => exact ⟨k + 1, HKL.out, by go_num, HE⟩
      case measure => have := HKL.out; simp [intOf]; omega
    · have hyk : ¬ (k : Int) < (n : Int) := by omega
      have hkn : k = n := by omega
      have HE : Hid (PtrsV w w3 B g gm T cs js (intsR n s)) := Lib.hid (by
        have h := HV.out
        rw [hkn, List.take_of_length_le (by rw [← HN.out]; omega)] at h
        exact h)
      clear hlt hk hkn
      go_wp2_with fail
      go_end0
      exact ⟨rfl, HE.out⟩

end Go.Proofs.Ytiblaengkkpbiaa
