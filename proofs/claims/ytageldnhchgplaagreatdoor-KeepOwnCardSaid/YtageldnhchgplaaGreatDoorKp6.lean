/- Contracts: keep: how many bytes numbers and entries take. -/
import Derived.BigRegion
import Derived.Deep.RegionHeld3
import Derived.Deep.RegionLaw
import Derived.IntWalk
import Derived.Laws.BitsLemmas
import Derived.Lib.BitFns
import Derived.Deep.QuietTactic
import Derived.BigQuiet
import Derived.Deep.CutBlock
import Derived.Test.YtageldnhchgplaaGreatDoorProg
import Derived.Test.YtageldnhchgplaaGreatDoorShelf
import Derived.Test.YtageldnhchgplaaGreatDoorKit
import Derived.Test.YtageldnhchgplaaGreatDoorRow
import Derived.Test.YtageldnhchgplaaGreatDoorRow2
import Derived.Test.YtageldnhchgplaaGreatDoorCod7
import Derived.Test.YtageldnhchgplaaGreatDoorFrm3
import Derived.Test.YtageldnhchgplaaGreatDoorFrm10
import Derived.Test.YtageldnhchgplaaGreatDoorFp
import Derived.Test.YtageldnhchgplaaGreatDoorDsk6
import Derived.Test.YtageldnhchgplaaGreatDoorDsk7
import Derived.Test.YtageldnhchgplaaGreatDoorDsk12
import Derived.Test.YtageldnhchgplaaGreatDoorDsk17
import Derived.Test.YtageldnhchgplaaGreatDoorDsk20
import Derived.Test.YtageldnhchgplaaGreatDoorNet0
import Derived.Test.YtageldnhchgplaaGreatDoorStp
import Derived.Test.YtageldnhchgplaaGreatDoorKp0
import Derived.Test.YtageldnhchgplaaGreatDoorKp5
namespace Go.Proofs.YtageldnhchgplaaGreatDoor
open Go.RowKit Go.Proofs

theorem kcell_more {w : World} {b j : Nat} {x : Value} (h : w.cell? ⟨b, j, none⟩ = some x) (o : Obj) : (w.alloc o).cell? ⟨b, j, none⟩ = some x := cell_kept h ((below_more (Below.refl _ _) o).block b (block_of_cell h))

theorem or_nat (X Y : Nat) (h : X < 18446744073709551616) (hy : Y < 18446744073709551616) : bits .or .u64 (X : Int) (Y : Int) = ((X ||| Y : Nat) : Int) := by
  have hx : (BitVec.ofInt 64 (X : Int)).toNat = X := by
    rw [BitVec.ofInt_natCast, BitVec.toNat_ofNat]
    exact Nat.mod_eq_of_lt h
  have hy2 : (BitVec.ofInt 64 (Y : Int)).toNat = Y := by
    rw [BitVec.ofInt_natCast, BitVec.toNat_ofNat]
    exact Nat.mod_eq_of_lt hy
  have key : bits .or .u64 (X : Int) (Y : Int) = IntKind.u64.wrap (((X ||| Y : Nat) : Int)) := by
    show IntKind.u64.wrap _ = _
    simp only [IntKind.bits]
    show IntKind.u64.wrap (((BitVec.ofInt 64 (X : Int)).toNat ||| (BitVec.ofInt 64 (Y : Int)).toNat : Nat) : Int) = _
    rw [hx, hy2]
  have hor : X ||| Y < 18446744073709551616 := Nat.or_lt_two_pow (n := 64) h hy
  rw [key]
  show ((X ||| Y : Nat) : Int) % 18446744073709551616 = _
  omega

def nszB (n : Int) : Nat := Lib.bitLen (u64N n ||| 1)

def nsz (n : Int) : Nat := (nszB n + 6) / 7

theorem nszB_bd (n : Int) : 1 ≤ nszB n ∧ nszB n ≤ 64 := by
  have h1 : u64N n ||| 1 < 2 ^ 64 := Nat.or_lt_two_pow (u64N_lt n) (by decide)
  have h2 : u64N n ||| 1 ≠ 0 := by
    intro h
    have : 1 ≤ u64N n ||| 1 := Nat.right_le_or
    omega
  refine ⟨?_, Lib.bitLen_le _ 64 (by decide) h1⟩
  rw [nszB, Lib.bitLen_half _ h2 h1]
  omega

theorem nsz_bd (n : Int) : 1 ≤ nsz n ∧ nsz n ≤ 10 := by
  have := nszB_bd n
  unfold nsz
  omega

def nszs (l : List Int) : Nat := (l.map nsz).sum

theorem nszs_snoc (l : List Int) (x : Int) : nszs (l ++ [x]) = nszs l + nsz x := by unfold nszs; simp

theorem nszs_bd : ∀ l : List Int, nszs l ≤ 10 * l.length
  | [] => by simp [nszs]
  | x :: r => by
    have h1 := nszs_bd r
    have h2 := nsz_bd x
    have h3 : nszs (x :: r) = nsz x + nszs r := by unfold nszs; simp
    rw [h3, List.length_cons]
    omega

def eszN (e : EntM) : Nat := nszs [e.tm, e.kd, e.d.size, e.ms.length] + e.d.size + nszs e.ms

def ensz (l : List EntM) : Nat := (l.map eszN).sum

theorem ensz_snoc (l : List EntM) (e : EntM) : ensz (l ++ [e]) = ensz l + eszN e := by unfold ensz; simp

theorem ensz_app (a b : List EntM) : ensz (a ++ b) = ensz a + ensz b := by unfold ensz; simp

theorem eszN_le (e : EntM) : eszN e ≤ szE e := by
  unfold eszN szE
  have h1 := nszs_bd [e.tm, e.kd, (e.d.size : Int), (e.ms.length : Int)]
  have h2 := nszs_bd e.ms
  simp only [List.length_cons, List.length_nil] at h1
  omega

theorem ensz_le : ∀ l : List EntM, ensz l ≤ szEs l
  | [] => by simp [ensz, szEs]
  | x :: r => by
    have h1 := ensz_le r
    have h2 := eszN_le x
    have h3 : ensz (x :: r) = eszN x + ensz r := by unfold ensz; simp
    have h4 : szEs (x :: r) = szE x + szEs r := by unfold szEs; simp
    omega

set_option maxRecDepth 100000 in
set_option maxHeartbeats 1000000 in
theorem knsize_any {w : World} {lv : Value} {l : List Int} (h : IntsAt w lv l) :
    Calls Tryz.prog 129 #[lv] w fun e w' => e = .returned (.int .i64 (nszs l)) ∧ w' = w := by
  have hl := h.1
  have H := Lib.hid h
  obtain ⟨A, C, rfl⟩ := intsAt_len h
  obtain ⟨n, hnn⟩ : ∃ n, n = l.length := ⟨_, rfl⟩
  rw [← hnn] at H ⊢
  have HN := Lib.hid hnn
  have HL := Lib.hid hl
  clear h hnn hl
  go_enter Tryz.func129, Tryz.ntmps129
  go_wp2_with fail
  go_loop [3, 8] (fun sv iv => ∃ (i q : Nat), i ≤ n ∧ iv = .int .i64 i ∧ sv = .int .i64 q ∧ Hid (q = nszs (l.take i))) (fun _ iv => n - (intOf iv).toNat)
  case atStart => exact ⟨0, 0, Nat.zero_le _, rfl, rfl, Lib.hid rfl⟩
  case round =>
    obtain ⟨i, q, hi', rfl, rfl, HQ⟩ := hrel
    by_cases hlt : i < n
    · obtain ⟨x, hx⟩ : ∃ x, l[i]? = some x := ⟨_, List.getElem?_eq_getElem (by rw [← HN.out]; exact hlt)⟩
      have hcell : ∃ b o, A = some ⟨b, o, none⟩ ∧ w.cell? ⟨b, o + i, none⟩ = some (.int .i64 x) := by
        rcases H.out.2 with ⟨_, h2⟩ | ⟨ad, c, hv, h2⟩
        · rw [h2] at hx; simp at hx
        · rcases h2 with h2 | ⟨b, o, rfl, h2⟩
          · rw [h2] at hx; simp at hx
          · injection hv with e1 _ _
            exact ⟨b, o, e1, h2 i x hx⟩
      obtain ⟨b, o, rfl, d0⟩ := hcell
      have hy : (i : Int) < (n : Int) := by omega
      have hi1 : (i : Int) < 1000000 := by have := HL.out; have := HN.out; omega
      have hq1 : (q : Int) ≤ 10000000 := by
        have h1 := nszs_bd (l.take i)
        rw [List.length_take] at h1
        have := HQ.out
        omega
      have HI := Lib.hid hlt
      have HTK := Lib.hid (show nszs (l.take (i + 1)) = nszs (l.take i) + nsz x by rw [take_succ_of hx, nszs_snoc])
      have hbo : bits BinOp.or IntKind.u64 (IntKind.u64.wrap x) 1 = ((u64N x ||| 1 : Nat) : Int) := by rw [u64_wrap]; exact or_nat _ 1 (u64N_lt x) (by decide)
      obtain ⟨Y, hY⟩ : ∃ Y, Y = (u64N x ||| 1 : Nat) := ⟨_, rfl⟩
      rw [← hY] at hbo
      have hYb : Y < 18446744073709551616 := by rw [hY]; exact Nat.or_lt_two_pow (n := 64) (u64N_lt x) (by decide)
      have HLN := Lib.hid (Tryz.bits_Len64 (Y : Int) w (by omega) (by omega))
      obtain ⟨B, hB⟩ : ∃ B, B = nszB x := ⟨_, rfl⟩
      have hBd := nszB_bd x
      rw [← hB] at hBd
      have HBB : Hid (Lib.bitLen (Y : Int).toNat = B) := Lib.hid (by rw [hB, nszB, hY]; rfl)
      rw [HBB.out] at HLN
      have HB := Lib.hid hB
      have hB1 : (1 : Int) ≤ (B : Int) := by omega
      have hB2 : (B : Int) ≤ 64 := by omega
      clear hx hlt hi' hY hYb hB hBd
      go_wp2_with fail
      refine (HLN.out).mono ?_
      rintro e w2 ⟨rfl, hw2⟩
      cases hw2
      go_wp2_with fail
      go_round
      case rel => exact ⟨i + 1, q + nsz x, HI.out, by go_num, by rw [show ((q + nsz x : Nat) : Int) = (q : Int) + ((B : Int) + 7 - 1) / 7 by unfold nsz; rw [← HB.out]; omega], Lib.hid (by rw [HTK.out, HQ.out])⟩
      case measure => have := HI.out; simp [intOf]; omega
    · have hyk : ¬ (i : Int) < (n : Int) := by omega
      have htk : l.take i = l := List.take_of_length_le (by rw [← HN.out]; omega)
      have HQ2 : Hid (q = nszs l) := Lib.hid (by rw [HQ.out, htk])
      clear hlt htk hi'
      go_wp2_with fail
      go_ret
      exact ⟨ret_int (by rw [HQ2.out]), rfl⟩

set_option maxRecDepth 100000 in
set_option maxHeartbeats 2000000 in
theorem kesize_any {w : World} {lv : Value} {es : List EntM} (h : EntsAt w lv es) (hl : es.length ≤ 1000000) (hs : szEs es ≤ 1000000000000) :
    Calls Tryz.prog 126 #[lv] w fun e w' => e = .returned (.int .i64 (ensz es)) ∧ Below w.heap.size w w' := by
  have H := Lib.hid h
  obtain ⟨A, C, rfl, hin⟩ := h
  obtain ⟨n, hnn⟩ : ∃ n, n = es.length := ⟨_, rfl⟩
  rw [← hnn] at H ⊢
  have HN := Lib.hid hnn
  have HIN := Lib.hid hin
  have HL := Lib.hid hl
  have HS := Lib.hid hs
  have hz := zero_cells Tryz.infoEntz
  clear hnn hl hin hs
  go_enter Tryz.func126, Tryz.ntmps126
  go_wp2_with fail
  go_loopw [3, 8] (fun sv iv wr => ∃ (i q : Nat), i ≤ n ∧ iv = .int .i64 i ∧ sv = .int .i64 q ∧ Hid (q = ensz (es.take i)) ∧ Hid (Below w.heap.size w wr)) (fun _ iv _ => n - (intOf iv).toNat)
  case atStart => exact ⟨0, 0, Nat.zero_le _, rfl, rfl, Lib.hid rfl, Lib.hid (Below.refl _ _)⟩
  case round =>
    obtain ⟨i, q, hi', rfl, rfl, HQ, HB⟩ := hrel
    obtain ⟨w1, hw1⟩ : ∃ w1 : World, w1 = wr := ⟨_, rfl⟩
    subst hw1
    by_cases hlt : i < n
    · obtain ⟨x, hx⟩ : ∃ x, es[i]? = some x := ⟨_, List.getElem?_eq_getElem (by rw [← HN.out]; exact hlt)⟩
      obtain ⟨b, o, rfl, hcell⟩ := HIN.out.resolve_left (fun e => by rw [e] at hx; simp at hx)
      obtain ⟨u, hrange, hu⟩ := hcell i x hx
      have hrange1 := rangeAt_below hrange HB.out
      have hu1 := intsAt_below hu HB.out
      have hq1 : (q : Int) ≤ 1000000000000 := by
        have h1 := ensz_le (es.take i)
        have h2 := szEs_take es i
        have := HQ.out
        have := HS.out
        omega
      have hxs : szE x ≤ 1000000000000 := Nat.le_trans (szEs_mem (List.mem_of_getElem? hx)) HS.out
      obtain ⟨xi, xt, xk, xd, xm⟩ := x
      obtain ⟨ua, uc, rfl⟩ := intsAt_len hu1
      dsimp only at hu1 hrange1
      obtain ⟨M, hM⟩ : ∃ M, M = xm.length := ⟨_, rfl⟩
      have hM1 : (M : Int) ≤ 1000000 := by have := hu1.1; omega
      rw [← hM] at hrange1 hu1
      have d0 : w1.cell? ⟨b, o + i * 5, none⟩ = some (.int .i64 xi) := hrange1 0 _ rfl
      have d1 : w1.cell? ⟨b, o + i * 5 + 1, none⟩ = some (.int .i64 xt) := hrange1 1 _ rfl
      have d2 : w1.cell? ⟨b, o + i * 5 + 2, none⟩ = some (.int .i64 xk) := hrange1 2 _ rfl
      have d3 : w1.cell? ⟨b, o + i * 5 + 3, none⟩ = some (.string xd) := hrange1 3 _ rfl
      have d4 : w1.cell? ⟨b, o + i * 5 + 4, none⟩ = some (.slice ua M uc) := hrange1 4 _ rfl
      have hy : (i : Int) < (n : Int) := by omega
      have hi1 : (i : Int) < 1000000 := by have := HL.out; have := HN.out; omega
      have hds : (xd.size : Int) ≤ 1000000000000 := by unfold szE at hxs; dsimp only at hxs; omega
      have HI := Lib.hid hlt
      have HTK := Lib.hid (show ensz (es.take (i + 1)) = ensz (es.take i) + eszN ⟨xi, xt, xk, xd, xm⟩ by rw [take_succ_of hx, ensz_snoc])
      have HU := Lib.hid hu1
      have HM := Lib.hid hM
      clear hrange hrange1 hu hu1 hcell hx hlt hi' hM hxs
      go_wp2_with (first | (refine wpList_alloc_z rfl 32 rfl #[.int .i64 0, .int .i64 0, .int .i64 0, .string ⟨#[]⟩, .slice none 0 0] hz ?_) | fail)
      obtain ⟨a4, ha4⟩ : ∃ a4, a4 = nszs [xt, xk, (xd.size : Int), (M : Int)] := ⟨_, rfl⟩
      obtain ⟨nm, hnm⟩ : ∃ nm, nm = nszs xm := ⟨_, rfl⟩
      obtain ⟨ds, hds2⟩ : ∃ ds, ds = xd.size := ⟨_, rfl⟩
      have ha4b := nszs_bd [xt, xk, (xd.size : Int), (M : Int)]
      have hnmb := nszs_bd xm
      have hml := HU.out.1
      simp only [List.length_cons, List.length_nil] at ha4b
      rw [← ha4] at ha4b
      rw [← hnm] at hnmb
      rw [← hds2] at hds
      have HC4 : Hid (∀ (W : World) (v : Value), IntsAt W v [xt, xk, (xd.size : Int), (M : Int)] → Calls Tryz.prog 129 #[v] W fun e w' => e = .returned (.int .i64 (a4 : Int)) ∧ w' = W) := Lib.hid (fun W v h => by rw [ha4]; exact knsize_any h)
      have HCM : Hid (∀ (W : World) (v : Value), IntsAt W v xm → Calls Tryz.prog 129 #[v] W fun e w' => e = .returned (.int .i64 (nm : Int)) ∧ w' = W) := Lib.hid (fun W v h => by rw [hnm]; exact knsize_any h)
      have HSUM : Hid (((q + eszN ⟨xi, xt, xk, xd, xm⟩ : Nat) : Int) = (q : Int) + ((a4 : Int) + (ds : Int) + (nm : Int))) := Lib.hid (by unfold eszN; dsimp only; rw [← HM.out, ← ha4, ← hnm, ← hds2]; omega)
      have hbE := below_more (Below.refl _ w1) (.cells #[.int .i64 xi, .int .i64 xt, .int .i64 xk, .string xd, .slice ua M uc] 32)
      have hrE : Rw (w1.alloc (.cells #[.int .i64 xi, .int .i64 xt, .int .i64 xk, .string xd, .slice ua M uc] 32)) 0 w1.heap.size 32 [.int .i64 xi, .int .i64 xt, .int .i64 xk, .string xd, .slice ua M uc] := Rw.alloc w1 _ _ (Nat.zero_le _)
      obtain ⟨gE, hgE⟩ : ∃ gE, gE = w1.heap.size := ⟨_, rfl⟩
      rw [← hgE] at hrE ⊢
      have HB1 := Lib.hid (below_then HB.out hbE)
      obtain ⟨w2, hw2⟩ : ∃ w2, w2 = w1.alloc (.cells #[.int .i64 xi, .int .i64 xt, .int .i64 xk, .string xd, .slice ua M uc] 32) := ⟨_, rfl⟩
      rw [← hw2] at hrE HB1 ⊢
      have hI2 : IntsAt w2 (.slice ua M uc) xm := by rw [hw2]; exact intsAt_below HU.out hbE
      have hdr : Below w2.heap.size w2 w2.drew := below_draws (Below.refl _ _) ⟨1, rfl⟩
      have KI := Lib.hid (intsAt_below hI2 hdr)
      have KIM := Lib.hid (fun o => intsAt_below hI2 (below_more hdr o))
      have HBD := Lib.hid (below_then HB1.out hdr)
      have KL : Hid (IntsAt (w2.drew.alloc (.cells #[.int .i64 xt, .int .i64 xk, .int .i64 xd.size, .int .i64 M] 3)) (.slice (some ⟨w2.heap.size, 0, none⟩) 4 4) [xt, xk, (xd.size : Int), (M : Int)]) := Lib.hid (ints_lit (w := w2.drew) (F := fun _ => False) (e2 := 3) (f2 := (0, 0)) (cs := #[.int .i64 xt, .int .i64 xk, .int .i64 xd.size, .int .i64 M]) rfl rfl (by simp) rfl (fun k h => h.elim) (kept_refl _ _))
      have hrD := Rw.below hrE hdr
      have k1 := Rw.cell hrD (j := 1) rfl
      have k2 := Rw.cell hrD (j := 2) rfl
      have k3 := Rw.cell hrD (j := 3) rfl
      have k4 := Rw.cell hrD (j := 4) rfl
      have q1 : IntKind.i64.wrap ((a4 : Int) + (ds : Int)) = (a4 : Int) + (ds : Int) := IntWalk.i64_in _ (by omega)
      have q2 : IntKind.i64.wrap ((a4 : Int) + (ds : Int) + (nm : Int)) = (a4 : Int) + (ds : Int) + (nm : Int) := IntWalk.i64_in _ (by omega)
      have q3 : IntKind.i64.wrap ((q : Int) + ((a4 : Int) + (ds : Int) + (nm : Int))) = (q : Int) + ((a4 : Int) + (ds : Int) + (nm : Int)) := IntWalk.i64_in _ (by omega)
      have HDS := Lib.hid hds2
      clear ha4 hnm hds2 ha4b hnmb hml hbE hrE hgE hw2 hI2 hdr hrD d0 d1 d2 d3 d4 hM1 hds hq1
      rw [HDS.out] at q1 q2 q3
      go_region_held3 (fun W => W.cell? ⟨gE, 1, none⟩ = some (.int .i64 xt) ∧ W.cell? ⟨gE, 2, none⟩ = some (.int .i64 xk) ∧ W.cell? ⟨gE, 3, none⟩ = some (.string xd) ∧ W.cell? ⟨gE, 4, none⟩ = some (.slice ua M uc))
        (first | exact ⟨k1, k2, k3, k4⟩ | exact ⟨kcell_more k1 _, kcell_more k2 _, kcell_more k3 _, kcell_more k4 _⟩)
        (first
          | (go_at_call_of 129 (Value.slice ua M uc); (first | refine (HCM.out _ _ KI.out).mono ?_ | refine (HCM.out _ _ (KIM.out _)).mono ?_); rintro e w' ⟨rfl, rfl⟩)
          | (go_at_call 129; refine (HC4.out _ _ KL.out).mono ?_; rintro e w' ⟨rfl, rfl⟩))
      clear k1 k2 k3 k4 q1 q2 q3
      go_wp2_with fail
      go_roundw
      case rel => exact ⟨i + 1, q + eszN ⟨xi, xt, xk, xd, xm⟩, HI.out, by go_num, by rw [HSUM.out, HDS.out], Lib.hid (by rw [HTK.out, HQ.out]), Lib.hid (below_draws (below_more HB1.out _) ⟨1, rfl⟩)⟩
      case measure => have := HI.out; simp [intOf]; omega
    · have hyk : ¬ (i : Int) < (n : Int) := by omega
      have htk : es.take i = es := List.take_of_length_le (by rw [← HN.out]; omega)
      have HQ2 : Hid (q = ensz es) := Lib.hid (by rw [HQ.out, htk])
      clear hlt htk hi'
      go_wp2_with fail
      go_ret
      exact ⟨ret_int (by rw [HQ2.out]), HB.out⟩

theorem klast_any {w : World} {g : Nat} {si : Int} {la : Option Addr} {n lc : Nat} (c2 : w.cell? ⟨g, 2, none⟩ = some (.int .i64 si)) (c6 : w.cell? ⟨g, 6, none⟩ = some (.slice la n lc)) (h1 : 0 ≤ si) (h2 : si ≤ 1152921504606846976) (h3 : n ≤ 1000000) :
    Calls Tryz.prog 117 #[.pointer (some ⟨g, 0, none⟩)] w fun e w' => e = .returned (.int .i64 (si + (n : Int))) ∧ Drew w w' := by
  have hw : IntKind.i64.wrap (si + (n : Int)) = si + (n : Int) := IntWalk.i64_in _ (by omega)
  clear h2 h3
  go_enter Tryz.func117, Tryz.ntmps117
  go_wp2_with fail
  go_quiet (fail)
  go_wp2_with fail
  go_ret
  exact ⟨rfl, _, rfl⟩

theorem klive_any {w : World} {g : Nat} {sz : Nat} {sd : ByteArray} (c5 : w.cell? ⟨g, 5, none⟩ = some (.string sd)) (c7 : w.cell? ⟨g, 7, none⟩ = some (.int .i64 sz)) (h2 : sz ≤ 1000000000000) (h3 : sd.size ≤ 1000000000000) :
    Calls Tryz.prog 30 #[.pointer (some ⟨g, 0, none⟩)] w fun e w' => e = .returned (.int .i64 ((sz + sd.size : Nat) : Int)) ∧ Drew w w' := by
  have hw : wrap64 ((sz : Int) + (sd.size : Int)) = ((sz + sd.size : Nat) : Int) := by unfold wrap64; omega
  have HW := Lib.hid hw
  clear h2 h3 hw
  go_enter Tryz.func30, Tryz.ntmps30
  go_wp2_with fail
  go_quiet (fail)
  go_wp2_with fail
  go_ret
  exact ⟨ret_int HW.out, _, rfl⟩

theorem kon_yes {w : World} {g o d : Nat} (c0 : w.cell? ⟨g, o, none⟩ = some (.pointer (some ⟨d, 0, none⟩))) (c4 : w.cell? ⟨g, o + 4, none⟩ = some (.bool false)) :
    Calls Tryz.prog 20 #[.pointer (some ⟨g, o, none⟩)] w fun e w' => e = .returned (.bool true) ∧ w' = w := by
  go_enter Tryz.func20, Tryz.ntmps20
  go_wp2_with fail
  go_ret
  exact ⟨rfl, rfl⟩

theorem knote_any {w : World} {g o : Nat} {x : Value} (en : Int) (c4 : w.cell? ⟨g, o + 4, none⟩ = some x) (f4 : w.frozen? ⟨g, o + 4, none⟩ = false) :
    Calls Tryz.prog 55 #[.pointer (some ⟨g, o, none⟩), .int .i64 en] w fun e w' => e = .returned (.int .i64 en) ∧ w' = w.setCell ⟨g, o + 4, none⟩ (.bool (en == 6)) := by
  go_enter Tryz.func55, Tryz.ntmps55
  go_wp2_with fail
  go_ret
  exact ⟨rfl, rfl⟩

theorem kstorable_yes {w : World} {e : EntM} {a : Option Addr} {c : Nat} (h1 : 0 ≤ e.tm) (h2 : 0 ≤ e.kd) (h3 : e.d.size ≤ 4000) (h4 : e.ms.length ≤ 9) :
    Calls Tryz.prog 123 #[.agg #[.int .i64 e.ix, .int .i64 e.tm, .int .i64 e.kd, .string e.d, .slice a e.ms.length c]] w fun en w' => en = .returned (.bool true) ∧ Below w.heap.size w w' := by
  obtain ⟨xi, xt, xk, xd, xm⟩ := e
  dsimp only at h1 h2 h3 h4 ⊢
  obtain ⟨n, hn⟩ : ∃ n, n = xm.length := ⟨_, rfl⟩
  rw [← hn] at h4 ⊢
  have q1 : decide (0 ≤ xt) = true := decide_eq_true h1
  have q2 : decide (0 ≤ xk) = true := decide_eq_true h2
  have q3 : decide ((xd.size : Int) ≤ 4000) = true := decide_eq_true (by omega)
  have q4 : decide ((n : Int) ≤ 9) = true := decide_eq_true (by omega)
  have HB := Lib.hid (below_more (Below.refl _ w) (.cells #[.int .i64 xi, .int .i64 xt, .int .i64 xk, .string xd, .slice a n c] 32))
  clear hn
  go_enter Tryz.func123, Tryz.ntmps123
  go_wp2_with fail
  go_ret
  exact ⟨rfl, HB.out⟩

theorem vfits_yes {w : World} {ps : Value} {t q : Int} (h1 : 0 ≤ t) (h2 : 0 ≤ q) :
    Calls Tryz.prog 140 #[.agg #[.int .i64 t, .int .i64 q], ps] w fun e w' => e = .returned (.bool true) ∧ Below w.heap.size w w' := by
  have q1 : decide (0 ≤ t) = true := decide_eq_true h1
  have q2 : decide (0 ≤ q) = true := decide_eq_true h2
  have HB := Lib.hid (below_more (Below.refl _ w) (.cells #[.int .i64 t, .int .i64 q] 67))
  go_enter Tryz.func140, Tryz.ntmps140
  go_wp2_with fail
  go_ret
  exact ⟨rfl, HB.out⟩

theorem vfits_no {w : World} {ps : Value} {t q : Int} (h1 : t < 0) :
    Calls Tryz.prog 140 #[.agg #[.int .i64 t, .int .i64 q], ps] w fun e w' => e = .returned (.bool false) ∧ Below w.heap.size w w' := by
  have q1 : decide (0 ≤ t) = false := decide_eq_false (by omega)
  have HB := Lib.hid (below_more (Below.refl _ w) (.cells #[.int .i64 t, .int .i64 q] 67))
  clear h1
  go_enter Tryz.func140, Tryz.ntmps140
  go_wp2_with fail
  go_ret
  exact ⟨rfl, HB.out⟩

theorem vidle_any {w : World} {ps : Value} {t q : Int} :
    Calls Tryz.prog 141 #[.agg #[.int .i64 t, .int .i64 q], ps] w fun e w' => e = .returned (.bool false) ∧ Below w.heap.size w w' := by
  have HB := Lib.hid (below_more (Below.refl _ w) (.cells #[.int .i64 t, .int .i64 q] 67))
  go_enter Tryz.func141, Tryz.ntmps141
  go_wp2_with fail
  go_ret
  first
    | exact ⟨rfl, HB.out⟩
    | exact ⟨rfl, Below.refl _ _⟩

theorem cidle_no {w : World} {g : Nat} {si i : Int} {la : Option Addr} {n lc : Nat} (c2 : w.cell? ⟨g, 2, none⟩ = some (.int .i64 si)) (c6 : w.cell? ⟨g, 6, none⟩ = some (.slice la n lc)) (h1 : 0 ≤ si) (h2 : si ≤ 1152921504606846976) (h3 : n ≤ 1000000) (h : i ≤ si + (n : Int)) :
    Calls Tryz.prog 137 #[.int .i64 i, .pointer (some ⟨g, 0, none⟩)] w fun e w' => e = .returned (.bool false) ∧ Drew w w' := by
  have HL := Lib.hid (klast_any c2 c6 h1 h2 h3)
  have q1 : decide (si + (n : Int) < i) = false := decide_eq_false (by omega)
  clear c2 c6 h1 h2 h3 h
  go_enter Tryz.func137, Tryz.ntmps137
  go_wp2_with fail
  refine (HL.out).mono ?_
  rintro e w2 ⟨rfl, hd⟩
  have HD := Lib.hid hd
  clear hd
  go_wp2_with fail
  go_ret
  exact ⟨rfl, HD.out⟩

theorem cfits_yes {w : World} {g : Nat} {si i : Int} (c2 : w.cell? ⟨g, 2, none⟩ = some (.int .i64 si)) (h : si < i) :
    Calls Tryz.prog 136 #[.int .i64 i, .pointer (some ⟨g, 0, none⟩)] w fun e w' => e = .returned (.bool true) ∧ w' = w := by
  have q1 : decide (si < i) = true := decide_eq_true h
  go_enter Tryz.func136, Tryz.ntmps136
  go_wp2_with fail
  go_ret
  exact ⟨rfl, rfl⟩

theorem aidle_no {w : World} {ps : Value} {a : Option Addr} {n c : Nat} (h : 0 < n) :
    Calls Tryz.prog 120 #[.slice a n c, ps] w fun e w' => e = .returned (.bool false) ∧ w' = w := by
  have q1 : ((n : Int) == 0) = false := by rw [beq_eq_false_iff_ne]; omega
  clear h
  go_enter Tryz.func120, Tryz.ntmps120
  go_wp2_with fail
  go_ret
  exact ⟨rfl, rfl⟩

/-- Entries that may be kept behind one. -/
def FitsA (last : Int) (es : List EntM) : Prop := ∀ (j : Nat) (e : EntM), es[j]? = some e → e.ix = last + 1 + (j : Int) ∧ 0 ≤ e.tm ∧ 0 ≤ e.kd ∧ e.d.size ≤ 4000 ∧ e.ms.length ≤ 9

set_option maxRecDepth 100000 in
set_option maxHeartbeats 1000000 in
theorem afits_yes {w : World} {g : Nat} {si : Int} {la : Option Addr} {n lc : Nat} {lv : Value} {es : List EntM} (c2 : w.cell? ⟨g, 2, none⟩ = some (.int .i64 si)) (c6 : w.cell? ⟨g, 6, none⟩ = some (.slice la n lc)) (h1 : 0 ≤ si) (h2 : si ≤ 1152921504606846976) (h3 : n ≤ 1000000)
    (h : EntsAt w lv es) (hl : es.length ≤ 1000000) (hf : FitsA (si + (n : Int)) es) :
    Calls Tryz.prog 119 #[lv, .pointer (some ⟨g, 0, none⟩)] w fun e w' => e = .returned (.bool true) ∧ Below w.heap.size w w' := by
  have HLS := Lib.hid (klast_any c2 c6 h1 h2 h3)
  have H := Lib.hid h
  obtain ⟨A, C, rfl, hin⟩ := h
  obtain ⟨m, hmm⟩ : ∃ m, m = es.length := ⟨_, rfl⟩
  rw [← hmm] at H ⊢
  have HM := Lib.hid hmm
  have HIN := Lib.hid hin
  have HL := Lib.hid hl
  have HF := Lib.hid hf
  obtain ⟨L, hL⟩ : ∃ L, L = si + (n : Int) := ⟨_, rfl⟩
  have hL0 : 0 ≤ L := by omega
  have hL1 : L ≤ 1152921504607846976 := by omega
  rw [← hL] at HLS HF
  have hz := zero_cells Tryz.infoEntz
  have HL0 := Lib.hid hL0
  have HL1 := Lib.hid hL1
  clear hmm hin hl hf c2 c6 h1 h2 h3 hL hL0 hL1
  go_enter Tryz.func119, Tryz.ntmps119
  go_wp2_with fail
  refine (HLS.out).mono ?_
  rintro e w0 ⟨rfl, hd0⟩
  have HB0 := Lib.hid (below_draws (Below.refl w.heap.size w) hd0)
  clear hd0
  go_wp2_with fail
  go_loopw [5, 12] (fun xv iv wr => ∃ (i : Nat) (Y : Int), i ≤ m ∧ iv = .int .i64 i ∧ xv = .int .i64 Y ∧ Hid (Y = L + (i : Int)) ∧ Hid (Below w.heap.size w wr)) (fun _ iv _ => m - (intOf iv).toNat)
  case atStart => exact ⟨0, L, Nat.zero_le _, rfl, rfl, Lib.hid (by simp), HB0⟩
  case round =>
    obtain ⟨i, Y, hi', rfl, rfl, HY, HB⟩ := hrel
    obtain ⟨w1, hw1⟩ : ∃ w1 : World, w1 = wr := ⟨_, rfl⟩
    subst hw1
    by_cases hlt : i < m
    · obtain ⟨x, hx⟩ : ∃ x, es[i]? = some x := ⟨_, List.getElem?_eq_getElem (by rw [← HM.out]; exact hlt)⟩
      obtain ⟨b, o, rfl, hcell⟩ := HIN.out.resolve_left (fun e => by rw [e] at hx; simp at hx)
      obtain ⟨u, hrange, hu⟩ := hcell i x hx
      have hrange1 := rangeAt_below hrange HB.out
      obtain ⟨f1, f2, f3, f4, f5⟩ := HF.out i x hx
      obtain ⟨ua, uc, rfl⟩ := intsAt_len hu
      have HST := fun W => Lib.hid (kstorable_yes (w := W) (e := x) (a := ua) (c := uc) f2 f3 f4 f5)
      obtain ⟨xi, xt, xk, xd, xm⟩ := x
      dsimp only at hrange1 f1 HST
      obtain ⟨M, hM⟩ : ∃ M, M = xm.length := ⟨_, rfl⟩
      rw [← hM] at hrange1 HST
      have d0 : w1.cell? ⟨b, o + i * 5, none⟩ = some (.int .i64 xi) := hrange1 0 _ rfl
      have d1 : w1.cell? ⟨b, o + i * 5 + 1, none⟩ = some (.int .i64 xt) := hrange1 1 _ rfl
      have d2 : w1.cell? ⟨b, o + i * 5 + 2, none⟩ = some (.int .i64 xk) := hrange1 2 _ rfl
      have d3 : w1.cell? ⟨b, o + i * 5 + 3, none⟩ = some (.string xd) := hrange1 3 _ rfl
      have d4 : w1.cell? ⟨b, o + i * 5 + 4, none⟩ = some (.slice ua M uc) := hrange1 4 _ rfl
      have hy : (i : Int) < (m : Int) := by omega
      have hi1 : (i : Int) < 1000000 := by have := HL.out; have := HM.out; omega
      have HI := Lib.hid hlt
      have hL0 := HL0.out
      have hL1 := HL1.out
      have hY := HY.out
      obtain ⟨Z, hZ⟩ : ∃ Z : Int, Z = Y + 1 := ⟨_, rfl⟩
      have hwz : wrap64 (Y + 1) = Z := by unfold wrap64; omega
      have hz1 : 1 ≤ Z := by omega
      have hxi : xi = Z := by rw [f1]; omega
      subst hxi
      have HZ := Lib.hid hZ
      clear hZ hL0 hL1 hY
      have HST2 := Lib.hid HST
      clear hrange hrange1 hu hcell hx hlt hi' hM f1 f2 f3 f4 f5 HST
      go_upto_region 6 with (first | (refine wpList_alloc_z rfl 32 rfl #[.int .i64 0, .int .i64 0, .int .i64 0, .string ⟨#[]⟩, .slice none 0 0] hz ?_) | fail)
      rw [hwz]
      have q1 : decide (xi < 1) = false := decide_eq_false (by omega)
      clear hwz d0 d1 d2 d3 d4 hz1
      go_wp2_with fail
      refine (HST2.out _).out.mono ?_
      rintro e w3 ⟨rfl, hb3⟩
      have HB3 := Lib.hid (HB.out.trans (Below.mono (below_then (below_more (Below.refl _ _) _) hb3) HB.out.size))
      clear hb3 hz hy
      go_wp2_with fail
      go_roundw
      case rel => exact ⟨i + 1, xi, HI.out, by go_num, rfl, Lib.hid (by rw [HZ.out, HY.out]; omega), HB3⟩
      case measure => have := HI.out; simp [intOf]; omega
    · have hyk : ¬ (i : Int) < (m : Int) := by omega
      clear hlt hi'
      go_wp2_with fail
      go_ret
      exact ⟨rfl, HB.out⟩

theorem modify_self {hp : Array Obj} {g : Nat} (f : Obj → Obj) (h : ∀ o, hp[g]? = some o → f o = o) : hp.modify g f = hp := by
  apply Array.ext_getElem?
  intro i
  rw [Array.getElem?_modify]
  by_cases hi : g = i
  · subst hi
    rw [if_pos rfl]
    cases hc : hp[g]? with
    | none => rfl
    | some o => exact congrArg some (h o hc)
  · rw [if_neg hi]

theorem setCell_self {w : World} {g j : Nat} {x : Value} (h : w.cell? ⟨g, j, none⟩ = some x) : w.setCell ⟨g, j, none⟩ x = w := by
  unfold World.cell? at h
  dsimp only at h
  unfold World.setCell
  have hh := modify_self (hp := w.heap) (g := g) (fun o => match o with
      | .cells c elem frozen => .cells (c.setIfInBounds j x) elem frozen
      | o => o) (fun o ho => by
        rw [ho] at h
        cases o with
        | cells c e f =>
          simp at h
          have : c.setIfInBounds j x = c := by
            apply Array.ext_getElem?
            intro k
            rw [Array.getElem?_setIfInBounds]
            by_cases hk : j = k
            · subst hk
              rw [if_pos rfl]
              have hlt : j < c.size := by
                rcases Nat.lt_or_ge j c.size with hl | hl
                · exact hl
                · rw [Array.getElem?_eq_none hl] at h; cases h
              rw [if_pos hlt, h]
            · rw [if_neg hk]
          dsimp only
          rw [this]
        | _ => rfl)
  exact congrArg (fun hp => ({ w with heap := hp } : World)) hh

theorem rw_drew {w : World} {b g : Nat} {e : TypeId} {cs : List Value} (h : Rw w b g e cs) : Rw w.drew b g e cs := Rw.below (w' := w.drew) h (below_draws (Below.refl _ _) ⟨1, rfl⟩)

theorem kept_drew {F : Nat → Prop} {a w : World} (h : Kept F a w) : Kept F a w.drew := kept_draw (w' := w.drew) h ⟨1, rfl⟩

theorem vapply_any {w : World} {g : Nat} {cs : List Value} (h : Rw w 0 g 53 cs) (t q : Int) (x0 x1 : Value) (h0 : cs[0]? = some x0) (h1 : cs[1]? = some x1) :
    Calls Tryz.prog 139 #[.agg #[.int .i64 t, .int .i64 q], .pointer (some ⟨g, 0, none⟩)] w fun e w' => e = .returned (.tuple #[]) ∧ Rw w' 0 g 53 ((cs.set 0 (.int .i64 t)).set 1 (.int .i64 q)) ∧ Kept (fun k => k = g) w w' := by
  have hm := Rw.more h (.cells #[.int .i64 t, .int .i64 q] 67)
  have hs := Rw.stored hm 0 (.int .i64 t)
  have c0 := Rw.cell hm h0
  have f0 := Rw.free hm 0
  have c1 := Rw.cell hs (j := 1) (v := x1) (by rw [List.getElem?_set]; simpa using h1)
  have f1 := Rw.free hs 1
  have H := Lib.hid (Rw.stored hs 1 (.int .i64 q))
  have HK := Lib.hid (kept_put (kept_put (kept_alloc (kept_refl (fun k => k = g) w) (.cells #[.int .i64 t, .int .i64 q] 67)) (.inl rfl) 0 (.int .i64 t)) (.inl rfl) 1 (.int .i64 q))
  clear h h0 h1 hm hs
  go_enter Tryz.func139, Tryz.ntmps139
  go_wp2_with fail
  go_region_law (fail)
  all_goals
    go_end0
    exact ⟨rfl, rw_drew H.out, kept_drew HK.out⟩

def totL (ls : List (List UInt8)) : Nat := ls.flatten.length

theorem totL_snoc (ls : List (List UInt8)) (l : List UInt8) : totL (ls ++ [l]) = totL ls + l.length := by unfold totL; rw [List.flatten_append, List.length_append]; simp

theorem totL_take (ls : List (List UInt8)) (k : Nat) : totL (ls.take k) ≤ totL ls := by
  unfold totL
  conv => rhs; rw [← List.take_append_drop k ls]
  rw [List.flatten_append, List.length_append]
  omega

theorem own_cell1 {w : World} {base : Nat} {e : TypeId} {v : Value} {n j : Nat} {xs : List Value} {u : Value} (h : w.ownsRow base e 1 v n xs) (hu : xs[j]? = some u) : ∃ b c, v = .slice (some ⟨b, 0, none⟩) n c ∧ w.cell? ⟨b, j, none⟩ = some u := by
  have hn : n ≠ 0 := by
    intro e
    have := h.1
    rw [e] at this
    have hx : xs = [] := List.length_eq_zero_iff.1 (by omega)
    rw [hx] at hu
    simp at hu
  obtain ⟨g, c, rfl, hh⟩ := own_some h hn
  exact ⟨g, c, rfl, by rw [World.ownsRow.cellAt h j (by have := (List.getElem?_eq_some_iff.1 hu).1; have := h.1; omega), hu]⟩

theorem klength_any {w : World} {base : Nat} {v : Value} {ls : List (List UInt8)} (h : RowsOf w base v ls) (hl : totL ls ≤ 1000000000000) (hn : ls.length ≤ 1000000) :
    Calls Tryz.prog 33 #[v] w fun e w' => e = .returned (.int .i64 (totL ls)) ∧ w' = w := by
  obtain ⟨xs, hown, hrows⟩ := h
  obtain ⟨a, c, rfl⟩ := own_len hown
  obtain ⟨n, hnn⟩ : ∃ n, n = ls.length := ⟨_, rfl⟩
  rw [← hnn] at hown hn ⊢
  have HN := Lib.hid hnn
  have HNB := Lib.hid hn
  have HL := Lib.hid hl
  have HO := Lib.hid hown
  have HRW := Lib.hid hrows
  clear hnn hn hl hown hrows
  go_enter Tryz.func33, Tryz.ntmps33
  go_wp2_with fail
  go_loop [3, 8] (fun sv iv => ∃ (i q : Nat), i ≤ n ∧ iv = .int .i64 i ∧ sv = .int .i64 q ∧ Hid (q = totL (ls.take i))) (fun _ iv => n - (intOf iv).toNat)
  case atStart => exact ⟨0, 0, Nat.zero_le _, rfl, rfl, Lib.hid rfl⟩
  case round =>
    obtain ⟨i, q, hi', rfl, rfl, HQ⟩ := hrel
    by_cases hlt : i < n
    · obtain ⟨x, hx⟩ : ∃ x, ls[i]? = some x := ⟨_, List.getElem?_eq_getElem (by rw [← HN.out]; exact hlt)⟩
      obtain ⟨u, hu, hown1⟩ := HRW.out i x hx
      obtain ⟨ua, uc, rfl⟩ := own_len hown1
      obtain ⟨b, c1, hv, d0⟩ := own_cell1 HO.out hu
      injection hv with e1 e2 e3
      subst e1
      clear e2 e3
      have hy : (i : Int) < (n : Int) := by omega
      have hi1 : (i : Int) < 1000000 := by have := HNB.out; omega
      have hsum : totL (ls.take i) + x.length ≤ totL ls := by
        have h1 := totL_take ls (i + 1)
        rw [take_succ_of hx, totL_snoc] at h1
        exact h1
      have hq1 : (q : Int) + (x.length : Int) ≤ 1000000000000 := by
        have := HQ.out
        have := HL.out
        omega
      obtain ⟨X, hX⟩ : ∃ X, X = x.length := ⟨_, rfl⟩
      rw [← hX] at d0 hq1
      have hw1 : wrap64 ((q : Int) + (X : Int)) = ((q + X : Nat) : Int) := by unfold wrap64; omega
      have HW1 := Lib.hid hw1
      have HI := Lib.hid hlt
      have HTK := Lib.hid (show totL (ls.take (i + 1)) = totL (ls.take i) + X by rw [take_succ_of hx, totL_snoc, hX])
      clear hu hown1 hx hlt hi' hsum hX hq1 hw1
      go_wp2_with fail
      go_roundw
      case rel => exact ⟨i + 1, q + X, HI.out, by go_num, by rw [← HW1.out], Lib.hid (by rw [HTK.out, HQ.out])⟩
      case measure => have := HI.out; simp [intOf]; omega
    · have hyk : ¬ (i : Int) < (n : Int) := by omega
      have htk : ls.take i = ls := List.take_of_length_le (by rw [← HN.out]; omega)
      have HQ2 : Hid (q = totL ls) := Lib.hid (by rw [HQ.out, htk])
      clear hlt htk hi'
      go_wp2_with fail
      go_ret
      exact ⟨ret_int (by rw [HQ2.out]), rfl⟩

theorem kworn_no {w : World} {g sz : Nat} (c3 : w.cell? ⟨g, 11, none⟩ = some (.int .i64 sz)) (more live : Nat) (h : sz + more ≤ 2 * live + 500) (h1 : sz ≤ 1000000000) (h2 : more ≤ 1000000000) (h3 : live ≤ 1000000000) :
    Calls Tryz.prog 32 #[.pointer (some ⟨g, 8, none⟩), .int .i64 more, .int .i64 live] w fun e w' => e = .returned (.bool false) ∧ w' = w := by
  have q1 : ¬ (2 * (live : Int) + 500 < (sz : Int) + (more : Int)) := by omega
  go_enter Tryz.func32, Tryz.ntmps32
  go_wp2_with fail
  go_ret
  exact ⟨rfl, rfl⟩

theorem keptZ_trans {w0 w w1 w2 : World} {Z : Nat → Prop} (h : KeptZ w0 w w1 Z) (k : KeptZ w0 w1 w2 Z) : KeptZ w0 w w2 Z := ⟨Nat.le_trans h.1 k.1, fun b hb hz => (k.2 b (Nat.lt_of_lt_of_le hb h.1) hz).trans (h.2 b hb hz)⟩

theorem kwrite_ok {w0 w : World} {Z : Nat → Prop} {g kb : Nat} {D D1 D2 : CodM} (h : DIn w0 w Z g D) (hZk : Z kb) (s : ByteArray) (ls : List (List UInt8)) (v : Value) (hp : PartsZ w (fun k => k < w0.heap.size ∨ Z k) v ls) (hl : totL ls < 1099511627776) (hn : ls.length < 9223372036854775807)
    (c0 : w.cell? ⟨kb, 8, none⟩ = some (.pointer (some ⟨g, 0, none⟩))) (c4 : w.cell? ⟨kb, 12, none⟩ = some (.bool false)) (f4 : w.frozen? ⟨kb, 12, none⟩ = false) (hok : CodOk D) (hok1 : CodOk D1) (hs : s.size ≤ maxLen) (ha : appM D s.data.toList ls.flatten = (0, D1)) (hy : synM D1 [s] = (0, D2)) :
    Calls Tryz.prog 54 #[.pointer (some ⟨kb, 8, none⟩), .string s, v] w fun e w' => e = .returned (.int .i64 0) ∧ DIn w0 w' Z g D2 ∧ KeptZ w0 w w' Z := by
  have HZA := Lib.hid (zapp_any h s ls v hok hp hl hn)
  rw [ha] at HZA
  have HOK1 := Lib.hid hok1
  have HS := Lib.hid hs
  have HY := Lib.hid hy
  have HC0 := Lib.hid c0
  have HC4 := Lib.hid c4
  have HF4 := Lib.hid f4
  have HZK := Lib.hid hZk
  have hlt := block_of_cell c0
  have HLT := Lib.hid hlt
  clear h hok hok1 hp hl hn ha hy hs c4 f4 hlt hZk
  go_enter Tryz.func54, Tryz.ntmps54
  go_wp2_with fail
  refine (HZA.out).mono ?_
  rintro e w1 ⟨rfl, hd1, hk1⟩
  have c0' : w1.cell? ⟨kb, 8, none⟩ = some (.pointer (some ⟨g, 0, none⟩)) := cell_same c0 (hk1.2 kb HLT.out (.inr HZK.out))
  have HD1 := Lib.hid hd1
  have HK1 := Lib.hid hk1
  clear hd1 hk1 c0
  go_wp2_with fail
  refine (zsyn_sl HD1.out s _ _ _ rfl HOK1.out HS.out 0 D2 HY.out).mono ?_
  rintro e w2 ⟨rfl, hd2, hk2⟩
  have hkk : KeptZ w0 w w2 Z := keptZ_trans HK1.out hk2
  have hb2 := hkk.2 kb HLT.out (.inr HZK.out)
  have HC := Lib.hid (cell_same HC4.out hb2)
  have HN := Lib.hid (knote_any (w := w2) (g := kb) (o := 8) 0 (cell_same HC4.out hb2) (by
    have := HF4.out
    unfold World.frozen? at this ⊢
    dsimp only at this ⊢
    rw [hb2]
    exact this))
  have HD2 := Lib.hid hd2
  have HKK := Lib.hid hkk
  clear hd2 hk2 hkk hb2
  go_wp2_with fail
  refine (HN.out).mono ?_
  rintro e w3 ⟨rfl, hw3⟩
  rw [show (Value.bool ((0 : Int) == 6)) = .bool false from rfl, setCell_self HC.out] at hw3
  subst hw3
  go_wp2_with fail
  go_ret
  exact ⟨rfl, HD2.out, HKK.out⟩

theorem own_byteZ {w : World} {base : Nat} {Z : Nat → Prop} {u : Value} {l : List UInt8} (h : w.ownsRow base 5 1 u l.length (l.map byteV)) (hZ : ∀ k, base ≤ k → k < w.heap.size → Z k) : ByteZ w Z u l := by
  have hlt := fun k (hk : u.ownBlock = some k) => own_lt h hk
  rcases h.2 with ⟨hv, h0⟩ | ⟨g, cap, cur, hv, hb, _, hc, _⟩
  · have : l = [] := List.eq_nil_of_length_eq_zero h0
    subst this
    exact .inl ⟨hv, rfl⟩
  · refine .inr ⟨⟨g, 0, none⟩, cap, hv, hc, .inr ⟨g, 0, rfl, hZ g hb (hlt g (by rw [hv]; rfl)), fun j x hj => ?_⟩⟩
    subst hv
    have hjl := (List.getElem?_eq_some_iff.1 hj).1
    rw [Nat.zero_add, World.ownsRow.cellAt h j (by omega), List.getElem?_map, hj]
    rfl

theorem rows_partsZ {w : World} {base : Nat} {Z : Nat → Prop} {v : Value} {ls : List (List UInt8)} (h : RowsOf w base v ls) (hZ : ∀ k, base ≤ k → k < w.heap.size → Z k) : PartsZ w Z v ls := by
  obtain ⟨xs, ho, hx⟩ := h
  have hlt := fun k (hk : v.ownBlock = some k) => own_lt ho hk
  rcases ho.2 with ⟨hv, h0⟩ | ⟨g, cap, cur, hv, hb, _, hc, _⟩
  · exact .inl ⟨hv, List.eq_nil_of_length_eq_zero h0⟩
  · refine .inr ⟨⟨g, 0, none⟩, cap, hv, .inr ⟨g, 0, rfl, hZ g hb (hlt g (by rw [hv]; rfl)), fun j l hj => ?_⟩⟩
    obtain ⟨u, hu, hou⟩ := hx j l hj
    subst hv
    have hjl := (List.getElem?_eq_some_iff.1 hj).1
    exact ⟨u, by rw [Nat.zero_add, World.ownsRow.cellAt ho j (by omega), hu], own_byteZ hou hZ⟩

theorem kown_ge {w : World} {base : Nat} {e : TypeId} {s n : Nat} {v : Value} {xs : List Value} (h : w.ownsRow base e s v n xs) {k : Nat} (hk : v.ownBlock = some k) : base ≤ k := by
  rcases h.2 with ⟨hv, _⟩ | ⟨g, cap, cur, hv, hb, _⟩
  · rw [hv] at hk; simp [Value.ownBlock] at hk
  · rw [hv] at hk; simp [Value.ownBlock] at hk; omega

theorem rowsOf_kz {w w' : World} {base : Nat} {v : Value} {ls : List (List UInt8)} (h : RowsOf w base v ls) (hk : ∀ k, base ≤ k → k < w.heap.size → w'.heap[k]? = w.heap[k]?) : RowsOf w' base v ls := by
  obtain ⟨xs, ho, hx⟩ := h
  refine ⟨xs, own_same ho (fun g hg => hk g (kown_ge ho hg) (own_lt ho hg)), fun j l hj => ?_⟩
  obtain ⟨u, hu, hou⟩ := hx j l hj
  exact ⟨u, hu, own_same hou (fun g hg => hk g (kown_ge hou hg) (own_lt hou hg))⟩

theorem partsZ_more {w : World} {Z Y : Nat → Prop} {v : Value} {ls : List (List UInt8)} (h : PartsZ w Z v ls) (hZ : ∀ k, Z k → Y k) : PartsZ w Y v ls := by
  rcases h with h | ⟨A, C, h1, h2⟩
  · exact .inl h
  · refine .inr ⟨A, C, h1, ?_⟩
    rcases h2 with h2 | ⟨b, o, h2, h3, h4⟩
    · exact .inl h2
    · refine .inr ⟨b, o, h2, hZ b h3, fun j l hj => ?_⟩
      obtain ⟨u, hu, hb⟩ := h4 j l hj
      refine ⟨u, hu, ?_⟩
      rcases hb with hb | ⟨ad, c, k1, k2, k3⟩
      · exact .inl hb
      · refine .inr ⟨ad, c, k1, k2, ?_⟩
        rcases k3 with k3 | ⟨b2, o2, k3, k4, k5⟩
        · exact .inl k3
        · exact .inr ⟨b2, o2, k3, hZ b2 k4, k5⟩

/-- The room that a change of a Keep is stored in. -/
structure StoK (w0 w : World) (Z : Nat → Prop) (g kb sz : Nat) (s : ByteArray) (D D1 D2 : CodM) (ls : List (List UInt8)) : Prop where
  din : DIn w0 w Z g D
  zk : Z kb
  tl : totL ls ≤ 1000000
  ln : ls.length ≤ 1000000
  c0 : w.cell? ⟨kb, 8, none⟩ = some (.pointer (some ⟨g, 0, none⟩))
  c1 : w.cell? ⟨kb, 9, none⟩ = some (.string s)
  c3 : w.cell? ⟨kb, 11, none⟩ = some (.int .i64 sz)
  c4 : w.cell? ⟨kb, 12, none⟩ = some (.bool false)
  fr : ∀ j, w.frozen? ⟨kb, j, none⟩ = false
  ok : CodOk D
  ok1 : CodOk D1
  hs : s.size ≤ maxLen
  sz : sz ≤ 1000000000
  ha : appM D s.data.toList ls.flatten = (0, D1)
  hy : synM D1 [s] = (0, D2)

theorem dIn_drew {w0 w : World} {Z : Nat → Prop} {g : Nat} {D : CodM} (h : DIn w0 w Z g D) : DIn w0 w.drew Z g D := dIn_less (dIn_new h (below_draws (Below.refl _ _) ⟨1, rfl⟩)) (fun _ hk => .inl hk)

def KaddV (w0 w w' : World) (Z : Nat → Prop) (g kb sz : Nat) (D2 : CodM) : Prop := ∃ w1, DIn w0 w1 Z g D2 ∧ KeptZ w0 w w1 Z ∧ w' = w1.setCell ⟨kb, 11, none⟩ (.int .i64 sz)

set_option maxRecDepth 100000 in
set_option maxHeartbeats 1000000 in
theorem kadd_ok {w0 w : World} {Z : Nat → Prop} {g kb sz base : Nat} {s : ByteArray} {D D1 D2 : CodM} {ls : List (List UInt8)} (h : StoK w0 w Z g kb sz s D D1 D2 ls) {v : Value} (hr : RowsOf w base v ls) (hZb : ∀ k, base ≤ k → k < w.heap.size → Z k) :
    Calls Tryz.prog 34 #[.pointer (some ⟨kb, 8, none⟩), v] w fun e w' => e = .returned (.int .i64 0) ∧ KaddV w0 w w' Z g kb (sz + totL ls) D2 := by
  have hps := partsZ_more (rows_partsZ hr hZb) (Y := fun k => k < w0.heap.size ∨ Z k) (fun k hk => .inr hk)
  have htl := h.tl
  unfold totL at htl
  have HW := Lib.hid (kwrite_ok h.din h.zk s ls v hps (by unfold totL; omega) (by have := h.ln; omega) h.c0 h.c4 (h.fr 12) h.ok h.ok1 h.hs h.ha h.hy)
  have HLT := Lib.hid (block_of_cell h.c0)
  have HR := Lib.hid hr
  have HZB := Lib.hid hZb
  have H := Lib.hid h
  have c1 := h.c1
  have hw1 : wrap64 ((sz : Int) + ((totL ls : Nat) : Int)) = ((sz + totL ls : Nat) : Int) := by have := h.sz; have := h.tl; unfold wrap64; omega
  obtain ⟨T, hT⟩ : ∃ T, T = totL ls := ⟨_, rfl⟩
  rw [← hT] at hw1 ⊢
  have HTT := Lib.hid hT
  have HW1 := Lib.hid hw1
  have HW2 : Hid (IntKind.i64.wrap ((sz : Int) + (T : Int)) = ((sz + T : Nat) : Int)) := Lib.hid (by rw [← hw1, IntWalk.i64_in _ (by have := h.sz; have := h.tl; omega), hw1]; omega)
  clear h hr hZb hps htl hw1 hT
  go_enter Tryz.func34, Tryz.ntmps34
  go_wp2_with fail
  refine (HW.out).mono ?_
  rintro e w1 ⟨rfl, hd1, hk1⟩
  have hb1 := hk1.2 kb HLT.out (.inr H.out.zk)
  have c3 := cell_same H.out.c3 hb1
  have f3 : w1.frozen? ⟨kb, 11, none⟩ = false := by
    have := H.out.fr 11
    unfold World.frozen? at this ⊢
    dsimp only at this ⊢
    rw [hb1]
    exact this
  have HLEN := Lib.hid (klength_any (rowsOf_kz (w' := w1.drew) HR.out (fun k h1 h2 => hk1.2 k h2 (.inr (HZB.out k h1 h2)))) (by have := H.out.tl; omega) H.out.ln)
  rw [← HTT.out] at HLEN
  have HD1 := Lib.hid (dIn_drew hd1)
  have HK1 := Lib.hid (show KeptZ w0 w w1.drew Z from hk1)
  obtain ⟨ra, rc, rfl⟩ := rowsOf_len HR.out
  have henter : Enters Tryz.prog 33 := enters_of Tryz.func33 (by kernel_rfl) rfl
  have hw1 := HW1.out
  have hw2 := HW2.out
  obtain ⟨N, hN⟩ : ∃ N, N = ls.length := ⟨_, rfl⟩
  rw [← hN] at HLEN ⊢
  clear hd1 hk1 c1 hb1 hN
  go_wp2_with fail
  go_region_law (refine step_call rfl 33 _ _ rfl #[.slice ra N rc] (by simp [go_sem]) henter HLEN.out ?_; rintro e w5 ⟨rfl, rfl⟩; refine ⟨_, rfl, ?_⟩)
  all_goals
    go_wp2_with fail
    go_ret
    exact ⟨rfl, w1.drew, HD1.out, HK1.out, by rw [Int.natCast_add]; rfl⟩

theorem dIn_low {w0 w w' : World} {Z Y : Nat → Prop} {g : Nat} {D : CodM} (h : DIn w0 w Z g D) (hb : Below w.heap.size w w') (hY : ∀ k, Y k → Z k ∨ (w.heap.size ≤ k ∧ k < w'.heap.size)) : DIn w0 w' Y g D := dIn_less (dIn_new h hb) hY

theorem frozen_kept {w w' : World} {b j : Nat} {x : Bool} (h : w.frozen? ⟨b, j, none⟩ = x) (hb : w'.heap[b]? = w.heap[b]?) : w'.frozen? ⟨b, j, none⟩ = x := by
  unfold World.frozen? at h ⊢
  dsimp only at h ⊢
  rw [hb]
  exact h

theorem stoK_below {w0 w w' : World} {Z : Nat → Prop} {g kb sz : Nat} {s : ByteArray} {D D1 D2 : CodM} {ls : List (List UInt8)} (h : StoK w0 w Z g kb sz s D D1 D2 ls) (hb : Below w.heap.size w w') : StoK w0 w' (fun k => Z k ∨ (w.heap.size ≤ k ∧ k < w'.heap.size)) g kb sz s D D1 D2 ls :=
  have e := hb.block kb (block_of_cell h.c0)
  ⟨dIn_low h.din hb (fun _ hk => hk), .inl h.zk, h.tl, h.ln, cell_same h.c0 e, cell_same h.c1 e, cell_same h.c3 e, cell_same h.c4 e, fun j => frozen_kept (h.fr j) e, h.ok, h.ok1, h.hs, h.sz, h.ha, h.hy⟩

theorem kaddV_less {w0 w wm w' : World} {Z Y : Nat → Prop} {g kb sz : Nat} {D2 : CodM} (h : KaddV w0 wm w' Y g kb sz D2) (hb : Below w.heap.size w wm) (hY : ∀ k, Z k → Y k) : KaddV w0 w w' Z g kb sz D2 := by
  obtain ⟨w1, h1, h2, h3⟩ := h
  refine ⟨w1, dIn_less h1 hY, ⟨Nat.le_trans hb.size h2.1, fun k hk hz => ?_⟩, h3⟩
  rw [h2.2 k (Nat.lt_of_lt_of_le hk hb.size) (hz.imp id (hY k)), hb.block k hk]

set_option maxRecDepth 100000 in
set_option maxHeartbeats 1000000 in
theorem kstore_ok {w0 w : World} {Z : Nat → Prop} {g kb gn sz lsz : Nat} {s sd : ByteArray} {D D1 D2 : CodM} {c : ChM} {T : TypeId} {pl : Value} (h : StoK w0 w Z g kb sz s D D1 D2 (chFrS [c])) (hch : ChV w (.iface T pl) c) (hsc : szCh c < 131072) (hn : NibAt w)
    (c5 : w.cell? ⟨gn, 5, none⟩ = some (.string sd)) (c7 : w.cell? ⟨gn, 7, none⟩ = some (.int .i64 lsz)) (h1 : lsz + sd.size ≤ 1000000) (h2 : sz + totL (chFrS [c]) ≤ 500) :
    Calls Tryz.prog 21 #[.pointer (some ⟨kb, 0, none⟩), .pointer (some ⟨gn, 0, none⟩), .iface T pl] w fun e w' => e = .returned (.int .i64 0) ∧ KaddV w0 w w' Z g kb (sz + totL (chFrS [c])) D2 := by
  have HLV := fun W (hb : Below w.heap.size w W) => Lib.hid (klive_any (w := W) (g := gn) (sz := lsz) (sd := sd) (cell_same c5 (hb.block gn (block_of_cell c5))) (cell_same c7 (hb.block gn (block_of_cell c7))) (by omega) (by omega))
  have H := Lib.hid h
  have HCH := Lib.hid hch
  have HN := Lib.hid hn
  have HSC := Lib.hid hsc
  have HLV2 := Lib.hid HLV
  have HT2 := Lib.hid h2
  obtain ⟨TT, hTT⟩ : ∃ TT, TT = totL (chFrS [c]) := ⟨_, rfl⟩
  rw [← hTT]
  have HTT := Lib.hid hTT
  clear hTT
  obtain ⟨M, hM⟩ : ∃ M, M = lsz + sd.size := ⟨_, rfl⟩
  have hMb : (M : Int) ≤ 1000000 := by omega
  have HM := Lib.hid hM
  rw [← hM] at HLV2
  clear h hch hn c5 c7 HLV h1 hM hsc h2
  go_enter Tryz.func21, Tryz.ntmps21
  go_wp2_with fail
  refine ((HLV2.out w (Below.refl _ _)).out).mono ?_
  rintro e wa ⟨rfl, hda⟩
  have hba := below_draws (Below.refl w.heap.size w) hda
  have hcha := chV_below HCH.out hba
  have HFR := Lib.hid (kframes_any (w := wa.alloc (.cells #[.iface T pl] 72)) (lv := .slice (some ⟨wa.heap.size, 0, none⟩) 1 1) (cs := [c]) ⟨_, _, rfl, .inr ⟨wa.heap.size, 0, rfl, fun j x hj => by
    cases j with
    | zero => simp at hj; subst hj; exact ⟨_, cell_one_new _ _ _ 0 _ rfl, chV_below hcha (below_more (Below.refl _ _) _)⟩
    | succ j => simp at hj⟩⟩ (nib_stay HN.out (below_then hba (below_more (Below.refl _ _) _))) (fun x hx => by simp at hx; subst hx; exact HSC.out) (by simp))
  have HBA := Lib.hid hba
  clear hda hba hcha
  go_wp2_with fail
  refine (HFR.out).mono ?_
  rintro e wb ⟨v, rfl, hrb, hbb⟩
  have HRB := Lib.hid hrb
  have HBB := Lib.hid (below_then HBA.out (below_then (below_more (Below.refl _ wa) _) hbb))
  obtain ⟨ra, rc, rfl⟩ := rowsOf_len hrb
  have hTT := HTT.out
  have hdn : ∀ n, Below w.heap.size w (wb.drewN n) := fun n => below_draws HBB.out ⟨n, rfl⟩
  have hle : w.heap.size ≤ (wa.alloc (.cells #[.iface T pl] 72)).heap.size := Nat.le_trans HBA.out.size (below_more (Below.refl _ wa) _).size
  have HADD : Hid (∀ n, Calls Tryz.prog 34 #[.pointer (some ⟨kb, 8, none⟩), .slice ra (chFrS [c]).length rc] (wb.drewN n) fun e w' => e = .returned (.int .i64 0) ∧ KaddV w0 w w' Z g kb (sz + TT) D2) := Lib.hid (fun n => by
    have hst := stoK_below H.out (hdn n)
    have hrn := rowsOf_keep hrb (below_draws (Below.refl _ _) ⟨n, rfl⟩ : Below wb.heap.size wb (wb.drewN n))
    refine (kadd_ok hst hrn (fun k h1 h2 => .inr ⟨Nat.le_trans hle h1, h2⟩)).mono (fun e w' ⟨he, hv⟩ => ⟨he, ?_⟩)
    rw [← hTT] at hv
    exact kaddV_less hv (hdn n) (fun k hk => .inl hk))
  have HLEN : Hid (∀ n, Calls Tryz.prog 33 #[.slice ra (chFrS [c]).length rc] (wb.drewN n) fun e w' => e = .returned (.int .i64 (TT : Int)) ∧ w' = wb.drewN n) := Lib.hid (fun n => by
    have hrn := rowsOf_keep hrb (below_draws (Below.refl _ _) ⟨n, rfl⟩ : Below wb.heap.size wb (wb.drewN n))
    rw [hTT]
    exact klength_any hrn (by have := H.out.tl; omega) H.out.ln)
  have HLIV : Hid (∀ n, Calls Tryz.prog 30 #[.pointer (some ⟨gn, 0, none⟩)] (wb.drewN n) fun e w' => e = .returned (.int .i64 (M : Int)) ∧ ∃ m, w' = (wb.drewN n).drewN m) := Lib.hid (fun n => (HLV2.out _ (hdn n)).out)
  have HWO : Hid (∀ n, Calls Tryz.prog 32 #[.pointer (some ⟨kb, 8, none⟩), .int .i64 (TT : Int), .int .i64 (M : Int)] (wb.drewN n) fun e w' => e = .returned (.bool false) ∧ w' = wb.drewN n) := Lib.hid (fun n => by
    have c3 := cell_same H.out.c3 ((hdn n).block kb (block_of_cell H.out.c3))
    have := HT2.out
    rw [← hTT] at this
    exact kworn_no c3 TT M (by omega) (by omega) (by omega) (by omega))
  obtain ⟨N, hN⟩ : ∃ N, N = (chFrS [c]).length := ⟨_, rfl⟩
  rw [← hN] at HADD HLEN
  rw [← hN]
  clear hrb hbb hdn hle hTT hN
  go_wp2_with fail
  go_quiet (first | (go_at_call 33; exact Calls.quiet_of_same (HLEN.out _)) | (go_at_call 30; exact Calls.quiet_of (HLIV.out _)) | (go_at_call 32; exact Calls.quiet_of_same (HWO.out _)))
  go_wp2_with fail
  refine (HADD.out _).mono ?_
  rintro e w6 ⟨rfl, hv6⟩
  have HV6 := Lib.hid hv6
  clear hv6
  go_wp2_with fail
  go_ret
  exact ⟨rfl, HV6.out⟩

end Go.Proofs.YtageldnhchgplaaGreatDoor
