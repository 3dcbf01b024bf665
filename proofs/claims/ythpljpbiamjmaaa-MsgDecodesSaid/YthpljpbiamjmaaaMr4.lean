/- Contracts: the reference: Lay, ints and texts behind bytes: which block turns. -/
import Derived.BigRegion
import Derived.Deep.RegionHeld3
import Derived.Deep.AppendLies
import Derived.Lib.AppendStr
import Derived.Test.YthpljpbiamjmaaaProg
import Derived.Test.YthpljpbiamjmaaaKit
import Derived.Test.YthpljpbiamjmaaaInfo
import Derived.Test.YthpljpbiamjmaaaRow
import Derived.Test.YthpljpbiamjmaaaCod7
import Derived.Test.YthpljpbiamjmaaaFrm0
import Derived.Test.YthpljpbiamjmaaaFrm2
import Derived.Test.YthpljpbiamjmaaaFrm4
import Derived.Test.YthpljpbiamjmaaaFp
import Derived.Test.YthpljpbiamjmaaaKp0
import Derived.Test.YthpljpbiamjmaaaKp2
import Derived.Test.YthpljpbiamjmaaaKp3
import Derived.Test.YthpljpbiamjmaaaMg0
import Derived.Test.YthpljpbiamjmaaaMg2
namespace Go.Proofs.Ythpljpbiamjmaaa
open Go.RowKit Go.Proofs

def RowF (w W : World) (v v1 : Value) (l : List UInt8) : Prop := W.ownsRow 0 5 1 v1 l.length (l.map byteV) ∧ (∀ k, v1.ownBlock = some k → v.ownBlock = some k ∨ w.heap.size ≤ k) ∧ Kept (fun k => v.ownBlock = some k) w W

def RetF (w w' : World) (v : Value) (e : Ending) (l : List UInt8) : Prop := ∃ v', e = .returned v' ∧ RowF w w' v v' l

theorem rowF_refl {w : World} {v : Value} {l : List UInt8} (h : w.ownsRow 0 5 1 v l.length (l.map byteV)) : RowF w w v v l := ⟨h, fun _ hk => .inl hk, kept_refl _ _⟩

theorem rowF_then {w W W2 : World} {v v1 v2 : Value} {l l2 : List UInt8} (h : RowF w W v v1 l) (h2 : RowF W W2 v1 v2 l2) : RowF w W2 v v2 l2 := ⟨h2.1, fun k hk => by
  rcases h2.2.1 k hk with h3 | h3
  · exact h.2.1 k h3
  · exact .inr (Nat.le_trans h.2.2.size h3), kept_then h.2.2 h2.2.2 (fun x hx => h.2.1 x hx)⟩

theorem rowF_below {w W W2 : World} {v v1 : Value} {l : List UInt8} (h : RowF w W v v1 l) (hb : Below W.heap.size W W2) : RowF w W2 v v1 l := ⟨own_below h.1 hb, h.2.1, kept_then (G := fun _ => False) h.2.2 (kept_below hb) (fun _ h => h.elim)⟩

theorem rowF_grow {w W W1 W4 : World} {v v1 v4 : Value} {l l4 : List UInt8} (h : RowF w W v v1 l) (hb : Below W.heap.size W W1) (hg : W1.grownBy W4 v1.ownBlock) (h4 : W4.ownsRow 0 5 1 v4 l4.length (l4.map byteV)) (hat : ∀ k, v4.ownBlock = some k → v1.ownBlock = some k ∨ W.heap.size ≤ k) : RowF w W4 v v4 l4 :=
  rowF_then h ⟨h4, hat, kept_grown (kept_below hb) hg (fun _ hk => .inl hk)⟩

theorem u64_nat (N : Nat) (h : N < 9223372036854775808) : IntKind.u64.wrap (N : Int) = (N : Int) := by
  show (N : Int) % 18446744073709551616 = _
  omega

theorem lay1_byte (n : Nat) : Value.int .u8 ((n : Int) % 256) = byteV (UInt8.ofNat n) := by
  unfold byteV
  rw [UInt8.toNat_ofNat']
  congr 1

theorem layS_one (n : Nat) : layS 1 n = [UInt8.ofNat n] := by unfold layS layS; simp

set_option maxRecDepth 100000 in
set_option maxHeartbeats 2000000 in
theorem rlay_any {w : World} {v : Value} {l : List UInt8} (h : w.ownsRow 0 5 1 v l.length (l.map byteV)) (n V : Nat) (hn : n ≤ 8) (hV : V < 9223372036854775808) (hM : l.length ≤ 1000000000) :
    Calls Try.prog 21 #[v, .int .i64 n, .int .u64 (V : Int)] w fun e w' => RetF w w' v e (l ++ layS n V) := by
  obtain ⟨i0, hi0, hz0, hz1, hz2⟩ := info_parts Try.infoByte
  obtain ⟨a0, c0, rfl⟩ := own_len h
  obtain ⟨M, hMM⟩ : ∃ M, M = l.length := ⟨_, rfl⟩
  rw [← hMM] at h hM ⊢
  have H0 : Hid (RowF w w (.slice a0 M c0) (.slice a0 M c0) (l ++ (layS n V).take 0)) := Lib.hid (by
    have := rowF_refl (w := w) (v := .slice a0 M c0) (l := l) (by rw [← hMM]; exact h)
    simpa using this)
  have HM := Lib.hid hM
  have HMM := Lib.hid hMM
  have hV1 : (V : Int) < 9223372036854775808 := by omega
  clear h hV hM hMM
  go_enter Try.func21, Try.ntmps21
  go_wp2_with fail
  go_loopw [0, 7] (fun v i wr => ∃ (k X : Nat) (ii : Int) (a : Option Addr) (c : Nat), v = .slice a X c ∧ i = .int .i64 ii ∧ k ≤ n ∧ ii = (n : Int) - 1 - (k : Int) ∧ Hid (X = M + k) ∧ Hid (RowF w wr (.slice a0 M c0) (.slice a X c) (l ++ (layS n V).take k))) (fun _ i _ => (intOf i + 1).toNat)
  case atStart => exact ⟨0, M, _, a0, c0, rfl, rfl, Nat.zero_le _, by omega, Lib.hid rfl, H0⟩
  case round =>
    clear H0
    obtain ⟨k, X, ii, a, c, rfl, rfl, hk, hii, HX, HR⟩ := hrel
    obtain ⟨w1, hw1⟩ : ∃ w1 : World, w1 = wr := ⟨_, rfl⟩
    subst hw1
    by_cases hlt : k < n
    · obtain ⟨j, hj⟩ : ∃ j, j = n - 1 - k := ⟨_, rfl⟩
      obtain rfl : ii = (j : Int) := by omega
      have hj8 : (j : Int) < 8 := by omega
      have hXL : (l ++ (layS n V).take k).length = X := by rw [List.length_append, List.length_take, layS_len, HX.out, ← HMM.out]; omega
      have HXL := Lib.hid hXL
      have HO : Hid (w1.ownsRow 0 5 1 (.slice a X c) X ((l ++ (layS n V).take k).map byteV)) := Lib.hid (by have h := HR.out.1; rw [hXL] at h; exact h)
      have HMX : Hid (X + 1 ≤ maxLen) := Lib.hid (by have := HX.out; have := HM.out; unfold maxLen; omega)
      have HBT : Hid ((X + 1) * 1 ≤ 140737488355328) := Lib.hid (by have := HX.out; have := HM.out; omega)
      have HVB := Lib.hid (lay_byte V j)
      have HS : Hid (l ++ (layS n V).take (k + 1) = (l ++ (layS n V).take k) ++ [UInt8.ofNat (V / 256 ^ j)]) := Lib.hid (by rw [lay_snoc n V k hlt, List.append_assoc, hj])
      have HJ := Lib.hid hj
      have HKL := Lib.hid hlt
      clear hii hj hlt hk hXL
      go_wp2_with (refine wpList_append_lies _ rfl _ _ 30 rfl 0 5 i0 (.int .u8 0) 1 1 Try.underlying30 hi0 hz0 hz1 hz2 rfl (by decide) (.slice a X c) X _ rfl (HO.out.alloc _) ⟨w1.heap.size, 0, none⟩ 1 1 [_] rfl rfl (World.news_of_block (heap_alloc_new w1 _)) (num_one _ _) (by decide) HMX.out HBT.out (Nat.zero_le _) (w1.heap.size + 1) (by simp) ?_; intro gg cap w4 hown4 hgrow hat hlt4; have HG4 := Lib.hid hgrow; have HO4 := Lib.hid hown4; have HAT := Lib.hid hat; clear hown4 hgrow hat hlt4)
      go_roundw
      case rel =>
        have hX := HX.out
        have hk := HKL.out
        have hj := HJ.out
        refine ⟨k + 1, X + 1, _, some ⟨gg, 0, none⟩, cap, rfl, rfl, by omega, by omega, Lib.hid (by omega), Lib.hid ?_⟩
        rw [HS.out]
        refine rowF_grow HR.out (below_more (Below.refl _ _) _) HG4.out ?_ (fun k hk => by
          simp only [Value.ownBlock, Option.some.injEq] at hk
          subst hk
          exact HAT.out.imp id (fun h => by omega))
        have h := HO4.out
        rw [HVB.out] at h
        rw [List.length_append, List.map_append, HXL.out]
        exact h
      case measure => simp [intOf]
    · have hneg : ii < 0 := by omega
      have HE : Hid (RowF w w1 (.slice a0 M c0) (.slice a X c) (l ++ layS n V)) := Lib.hid (by
        have h := HR.out
        rwa [List.take_of_length_le (by rw [layS_len]; omega)] at h)
      clear hV1 hn hii hlt hk
      go_wp2_with fail
      go_ret
      exact ⟨_, rfl, HE.out⟩

set_option maxRecDepth 100000 in
set_option maxHeartbeats 2000000 in
theorem rints_any {w : World} {v : Value} {l0 : List UInt8} (h : w.ownsRow 0 5 1 v l0.length (l0.map byteV)) {lv : Value} {l : List Int} (hp : ∀ w', Kept (fun k => v.ownBlock = some k) w w' → IntsAt w' lv l) (h0 : natsB l = true) (hs : smallI l) (hl : l.length ≤ 255) (hM : l0.length ≤ 900000000) :
    Calls Try.prog 22 #[v, lv] w fun e w' => RetF w w' v e (l0 ++ lstW l) := by
  obtain ⟨i0, hi0, hz0, hz1, hz2⟩ := info_parts Try.infoByte
  obtain ⟨A, C, rfl⟩ := intsAt_len (hp w (kept_refl _ _))
  obtain ⟨a0, c0, rfl⟩ := own_len h
  obtain ⟨n, hn⟩ : ∃ n, n = l.length := ⟨_, rfl⟩
  rw [← hn] at hp hl ⊢
  have HMX : Hid (l0.length + 1 ≤ maxLen) := Lib.hid (by unfold maxLen; omega)
  have HBT : Hid ((l0.length + 1) * 1 ≤ 140737488355328) := Lib.hid (by omega)
  have H := Lib.hid h
  have HP := Lib.hid hp
  have HN := Lib.hid hn
  have H0 := Lib.hid h0
  have HS := Lib.hid hs
  have HM := Lib.hid hM
  have HL := Lib.hid hl
  have HLB := Lib.hid (lay1_byte n)
  clear h hp hn h0 hs hM hl
  go_enter Try.func22, Try.ntmps22
  go_wp2_with (refine wpList_append_lies _ rfl _ _ 30 rfl 0 5 i0 (.int .u8 0) 1 1 Try.underlying30 hi0 hz0 hz1 hz2 rfl (by decide) (.slice a0 l0.length c0) l0.length _ rfl (H.out.alloc _) ⟨w.heap.size, 0, none⟩ 1 1 [_] rfl rfl (World.news_of_block (heap_alloc_new w _)) (num_one _ _) (by decide) HMX.out HBT.out (Nat.zero_le _) (w.heap.size + 1) (by simp) ?_; intro gg cap w4 hown4 hgrow hat hlt4)
  rw [HLB.out] at hown4
  have HR0 : Hid (RowF w w4 (.slice a0 l0.length c0) (.slice (some ⟨gg, 0, none⟩) (l0.length + 1) cap) (l0 ++ layS 1 n ++ intsW (l.take 0))) := Lib.hid (by
    have e : l0 ++ layS 1 n ++ intsW (l.take 0) = l0 ++ [UInt8.ofNat n] := by rw [layS_one]; simp [intsW]
    rw [e]
    refine rowF_grow (rowF_refl H.out) (below_more (Below.refl _ _) _) hgrow ?_ (fun k hk => by
      simp only [Value.ownBlock, Option.some.injEq] at hk
      subst hk
      exact hat.imp id (fun h => by omega))
    rw [List.length_append, List.map_append]
    exact hown4)
  clear hown4 hgrow hat hlt4
  go_loopw [0, 5] (fun bv iv wr => ∃ (i X : Nat) (a : Option Addr) (c : Nat), i ≤ n ∧ iv = .int .i64 i ∧ bv = .slice a X c ∧ Hid (RowF w wr (.slice a0 l0.length c0) (.slice a X c) (l0 ++ layS 1 n ++ intsW (l.take i)))) (fun _ iv _ => n - (intOf iv).toNat)
  case atStart => exact ⟨0, _, _, _, Nat.zero_le _, rfl, rfl, HR0⟩
  case round =>
    clear HR0
    obtain ⟨i, X, a, c, hi', rfl, rfl, HR⟩ := hrel
    obtain ⟨w1, hw1⟩ : ∃ w1 : World, w1 = wr := ⟨_, rfl⟩
    subst hw1
    by_cases hlt : i < n
    · obtain ⟨x, hx⟩ : ∃ x, l[i]? = some x := ⟨_, List.getElem?_eq_getElem (by rw [← HN.out]; exact hlt)⟩
      obtain ⟨b, o, rfl, d0⟩ := ints_cell (HP.out w1 HR.out.2.2) hx
      have hx0 := (natsB_iff _).1 H0.out x (List.mem_of_getElem? hx)
      have hx1 := HS.out x (List.mem_of_getElem? hx)
      obtain ⟨N, rfl⟩ := Int.eq_ofNat_of_zero_le hx0
      have hu := u64_nat N (by omega)
      have HLY := Lib.hid (rlay_any HR.out.1 8 N (by decide) (by omega) (by
        rw [List.length_append, List.length_append, intsW_len, layS_len, List.length_take]; have := HM.out; have := HL.out; have := HN.out; omega))
      have hy : (i : Int) < (n : Int) := by omega
      have hi1 : (i : Int) < 256 := by have := HL.out; omega
      have HI := Lib.hid hlt
      have HTK := Lib.hid (show l.take (i + 1) = l.take i ++ [(N : Int)] from take_succ_of hx)
      clear hx hlt hi' hx0 hx1
      go_wp2_with fail
      refine (HLY.out).mono ?_
      rintro e w2 ⟨v2, rfl, h2⟩
      obtain ⟨a2, c2, rfl⟩ := own_len h2.1
      generalize (l0 ++ layS 1 n ++ intsW (l.take i) ++ layS 8 N).length = L2 at h2 ⊢
      have HR2 := Lib.hid (rowF_then HR.out h2)
      clear h2 d0
      go_wp2_with fail
      go_roundw
      case rel =>
        refine ⟨i + 1, _, a2, c2, HI.out, by go_num, rfl, Lib.hid ?_⟩
        have h9 := HR2.out
        rw [HTK.out, intsW_snoc, ← List.append_assoc]
        exact h9
      case measure => have := HI.out; simp [intOf]; omega
    · have hyk : ¬ (i : Int) < (n : Int) := by omega
      have HE : Hid (RowF w w1 (.slice a0 l0.length c0) (.slice a X c) (l0 ++ lstW l)) := Lib.hid (by
        have h := HR.out
        rw [List.take_of_length_le (by rw [← HN.out]; omega), List.append_assoc, HN.out] at h
        exact h)
      clear hlt hi'
      go_wp2_with fail
      go_ret
      exact ⟨_, rfl, HE.out⟩

theorem rtext_any {w : World} {v : Value} {l0 : List UInt8} (h : w.ownsRow 0 5 1 v l0.length (l0.map byteV)) (d : ByteArray) (hM : l0.length + d.size ≤ 900000000) :
    Calls Try.prog 23 #[v, .string d] w fun e w' => RetF w w' v e (l0 ++ txtW d) := by
  obtain ⟨i0, hi0, hz0, hz1, hz2⟩ := info_parts Try.infoByte
  have HLY := Lib.hid (rlay_any h 4 d.size (by decide) (by omega) (by omega))
  have HM := Lib.hid hM
  have hu := u64_nat d.size (by omega)
  obtain ⟨a0, c0, rfl⟩ := own_len h
  clear h hM
  go_enter Try.func23, Try.ntmps23
  go_wp2_with fail
  refine (HLY.out).mono ?_
  rintro e w1 ⟨v1, rfl, h1⟩
  obtain ⟨a1, c1, rfl⟩ := own_len h1.1
  obtain ⟨L, hL⟩ : ∃ L, L = (l0 ++ layS 4 d.size).length := ⟨_, rfl⟩
  rw [← hL] at h1 ⊢
  have HL := Lib.hid hL
  have HR1 : Hid (w1.ownsRow 0 5 1 (.slice a1 L c1) L ((l0 ++ layS 4 d.size).map byteV)) := Lib.hid (by have h := h1.1; rw [← hL] at h; exact h)
  have HF1 := Lib.hid h1
  have HBT : Hid (L + d.size ≤ 140737488355328) := Lib.hid (by rw [hL, List.length_append, layS_len]; have := HM.out; omega)
  clear h1 hL
  go_wp2_with (first
    | (refine wpList_append_text rfl (.tmp 9) (.tmp 10) 30 9 rfl 5 i0 Try.underlying30 Try.underlying9 hi0 hz0 hz1 hz2 (.slice a1 L c1) L _ rfl HR1.out d rfl HBT.out ?_; intro v4 w4 hown4 hgrow hat; obtain ⟨va4, vc4, rfl⟩ := own_len hown4; have HG4 := Lib.hid hgrow; have HO4 := Lib.hid hown4; have HAT := Lib.hid hat; clear hown4 hgrow hat)
    | fail)
  go_ret
  refine ⟨_, rfl, ?_⟩
  have e1 : (l0 ++ txtW d).length = L + d.size := by unfold txtW; rw [HL.out]; simp only [List.length_append, size_data]; omega
  have e2 : (l0 ++ txtW d).map byteV = (l0 ++ layS 4 d.size).map byteV ++ Lib.strCells d := by unfold txtW; rw [← List.append_assoc, List.map_append (f := byteV)]; rfl
  refine rowF_grow HF1.out (Below.refl _ _) HG4.out ?_ HAT.out
  rw [e1, e2]
  exact HO4.out

end Go.Proofs.Ythpljpbiamjmaaa
