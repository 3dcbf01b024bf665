/- Many fields alike: plain words; the law's letters. -/
import Derived.Test.YtfgpcajjnpmoeaaProg
import Derived.Test.YtfgpcajjnpmoeaaKit
import Derived.Test.YtfgpcajjnpmoeaaInfo
import Derived.Test.YtfgpcajjnpmoeaaPlain
import Derived.Test.YtfgpcajjnpmoeaaRow
import Derived.Test.YtfgpcajjnpmoeaaHdr0
import Derived.Test.YtfgpcajjnpmoeaaHdr12
import Derived.Test.YtfgpcajjnpmoeaaHdr19
namespace Go.Proofs.Ytfgpcajjnpmoeaa
open Go.RowKit Go.Proofs

def manyL (s : Nat) : List UInt8 := List.replicate s 97

def accS : ByteArray := ⟨#[65, 99, 99, 101, 112, 116]⟩

theorem many_any (s : Nat) : (manyL s).any rskB = false := by
  unfold manyL
  rw [List.any_eq_false]
  intro c hc
  rw [(List.mem_replicate.1 hc).2]
  decide

theorem many_sim {A : ByteArray} {s : Nat} (h : A.data.toList = manyL s) : simF ⟨accS, A⟩ = decide (s ≤ 128) := by
  have e1 : lowL (fnm ⟨accS, A⟩) = accL := by show lowL accS.data.toList = accL; decide +kernel
  have e2 : fvl ⟨accS, A⟩ = manyL s := h
  unfold simF simB
  rw [e1, e2, if_pos rfl, many_any]
  unfold manyL
  rw [List.length_replicate]
  simp

theorem many_bad (f : FldM) : ∀ n, badL (List.replicate n f) = if simF f = true then [] else List.replicate n (lowL (fnm f))
  | 0 => by simp [badL]
  | n + 1 => by
    have ih := many_bad f n
    have e : badL (List.replicate (n + 1) f) = badL [f] ++ badL (List.replicate n f) := by rw [List.replicate_succ]; exact bad_app [f] _
    rw [e, ih]
    unfold badL
    by_cases hs : simF f = true
    · simp [hs]
    · simp [hs, List.replicate_succ]

theorem many_good (f : FldM) : ∀ n, goodL (List.replicate n f) = if simF f = true then List.replicate n (lowL (fnm f)) else []
  | 0 => by simp [goodL]
  | n + 1 => by
    have ih := many_good f n
    have e : goodL (List.replicate (n + 1) f) = goodL [f] ++ goodL (List.replicate n f) := by rw [List.replicate_succ]; exact good_app [f] _
    rw [e, ih]
    unfold goodL
    by_cases hs : simF f = true
    · simp [hs, List.replicate_succ]
    · simp [hs]

theorem many_sum (f : FldM) : ∀ n, sumL (List.replicate n f) = if simF f = true then n * f.hv.size else 0
  | 0 => by simp [sumL]
  | n + 1 => by
    have ih := many_sum f n
    have e : sumL (List.replicate (n + 1) f) = sumL [f] + sumL (List.replicate n f) := by rw [List.replicate_succ]; exact sum_app [f] _
    rw [e, ih]
    unfold sumL
    by_cases hs : simF f = true
    · simp [hs, Nat.succ_mul]; omega
    · simp [hs]

theorem many_leave {A : ByteArray} {s : Nat} (h : A.data.toList = manyL s) (n : Nat) : leaveL (List.replicate n ⟨accS, A⟩) = if 128 < s ∨ 1024 < n * s then List.replicate n accL else [] := by
  have hs : A.size = s := by rw [← size_data, h]; unfold manyL; rw [List.length_replicate]
  have e1 : lowL (fnm ⟨accS, A⟩) = accL := by show lowL accS.data.toList = accL; decide +kernel
  unfold leaveL
  rw [many_bad, many_good, many_sum, many_sim h, e1]
  show _ ++ (if 1024 < (if decide (s ≤ 128) = true then n * A.size else 0) then _ else _) = _
  rw [hs]
  by_cases h1 : s ≤ 128
  · simp [h1, show ¬ 128 < s by omega]
  · simp [h1, show 128 < s by omega]

theorem rep_len {α : Type} (n : Nat) (x : α) : (List.replicate n x).length = n := List.length_replicate

theorem many_tot (f : FldM) : ∀ n, fldTot (List.replicate n f) = n * (1 + f.hn.size + f.hv.size)
  | 0 => by simp [fldTot]
  | n + 1 => by
    rw [List.replicate_succ]
    simp only [fldTot, many_tot f n, Nat.succ_mul]
    omega

def fillL (n k : Nat) : List UInt8 := List.replicate k 97 ++ List.replicate (n - k) 0

theorem fill_len {n k : Nat} (h : k ≤ n) : (fillL n k).length = n := by unfold fillL; rw [List.length_append, List.length_replicate, List.length_replicate]; omega

theorem fill_set {n k : Nat} (h : k < n) : (fillL n k).set k 97 = fillL n (k + 1) := by
  unfold fillL
  rw [List.set_append_right _ _ (by simp), List.length_replicate, Nat.sub_self, show n - k = (n - (k + 1)) + 1 by omega, List.replicate_succ, List.set_cons_zero, List.replicate_succ', List.append_assoc]
  rfl

theorem fill_at {n k : Nat} (h : k < n) : (fillL n k)[k]? = some 0 := by
  unfold fillL
  rw [List.getElem?_append_right (by simp), List.length_replicate, Nat.sub_self, show n - k = (n - (k + 1)) + 1 by omega, List.replicate_succ]
  rfl

theorem fill_all (n : Nat) : fillL n n = manyL n := by
  unfold fillL manyL
  rw [Nat.sub_self, List.replicate_zero, List.append_nil]

theorem letters_any (n : Nat) (hn : n ≤ 140) (w : World) :
    Calls Try.prog 26 #[.int .i64 n] w fun e w' => e = .returned (.string ⟨(manyL n).toArray⟩) ∧ Below w.heap.size w w' := by
  obtain ⟨i0, hi, hz0, hz1, hz2⟩ := info_parts Try.infoByte
  have hni : (n : Int) ≤ 140 := by omega
  have HN := Lib.hid hn
  go_enter Try.func26, Try.ntmps26
  go_wp2_with (first | (refine wpList_make1 w rfl _ _ 39 rfl 5 i0 (.int .u8 0) 1 Try.underlying39 hi hz0 hz1 hz2 rfl .i64 .i64 _ _ n rfl rfl rfl rfl (by omega) (by decide) ?_; intro w1 hown1 hb1) | fail)
  have HO1 : Hid (w1.ownsRow w.heap.size 5 1 (.slice (some ⟨w.heap.size, 0, none⟩) n n) n ((fillL n 0).map byteV)) := Lib.hid (by
    have e : (fillL n 0).map byteV = List.replicate n (.int .u8 0) := by unfold fillL; simp [byteV]
    rw [e]; exact hown1)
  have HB1 := Lib.hid hb1
  clear hown1 hb1 hn
  go_loopw [4] (fun i wr => ∃ k : Nat, k ≤ n ∧ i = .int .i64 k ∧ Hid (wr.ownsRow w.heap.size 5 1 (.slice (some ⟨w.heap.size, 0, none⟩) n n) n ((fillL n k).map byteV)) ∧ Hid (Below w.heap.size w wr)) (fun i _ => n - (intOf i).toNat)
  case atStart => exact ⟨0, Nat.zero_le _, rfl, HO1, HB1⟩
  case round =>
    obtain ⟨k, hk, rfl, HO, HB⟩ := hrel
    obtain ⟨w2, hw2⟩ : ∃ w2 : World, w2 = wr := ⟨_, rfl⟩
    subst hw2
    by_cases hlt : k < n
    · have hki : (k : Int) < (n : Int) := by omega
      have hc : w2.cell? ⟨w.heap.size, k, none⟩ = some (.int .u8 0) := by
        rw [HO.out.cellAt k (by omega), List.getElem?_map, fill_at hlt]
        rfl
      have hf := own_free HO.out k
      have HO2 : Hid ((w2.setCell ⟨w.heap.size, k, none⟩ (.int .u8 97)).ownsRow w.heap.size 5 1 (.slice (some ⟨w.heap.size, 0, none⟩) n n) n ((fillL n (k + 1)).map byteV)) := Lib.hid (by
        have h := own_put HO.out k (byteV 97)
        rw [← List.map_set, fill_set hlt] at h
        exact h)
      go_wp2_with fail
      go_roundw
      case rel => exact ⟨k + 1, by omega, by go_num, HO2, Lib.hid (HB.out.setCell (Nat.le_refl _) _)⟩
      case measure => simp [intOf]; omega
    · have hkn : k = n := by omega
      subst hkn
      have kc := run_convert_own (P := Try.prog) 39 5 9 Try.underlying39 Try.underlying5 Try.underlying9 HO.out
      rw [fill_all] at kc
      go_wp2_with fail
      go_ret
      exact ⟨rfl, HB.out⟩

end Go.Proofs.Ytfgpcajjnpmoeaa
