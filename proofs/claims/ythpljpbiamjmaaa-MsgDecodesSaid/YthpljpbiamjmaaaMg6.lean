/- Contracts: msg: the writer: a number. -/
import Derived.BigRegion
import Derived.Deep.RegionLaw
import Derived.Deep.AppendLies
import Derived.IntWalk
import Derived.Test.YthpljpbiamjmaaaProg
import Derived.Test.YthpljpbiamjmaaaKit
import Derived.Test.YthpljpbiamjmaaaInfo
import Derived.Test.YthpljpbiamjmaaaRow
import Derived.Test.YthpljpbiamjmaaaRow2
import Derived.Test.YthpljpbiamjmaaaCod7
import Derived.Test.YthpljpbiamjmaaaFrm0
import Derived.Test.YthpljpbiamjmaaaFrm2
import Derived.Test.YthpljpbiamjmaaaFrm4
import Derived.Test.YthpljpbiamjmaaaFp
import Derived.Test.YthpljpbiamjmaaaNet0
import Derived.Test.YthpljpbiamjmaaaKp1
import Derived.Test.YthpljpbiamjmaaaKp2
namespace Go.Proofs.Ythpljpbiamjmaaa
open Go.RowKit Go.Proofs

/-- A writer: its block, its bytes. -/
def MWrAt (w : World) (g : Nat) (v : Value) (bs : List UInt8) : Prop := Rw w 0 g 50 [v] ∧ w.ownsRow 0 5 1 v bs.length (bs.map byteV)

def MWrV (w w' : World) (g : Nat) (v : Value) (bs : List UInt8) : Prop := ∃ v', MWrAt w' g v' bs ∧ (∀ k, v'.ownBlock = some k → v.ownBlock = some k ∨ w.heap.size ≤ k) ∧ Kept (Foot g v) w w'

theorem MwrAt_lt {w : World} {g : Nat} {v : Value} {bs : List UInt8} (h : MWrAt w g v bs) {k : Nat} (hk : Foot g v k) : k < w.heap.size := by
  rcases hk with rfl | hk
  · exact Rw.size h.1
  · exact own_lt h.2 hk

theorem MwrAt_below {w w' : World} {g : Nat} {v : Value} {bs : List UInt8} (h : MWrAt w g v bs) (hb : Below w.heap.size w w') : MWrAt w' g v bs := ⟨Rw.below h.1 hb, own_below h.2 hb⟩

theorem MwrV_refl {w : World} {g : Nat} {v : Value} {bs : List UInt8} (h : MWrAt w g v bs) : MWrV w w g v bs := ⟨v, h, fun _ hk => .inl hk, kept_refl _ _⟩

theorem MwrV_below {w w' : World} {g : Nat} {v : Value} {bs : List UInt8} (h : MWrAt w g v bs) (hb : Below w.heap.size w w') : MWrV w w' g v bs := ⟨v, MwrAt_below h hb, fun _ hk => .inl hk, kept_below hb⟩

theorem MwrV_more {w w' w'' : World} {g : Nat} {v : Value} {bs : List UInt8} (h : MWrV w w' g v bs) (hb : Below w'.heap.size w' w'') : MWrV w w'' g v bs := by
  obtain ⟨v', h1, h2, h3⟩ := h
  exact ⟨v', MwrAt_below h1 hb, h2, kept_then (G := fun _ => False) h3 (kept_below hb) (fun _ h => h.elim)⟩

theorem MwrV_of {w w' w'' : World} {g : Nat} {v : Value} {bs : List UInt8} (hb : Below w.heap.size w w') (h : MWrV w' w'' g v bs) : MWrV w w'' g v bs := by
  obtain ⟨v', h1, h2, h3⟩ := h
  exact ⟨v', h1, fun k hk => (h2 k hk).imp id (Nat.le_trans hb.size), kept_then (G := Foot g v) (kept_below hb) h3 (fun x hx => .inl hx)⟩

theorem MwrV_then {w w1 w2 : World} {g : Nat} {v v1 : Value} {bs : List UInt8} (hv : ∀ k, v1.ownBlock = some k → v.ownBlock = some k ∨ w.heap.size ≤ k) (hk : Kept (Foot g v) w w1) (h : MWrV w1 w2 g v1 bs) : MWrV w w2 g v bs := by
  obtain ⟨v', h1, h2, h3⟩ := h
  refine ⟨v', h1, fun k hk2 => ?_, kept_then hk h3 (foot_next hv)⟩
  rcases h2 k hk2 with h | h
  · exact hv k h
  · exact .inr (Nat.le_trans hk.size h)

/-- The end of an append: the row has grown, and is stored. -/
theorem Mwr_add {w w4 : World} {g : Nat} {v v' : Value} {bs xs : List UInt8} {o : Obj} (h : MWrAt w g v bs) (h4 : w4.ownsRow 0 5 1 v' (bs ++ xs).length ((bs ++ xs).map byteV)) (hg : (w.alloc o).grownBy w4 v.ownBlock) (hat : ∀ k, v'.ownBlock = some k → v.ownBlock = some k ∨ w.heap.size ≤ k) :
    MWrV w (w4.setCell ⟨g, 0, none⟩ v') g v (bs ++ xs) := by
  have hgv : v.ownBlock ≠ some g := own_rw h.2 h.1 (by decide)
  have hbA := below_more (Below.refl _ w) o
  have hk4 : Kept (fun k => v.ownBlock = some k) w w4 := kept_grown (kept_below hbA) hg (fun k hk => .inl hk)
  have hr4 : Rw w4 0 g 50 [v] := rw_kept h.1 hk4 hgv
  refine ⟨v', ⟨Rw.stored hr4 0 v', own_store h4 hr4 (by decide) 0 v'⟩, hat, kept_put (kept_mono hk4 (fun k hk => .inl (.inr hk))) (.inl (.inl rfl)) 0 v'⟩

theorem Mwr_add0 {w w4 : World} {g : Nat} {v v' : Value} {bs xs : List UInt8} (h : MWrAt w g v bs) (h4 : w4.ownsRow 0 5 1 v' (bs ++ xs).length ((bs ++ xs).map byteV)) (hg : w.grownBy w4 v.ownBlock) (hat : ∀ k, v'.ownBlock = some k → v.ownBlock = some k ∨ w.heap.size ≤ k) :
    MWrV w (w4.setCell ⟨g, 0, none⟩ v') g v (bs ++ xs) := by
  have hgv : v.ownBlock ≠ some g := own_rw h.2 h.1 (by decide)
  have hk4 : Kept (fun k => v.ownBlock = some k) w w4 := kept_grown (kept_refl _ _) hg (fun k hk => .inl hk)
  have hr4 : Rw w4 0 g 50 [v] := rw_kept h.1 hk4 hgv
  refine ⟨v', ⟨Rw.stored hr4 0 v', own_store h4 hr4 (by decide) 0 v'⟩, hat, kept_put (kept_mono hk4 (fun k hk => .inl (.inr hk))) (.inl (.inl rfl)) 0 v'⟩

theorem Mwr_addD {w w4 : World} {g : Nat} {v v' : Value} {bs xs : List UInt8} {o : Obj} (h : MWrAt w g v bs) (h4 : w4.ownsRow 0 5 1 v' (bs ++ xs).length ((bs ++ xs).map byteV)) (hg : (w.drew.alloc o).grownBy w4 v.ownBlock) (hat : ∀ k, v'.ownBlock = some k → v.ownBlock = some k ∨ w.heap.size ≤ k) :
    MWrV w (w4.setCell ⟨g, 0, none⟩ v') g v (bs ++ xs) := by
  have hd : Below w.heap.size w w.drew := below_draws (Below.refl _ _) ⟨1, rfl⟩
  exact MwrV_of hd (Mwr_add (MwrAt_below h hd) h4 hg hat)

set_option maxRecDepth 100000 in
set_option maxHeartbeats 2000000 in
theorem mnumber_any {w : World} {g : Nat} {v : Value} {bs : List UInt8} (h : MWrAt w g v bs) (sz N : Nat) (hsz : sz ≤ 8) (hN : N < 9223372036854775808) (hn : bs.length ≤ 1000000000) :
    Calls Try.prog 37 #[.pointer (some ⟨g, 0, none⟩), .int .i64 sz, .int .i64 N] w fun e w' => e = .returned (.tuple #[]) ∧ MWrV w w' g v (bs ++ layS sz N) := by
  obtain ⟨i0, hi0, hz0, hz1, hz2⟩ := info_parts Try.infoByte
  have H := Lib.hid h
  have HNB := Lib.hid hn
  have hN1 : (N : Int) < 9223372036854775808 := by omega
  clear h hN hn
  go_enter Try.func37, Try.ntmps37
  go_wp2_with fail
  go_loopw [6] (fun iv wr => ∃ (k : Nat) (ii : Int), iv = .int .i64 ii ∧ k ≤ sz ∧ ii = (sz : Int) - 1 - (k : Int) ∧ Hid (MWrV w wr g v (bs ++ (layS sz N).take k))) (fun iv _ => (intOf iv + 1).toNat)
  case atStart => exact ⟨0, _, rfl, Nat.zero_le _, by omega, Lib.hid (by have := MwrV_refl H.out; simpa using this)⟩
  case round =>
    obtain ⟨k, ii, rfl, hk, hii, HR⟩ := hrel
    obtain ⟨w1, hw1⟩ : ∃ w1 : World, w1 = wr := ⟨_, rfl⟩
    subst hw1
    by_cases hlt : k < sz
    · obtain ⟨j, hj⟩ : ∃ j, j = sz - 1 - k := ⟨_, rfl⟩
      obtain rfl : ii = (j : Int) := by omega
      have hj8 : (j : Int) < 8 := by omega
      obtain ⟨v1, hN1', hv1, hk1⟩ := HR.out
      obtain ⟨va, vc, rfl⟩ := own_len hN1'.2
      obtain ⟨L, hL⟩ : ∃ L, L = (bs ++ (layS sz N).take k).length := ⟨_, rfl⟩
      rw [← hL] at hN1' hv1
      have cg : w1.cell? ⟨g, 0, none⟩ = some (.slice va L vc) := Rw.cell hN1'.1 rfl
      have fg := Rw.free hN1'.1 0
      have cg2 : ∀ o, (w1.alloc o).cell? ⟨g, 0, none⟩ = some (.slice va L vc) := fun o => Rw.cell (Rw.more hN1'.1 o) rfl
      have HL := Lib.hid hL
      have HLB : Hid (L + 1 ≤ 1099511627776) := Lib.hid (by rw [hL, List.length_append, List.length_take, layS_len]; have := HNB.out; omega)
      have HMX : Hid (L + 1 ≤ maxLen) := Lib.hid (by have := HLB.out; unfold maxLen; omega)
      have HBT : Hid ((L + 1) * 1 ≤ 140737488355328) := Lib.hid (by have := HLB.out; omega)
      have HO1 : Hid (w1.ownsRow 0 5 1 (.slice va L vc) L ((bs ++ (layS sz N).take k).map byteV)) := Lib.hid (by have := hN1'.2; rw [← hL] at this; exact this)
      have HN1 := Lib.hid hN1'
      have HV1 := Lib.hid hv1
      have HK1 := Lib.hid hk1
      have HS : Hid (bs ++ (layS sz N).take (k + 1) = (bs ++ (layS sz N).take k) ++ [UInt8.ofNat (N / 256 ^ j)]) := Lib.hid (by rw [lay_snoc sz N k hlt, List.append_assoc, hj])
      have HJ := Lib.hid hj
      have HKL := Lib.hid hlt
      clear hii hj hlt hk hN1' hv1 hk1 hL
      have HD1 : Hid (w1.drew.ownsRow 0 5 1 (.slice va L vc) L ((bs ++ (layS sz N).take k).map byteV)) := Lib.hid HO1.out
      have HVB : Hid (Value.int .u8 (IntKind.u8.wrap ((N : Int) / 2 ^ (8 * (j : Int)).toNat)) = byteV (UInt8.ofNat (N / 256 ^ j))) := Lib.hid (by rw [← lay_byte N j, show (8 * (j : Int)).toNat = 8 * j by omega]; rfl)
      have hw8 : IntKind.i64.wrap (8 * (j : Int)) = 8 * (j : Int) := IntWalk.i64_in _ (by omega)
      have hge : ¬ (8 * (j : Int) < 0) := by omega
      go_wp2_with fail
      go_region_law
        (first
          | (refine step_append_lies _ rfl _ _ 30 rfl 0 5 i0 (.int .u8 0) 1 1 Try.underlying30 hi0 hz0 hz1 hz2 rfl (by decide) (.slice va L vc) L _ rfl (HD1.out.alloc _) ⟨w1.heap.size, 0, none⟩ 1 1 [_] rfl rfl (World.news_of_block (heap_alloc_new w1.drew _)) (num_one _ _) (by decide) HMX.out HBT.out (Nat.zero_le _) (w1.heap.size + 1) (by simp) ?_; intro gg cap w4 hown4 hgrow hat hlt4; have hr4 := rw_kept HN1.out.1 (kept_grown (kept_below (below_more (below_draws (Below.refl _ _) ⟨1, rfl⟩) _)) hgrow (fun k hk => .inl hk)) (own_rw HO1.out HN1.out.1 (by decide)); have hc4 := Rw.cell hr4 (j := 0) rfl; have hf4 := Rw.free hr4 0; have HG4 := Lib.hid hgrow; have HO4 := Lib.hid hown4; have HAT := Lib.hid hat; clear hr4 hown4 hgrow hat hlt4))
      all_goals
        clear hc4 hf4
        go_wp2_with fail
        go_roundw
        case rel =>
          have hj := HJ.out
          have hk := HKL.out
          refine ⟨k + 1, _, rfl, by omega, by omega, Lib.hid ?_⟩
          rw [HS.out]
          have h4 : w4.ownsRow 0 5 1 (.slice (some ⟨gg, 0, none⟩) (L + 1) cap) ((bs ++ (layS sz N).take k) ++ [UInt8.ofNat (N / 256 ^ j)]).length (((bs ++ (layS sz N).take k) ++ [UInt8.ofNat (N / 256 ^ j)]).map byteV) := by
            have h7 := HO4.out
            rw [HVB.out] at h7
            rw [List.length_append, List.map_append, ← HL.out]
            exact h7
          exact MwrV_then HV1.out HK1.out (Mwr_addD HN1.out h4 HG4.out (fun k hk => by
            simp only [Value.ownBlock, Option.some.injEq] at hk
            subst hk
            exact HAT.out.imp id (fun h => by omega)))
        case measure => simp [intOf]
    · have hneg : ¬ (0 ≤ ii) := by omega
      have HE : Hid (MWrV w w1 g v (bs ++ layS sz N)) := Lib.hid (by
        have h := HR.out
        rwa [List.take_of_length_le (by rw [layS_len]; omega)] at h)
      clear hii hlt hk
      go_wp2_with fail
      go_end0
      exact ⟨rfl, HE.out⟩

end Go.Proofs.Ythpljpbiamjmaaa
