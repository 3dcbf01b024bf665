/- Contracts: the code's holds. -/
import Derived.BigRegion
import Derived.Deep.RegionHeld3
import Derived.Maps.RangeWalk
import Derived.Test.YtfiocghgjjandaaProg
import Derived.Test.YtfiocghgjjandaaKit
import Derived.Test.YtfiocghgjjandaaRow
import Derived.Test.YtfiocghgjjandaaCod5
import Derived.Test.YtfiocghgjjandaaCod7
import Derived.Test.YtfiocghgjjandaaJoin
import Derived.Test.YtfiocghgjjandaaFrm6
import Derived.Test.YtfiocghgjjandaaFp
import Derived.Test.YtfiocghgjjandaaDsk0
import Derived.Test.YtfiocghgjjandaaDsk1
import Derived.Test.YtfiocghgjjandaaDsk3
import Derived.Test.YtfiocghgjjandaaDsk4
namespace Go.Proofs.Ytfiocghgjjandaa
open Go.RowKit Go.Proofs Go.Maps

theorem kept_none_grown {a w w' : World} {r : Nat} (h : Kept (fun _ => False) a w) (hg : w.grownBy w' (some r)) (hr : a.heap.size ≤ r) : Kept (fun _ => False) a w' :=
  kept_grown h hg (fun g hg2 => by cases hg2; exact .inr hr)

theorem kept_none_new {a w w' : World} (h : Kept (fun _ => False) a w) (hg : w.grownBy w' none) : Kept (fun _ => False) a w' :=
  kept_grown h hg (fun g hg2 => by cases hg2)

theorem kept_cell {F : Nat → Prop} {w w' : World} {g j : Nat} {v : Value} (h : Kept F w w') (hF : ¬ F g) (hc : w.cell? ⟨g, j, none⟩ = some v) : w'.cell? ⟨g, j, none⟩ = some v := by
  have hlt := block_of_cell hc
  unfold World.cell? at hc ⊢
  rw [h.blk g hlt hF]
  exact hc

def CellsOf (w : World) (rs : List Rec) : Prop := ∀ x ∈ rs, ∃ a c, w.cell? ⟨x.g, 0, none⟩ = some (.slice a x.f.b.length c)

set_option maxHeartbeats 1000000 in
theorem holds_any (g : Nat) (room : Nat) (mv : Value) (ops : Int) (cut : Bool) (left : Int) (rs : List Rec) (ls : List (List UInt8)) (v : Value) (w : World)
    (hr : Rw w 0 g 47 [.int .i64 room, mv, .int .i64 ops, .bool cut, .int .i64 left]) (hm : MapV w mv rs) (hcs : CellsOf w rs) (hd : rs.Pairwise (fun a b => a.f.name ≠ b.f.name)) (hs : sizeM (rs.map (·.f)) ≤ room) (hroom : room < 1099511627776)
    (hp : PartsB w w.heap.size v ls) (hl : ls.flatten.length < 1099511627776) (hn : ls.length < 9223372036854775807) :
    Calls Try.prog 36 #[.pointer (some ⟨g, 0, none⟩), v] w fun e w' => e = .returned (.bool (decide (sizeM (rs.map (·.f)) + ls.flatten.length ≤ room))) ∧ Below w.heap.size w w' := by
  obtain ⟨A, C, rfl, _⟩ := PartsB.len hp
  obtain ⟨n, hnn⟩ : ∃ n, n = ls.length := ⟨_, rfl⟩
  obtain ⟨S, hS⟩ : ∃ S, S = sizeM (rs.map (·.f)) := ⟨_, rfl⟩
  obtain ⟨M, hM⟩ : ∃ M, M = ls.flatten.length := ⟨_, rfl⟩
  rw [← hnn] at hn hp
  rw [← hnn, ← hS, ← hM]
  rw [← hS] at hs
  have c0 : w.cell? ⟨g, 0, none⟩ = some (.int .i64 room) := hr.cell rfl
  have c1 : w.cell? ⟨g, 1, none⟩ = some mv := hr.cell rfl
  have hblt : ∀ b, mv = .map (some b) → b < w.heap.size := by
    rintro b rfl
    rcases hm with ⟨h, _⟩ | ⟨b2, h, hm⟩
    · cases h
    · cases h; exact World.ownsMap.lt hm
  have HP := Lib.hid hp
  have HNN := Lib.hid hnn
  have HS := Lib.hid hS
  have HM := Lib.hid hM
  have HL := Lib.hid hl
  have HMV := Lib.hid hm
  have HCS := Lib.hid hcs
  have HD := Lib.hid hd
  have HSR := Lib.hid hs
  have HR := Lib.hid hroom
  have HBL := Lib.hid hblt
  have hn1 : (n : Int) < 9223372036854775807 := by omega
  clear hp hnn hS hM hl hm hcs hd hs hroom hr hblt
  go_enter Try.func36, Try.ntmps36
  go_wp2_with (first | (at_range; refine wpList_range_v rfl _ rfl mv rs rfl HMV.out ?_; intro w0 cnt0 hrg0 hg0 hs0) | fail)
  go_frame
  have hk0 := kept_none_new (kept_refl (fun _ => False) w) hg0
  have HR0 := Lib.hid hrg0
  have HK0 := Lib.hid hk0
  clear hrg0 hg0 hs0 hk0 c0 c1
  go_loopw [5] (fun f wr => ∃ (lf : Lit → Bool) (cnt fr : Nat), f = .int .i64 fr ∧ Hid (fr + S = room + leftSum lf rs ∧ fr ≤ room) ∧ Hid (RangeV wr w.heap.size mv rs lf cnt) ∧ Hid (Kept (fun _ => False) w wr)) (fun _ wr => rangeCnt wr mv w.heap.size)
  case atStart => exact ⟨_, _, room, rfl, Lib.hid ⟨by rw [leftSum_all (has_all rs), HS.out], Nat.le_refl _⟩, HR0, HK0⟩
  case round =>
    obtain ⟨lf, cnt, fr, rfl, HF, HRG, HK⟩ := hrel
    obtain ⟨w1, hw1⟩ : ∃ w1 : World, w1 = wr := ⟨_, rfl⟩
    subst hw1
    clear HR0 HK0
    go_wp2_with (first | (at_next; refine wpList_next_recs rfl _ rfl w.heap.size mv rs lf cnt rfl HRG.out ?_ ?_) | fail)
    · intro hdone
      have HFR : Hid (fr + S = room) := Lib.hid (by have := HF.out.1; rw [leftSum_none hdone] at this; exact this)
      have hfr : (fr : Int) < 1099511627776 := by have := HFR.out; have := HR.out; omega
      clear hdone HF HRG
      go_wp2_with fail
      go_loopw [5, 31] (fun f i wr => ∃ (k f2 : Nat), k ≤ n ∧ i = .int .i64 k ∧ f = .int .i64 f2 ∧ Hid (f2 + (ls.take k).flatten.length = fr) ∧ w1 = wr) (fun _ i _ => n - (intOf i).toNat)
      case atStart => exact ⟨0, fr, Nat.zero_le _, rfl, rfl, Lib.hid (by simp), rfl⟩
      case round =>
        obtain ⟨k, f2, hk, rfl, rfl, HF2, rfl⟩ := hrel
        have hf2 : (f2 : Int) < 1099511627776 := by have := HF2.out; omega
        by_cases hlt : k < n
        · obtain ⟨m, hmm⟩ : ∃ m, ls[k]? = some m := ⟨_, List.getElem?_eq_getElem (by rw [← HNN.out]; exact hlt)⟩
          obtain ⟨b, o, rfl, p, hcell, hsl⟩ := parts_cells HP.out hmm
          have hcell1 := kept_cell HK.out (fun h => h) hcell
          obtain ⟨a2, q2, rfl, _⟩ := byteSl_len hsl
          have hle := flat_le hmm
          have hml : (m.length : Int) < 1099511627776 := by have := HL.out; omega
          have HFM : Hid ((ls.take (k + 1)).flatten.length = (ls.take k).flatten.length + m.length) := Lib.hid (by rw [flat_succ hmm, List.length_append])
          have HLE := Lib.hid hle
          have hy : (k : Int) < (n : Int) := by omega
          have HKL := Lib.hid hlt
          obtain ⟨L, hL⟩ : ∃ L, L = m.length := ⟨_, rfl⟩
          rw [← hL] at hml hcell1
          have HLL := Lib.hid hL
          clear hmm hcell hsl hle hk hL hfr hlt
          by_cases hneg : f2 < L
          · obtain ⟨d, hsub⟩ : ∃ d : Int, (f2 : Int) - (L : Int) = d := ⟨_, rfl⟩
            have hng : d < 0 := by omega
            have hwr : wrap64 d = d := by unfold wrap64; omega
            have HNG := Lib.hid hneg
            clear hml hf2 hn1 hneg
            go_wp2_with fail
            go_ret
            refine ⟨?_, below_kept HK.out⟩
            have h1 := HF2.out
            have h2 := HFR.out
            have h3 := HFM.out
            have h4 := HLE.out
            have h5 := HM.out
            have h6 := HLL.out
            have h7 := HNG.out
            apply ret_bool
            rw [eq_comm, decide_eq_false_iff_not]
            omega
          · obtain ⟨f3, hf3⟩ : ∃ f3, f3 = f2 - L := ⟨_, rfl⟩
            have HF3 : Hid (f3 + L = f2) := Lib.hid (by omega)
            obtain ⟨d, hsub⟩ : ∃ d : Int, (f2 : Int) - (L : Int) = d := ⟨_, rfl⟩
            have hng : ¬ d < 0 := by omega
            have hwr : wrap64 d = d := by unfold wrap64; omega
            have HDF : Hid (d = (f3 : Int)) := Lib.hid (by omega)
            clear hf3 hneg hf2 hml
            go_wp2_with fail
            go_roundw
            case rel => exact ⟨k + 1, f3, by have := HKL.out; omega, by go_num, by first | rw [hwr, HDF.out] | rw [HDF.out], Lib.hid (by have := HF2.out; have := HF3.out; have := HFM.out; have := HLL.out; omega), by first | rfl | trivial⟩
            case measure => have := HKL.out; simp [intOf]; omega
        · have hkn : k = ls.length := by have := HNN.out; omega
          have hx := HF2.out
          rw [hkn, List.take_length] at hx
          have HX := Lib.hid hx
          have hy : ¬ (k : Int) < (n : Int) := by omega
          clear hkn hx hk HF2 hlt
          go_wp2_with fail
          go_ret
          refine ⟨?_, below_kept HK.out⟩
          have h1 := HX.out
          have h2 := HFR.out
          have h5 := HM.out
          apply ret_bool
          rw [eq_comm, decide_eq_true_eq]
          omega
    · intro x s w2 cnt2 hx hsn hsz hlx hrg2 hlt2 hg2 hs2 hen
      obtain ⟨a2, q2, hc⟩ := HCS.out x hx
      have hk2 := kept_none_grown HK.out hg2 (Nat.le_refl _)
      have hc2 := kept_cell hk2 (fun h => h) hc
      have hnext := leftSum_next HD.out hx hlx
      obtain ⟨L, hL⟩ : ∃ L, L = x.f.b.length := ⟨_, rfl⟩
      rw [← hL] at hc2 hnext
      obtain ⟨f3, hf3⟩ : ∃ f3, f3 = fr - L := ⟨_, rfl⟩
      have hge : L ≤ fr := by have := HF.out.1; have := HSR.out; omega
      have hfr : (fr : Int) < 1099511627776 := by have := HF.out.2; have := HR.out; omega
      have hsub : (fr : Int) - (L : Int) = (f3 : Int) := by omega
      have HF3 : Hid (f3 + S = room + leftSum (fun z => lf z && !z.sameKey (.string x.f.name)) rs ∧ f3 ≤ room) := Lib.hid (by have := HF.out; omega)
      have HRG2 := Lib.hid hrg2
      have HK2 := Lib.hid hk2
      have HC := Lib.hid (dsize_any x.g a2 L q2 w2 hc2)
      have hne : rs ≠ [] := by intro e; rw [e] at hx; simp at hx
      have HCN : Hid (rangeCnt w2 mv w.heap.size < rangeCnt w1 mv w.heap.size) := Lib.hid (by rw [rangeV_cnt hrg2 hne, rangeV_cnt HRG.out hne]; exact hlt2)
      clear hx hsn hsz hlx hrg2 hlt2 hg2 hs2 hc hk2 hc2 hnext hL hf3 hge HF hne
      go_wp2_with fail
      refine HC.out.mono ?_
      rintro e w3 ⟨rfl, rfl⟩
      go_wp2_with fail
      go_roundw
      case rel => exact ⟨_, cnt2, f3, rfl, HF3, HRG2, HK2⟩
      case measure => exact HCN.out

end Go.Proofs.Ytfiocghgjjandaa
