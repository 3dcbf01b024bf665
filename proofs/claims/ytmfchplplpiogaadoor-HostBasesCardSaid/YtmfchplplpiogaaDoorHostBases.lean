/-
  HostBases: an address is read as itself, in decimal, octal and hexadecimal, in one part, in two and in four; the card's statement, its listed tables tied to the program's text. No condition.
-/
import Derived.Stop.LaidErr
import Derived.Deep.DeepHandedRow
import Derived.Deep.RegionHeldLaw
import Derived.Test.YtmfchplplpiogaaDoorCards
import Derived.Test.YtmfchplplpiogaaDoorTie
import Derived.Test.YtmfchplplpiogaaDoorProg
import Derived.Test.YtmfchplplpiogaaDoorKit
import Derived.Test.YtmfchplplpiogaaDoorLaw
import Derived.Test.YtmfchplplpiogaaDoorRow
import Derived.Test.YtmfchplplpiogaaDoorCod5
import Derived.Test.YtmfchplplpiogaaDoorCod7
import Derived.Test.YtmfchplplpiogaaDoorFrm4
import Derived.Test.YtmfchplplpiogaaDoorHst0
import Derived.Test.YtmfchplplpiogaaDoorHst2
import Derived.Test.YtmfchplplpiogaaDoorHst3
import Derived.Test.YtmfchplplpiogaaDoorHst6
import Derived.Test.YtmfchplplpiogaaDoorHst7
import Derived.Test.YtmfchplplpiogaaDoorHst8
import Derived.Test.YtmfchplplpiogaaDoorHst9
import Derived.Test.YtmfchplplpiogaaDoorHsu3
import Derived.Test.YtmfchplplpiogaaDoorHsu4
namespace Go.Proofs.YtmfchplplpiogaaDoor
open Go.ChangeShapes Go.WideShapes Go.ChangeAt Go.RowKit Go.Proofs
open Go.ChangeMaps (open_string shut_string)

theorem cell_now {w w' : World} {g : Nat} {x : Value} (h : w.cell? ⟨g, 0, none⟩ = some x) (hb : Below w.heap.size w w') : w'.cell? ⟨g, 0, none⟩ = some x := (hb.cell (p := ⟨g, 0, none⟩) (block_of_cell h)).trans h

set_option maxHeartbeats 4000000 in
set_option maxRecDepth 100000 in
theorem hostBases_any (a : Int) (ha : 0 ≤ a ∧ a ≤ 4294967295) (k : Int) (hk : -9223372036854775808 ≤ k ∧ k ≤ 9223372036854775807) (w : World) (hT : Tab10 w) :
    Calls Tryd.prog 6 #[.int .u32 a, .int .i64 k] w fun e w' => e = .returned (.bool true) ∧ Below w.heap.size w w' := by
  have henter : Enters Tryd.prog 21 := enters_of Tryd.func21 (by kernel_rfl) rfl
  obtain ⟨n, hn⟩ : ∃ n : Nat, (n : Int) = a := ⟨a.toNat, by omega⟩
  have hn32 : n < 4294967296 := by omega
  obtain ⟨z, hz⟩ : ∃ z : Int, z = a := ⟨_, rfl⟩
  have hz0 : 0 ≤ z ∧ z < 4294967296 := by omega
  have HT := Lib.hid hT
  have HN := Lib.hid hn
  have HN32 := Lib.hid hn32
  obtain ⟨g1, hg1⟩ : ∃ g1 : Nat, g1 = w.heap.size := ⟨_, rfl⟩
  obtain ⟨g2, hg2⟩ : ∃ g2 : Nat, g2 = w.heap.size + 1 := ⟨_, rfl⟩
  have BW := fun (m : Nat) (hm : m < 4294967296) (W : World) h1 h2 => bwrite_any m hm k hk g1 g2 W h1 h2
  have a3 : z / 16777216 = ((n / 16777216 % 256 : Nat) : Int) := by omega
  have a2 : bits .and .u32 (z / 65536) 255 = ((n / 65536 % 256 : Nat) : Int) := by
    have := and255 (n / 65536) (by omega)
    rw [← this, hz, ← hn]
    congr 1
  have a1 : bits .and .u32 (z / 256) 255 = ((n / 256 % 256 : Nat) : Int) := by
    have := and255 (n / 256) (by omega)
    rw [← this, hz, ← hn]
    congr 1
  have a0 : bits .and .u32 z 255 = ((n % 256 : Nat) : Int) := by
    rw [hz, ← hn]
    exact and255 n hn32
  have al : bits .and .u32 z 16777215 = ((n % 16777216 : Nat) : Int) := by
    rw [hz, ← hn]
    exact and24 n hn32
  have D1 := Lib.hid (BW n hn32)
  have D2 := Lib.hid (BW (n / 16777216 % 256) (by omega))
  have D3 := Lib.hid (BW (n / 65536 % 256) (by omega))
  have D4 := Lib.hid (BW (n / 256 % 256) (by omega))
  have D5 := Lib.hid (BW (n % 256) (by omega))
  have D7 := Lib.hid (BW (n % 16777216) (by omega))
  obtain ⟨d3, h3⟩ : ∃ d : Int, d = ((n / 16777216 % 256 : Nat) : Int) := ⟨_, rfl⟩
  obtain ⟨d2, h2⟩ : ∃ d : Int, d = ((n / 65536 % 256 : Nat) : Int) := ⟨_, rfl⟩
  obtain ⟨d1, h1⟩ : ∃ d : Int, d = ((n / 256 % 256 : Nat) : Int) := ⟨_, rfl⟩
  obtain ⟨d0, h0⟩ : ∃ d : Int, d = ((n % 256 : Nat) : Int) := ⟨_, rfl⟩
  obtain ⟨dl, hl⟩ : ∃ d : Int, d = ((n % 16777216 : Nat) : Int) := ⟨_, rfl⟩
  rw [← h3] at a3 D2
  rw [← h2] at a2 D3
  rw [← h1] at a1 D4
  rw [← h0] at a0 D5
  rw [← hl] at al D7
  rw [hn, ← hz] at D1
  rw [← hz]
  have HZA := Lib.hid hz
  have HBX : Hid (Below w.heap.size w ((w.alloc (.cells #[.int .i64 k] 3)).alloc (.cells #[.func (.func 20) #[] #[]] 35))) := Lib.hid (below_more (below_more (Below.refl w.heap.size w) _) _)
  have kst := fun (W : World) (m : Mode) => run_store Tryd.prog W (⟨w.heap.size + 1, 0, none⟩ : Addr) (.func (.func 20) #[] #[]) m rfl
  clear h3 h2 h1 h0 hl BW hn hz ha hT hn32 hk
  go_enter Tryd.func6, Tryd.ntmps6
  go_wp2_with fail
  have HC1 : Hid (((w.alloc (.cells #[.int .i64 k] 3)).alloc (.cells #[.func (.func 20) #[] #[]] 35)).cell? ⟨g1, 0, none⟩ = some (.int .i64 k)) := Lib.hid (by
    rw [hg1]
    exact cell_now (by rw [cell_of_row _ _ _ _ 3 (0, 0) (heap_alloc_new w _)]; rfl) (below_more (Below.refl _ _) _))
  have HC2 : Hid (((w.alloc (.cells #[.int .i64 k] 3)).alloc (.cells #[.func (.func 20) #[] #[]] 35)).cell? ⟨g2, 0, none⟩ = some (.func (.func 20) #[] #[])) := Lib.hid (by
    have e : g2 = (w.alloc (.cells #[.int .i64 k] 3)).heap.size := by rw [hg2]; simp
    rw [e, cell_of_row _ _ _ _ 35 (0, 0) (heap_alloc_new _ _)]
    rfl)
  rw [← hg2, ← hg1]
  generalize (w.alloc (.cells #[.int .i64 k] 3)).alloc (.cells #[.func (.func 20) #[] #[]] 35) = w0 at HC1 HC2 HBX ⊢
  clear kst hg1 hg2
  have HB0 : Hid (Below w0.heap.size w0 w0) := Lib.hid (Below.refl _ _)
  refine (D1.out _ (cell_now HC1.out HB0.out) (cell_now HC2.out HB0.out)).mono ?_
  rintro e w1 ⟨⟨y1, hy1, hz1, rfl⟩, hb1⟩
  have HB1 := Lib.hid (below_then HB0.out hb1)
  have HY1 := Lib.hid hy1
  clear hb1 hy1
  go_wp2_with fail
  refine (D2.out _ (cell_now HC1.out HB1.out) (cell_now HC2.out HB1.out)).mono ?_
  rintro e w2 ⟨⟨y2, hy2, hz2, rfl⟩, hb2⟩
  have HB2 := Lib.hid (below_then HB1.out hb2)
  have HY2 := Lib.hid hy2
  clear hb2 hy2
  go_wp2_with fail
  refine (D3.out _ (cell_now HC1.out HB2.out) (cell_now HC2.out HB2.out)).mono ?_
  rintro e w3 ⟨⟨y3, hy3, hz3, rfl⟩, hb3⟩
  have HB3 := Lib.hid (below_then HB2.out hb3)
  have HY3 := Lib.hid hy3
  clear hb3 hy3
  go_wp2_with fail
  refine (D4.out _ (cell_now HC1.out HB3.out) (cell_now HC2.out HB3.out)).mono ?_
  rintro e w4 ⟨⟨y4, hy4, hz4, rfl⟩, hb4⟩
  have HB4 := Lib.hid (below_then HB3.out hb4)
  have HY4 := Lib.hid hy4
  clear hb4 hy4
  go_wp2_with fail
  refine (D5.out _ (cell_now HC1.out HB4.out) (cell_now HC2.out HB4.out)).mono ?_
  rintro e w5 ⟨⟨y5, hy5, hz5, rfl⟩, hb5⟩
  have HB5 := Lib.hid (below_then HB4.out hb5)
  have HY5 := Lib.hid hy5
  clear hb5 hy5
  go_wp2_with fail
  refine (D2.out _ (cell_now HC1.out HB5.out) (cell_now HC2.out HB5.out)).mono ?_
  rintro e w6 ⟨⟨y6, hy6, hz6, rfl⟩, hb6⟩
  have HB6 := Lib.hid (below_then HB5.out hb6)
  have HY6 := Lib.hid hy6
  clear hb6 hy6
  go_wp2_with fail
  refine (D7.out _ (cell_now HC1.out HB6.out) (cell_now HC2.out HB6.out)).mono ?_
  rintro e w7 ⟨⟨y7, hy7, hz7, rfl⟩, hb7⟩
  have HB7 := Lib.hid (below_then HB6.out hb7)
  have HY7 := Lib.hid hy7
  clear hb7 hy7
  have hzd : (⟨#[46]⟩ : ByteArray).size = 1 := rfl
  obtain ⟨F, hF⟩ : ∃ F : ByteArray, y2 ++ (⟨#[46]⟩ : ByteArray) ++ y3 ++ (⟨#[46]⟩ : ByteArray) ++ y4 ++ (⟨#[46]⟩ : ByteArray) ++ y5 ++ (⟨#[46]⟩ : ByteArray) = F := ⟨_, rfl⟩
  obtain ⟨G, hG⟩ : ∃ G : ByteArray, y6 ++ (⟨#[46]⟩ : ByteArray) ++ y7 = G := ⟨_, rfl⟩
  have hFs : F.size ≤ 100 := by
    rw [← hF]
    simp only [ByteArray.size_append, hzd]
    omega
  have hGs : G.size ≤ 100 := by
    rw [← hG]
    simp only [ByteArray.size_append, hzd]
    omega
  have hFl : F.data.toList = fourT y2.data.toList y3.data.toList y4.data.toList y5.data.toList := by
    rw [← hF]
    simp only [mk_app, fourT, joinD]
    simp
  have hGl : G.data.toList = y6.data.toList ++ 46 :: y7.data.toList := by
    rw [← hG]
    simp only [mk_app]
    simp
  have h16 : n / 16777216 % 256 = n / 16777216 := by have := HN32.out; omega
  have E1 := fun W => hnumber_any y1 (by omega) W
  rw [wr_one HN32.out HY1.out, show ((optN (some n) : Nat) : Int) = z from by rw [HZA.out]; exact HN.out, show (some n).isSome = true from rfl] at E1
  have E2 := fun W => hnumber_any F (by omega) W
  rw [hFl, wr_four HN32.out HY2.out HY3.out HY4.out HY5.out, show ((optN (some n) : Nat) : Int) = z from by rw [HZA.out]; exact HN.out, show (some n).isSome = true from rfl] at E2
  have E3 := fun W => hnumber_any G (by omega) W
  rw [hGl, wr_two HN32.out (by rw [← h16]; exact HY6.out) HY7.out, show ((optN (some n) : Nat) : Int) = z from by rw [HZA.out]; exact HN.out, show (some n).isSome = true from rfl] at E3
  obtain ⟨X, hX⟩ : ∃ X : ByteArray, X = ⟨(textL n).toArray⟩ := ⟨_, rfl⟩
  have E4' := fun W (hT : Tab10 W) => hparse_any F (by omega) W hT
  rw [hFl, wr_host HN32.out HY2.out HY3.out HY4.out HY5.out] at E4'
  have E4 : Hid (∀ W, Tab10 W → Calls Tryd.prog 10 #[.string F] W fun e w' => e = .returned (.tuple #[.string X, .int .i64 0]) ∧ Below W.heap.size W w') := Lib.hid (by rw [hX]; exact E4')
  have E5 := Lib.hid (fun W (hT : Tab10 W) => htext_any n HN32.out W hT)
  rw [show ((n : Nat) : Int) = z from by rw [HZA.out]; exact HN.out, ← hX] at E5
  have F1 := Lib.hid E1
  have F2 := Lib.hid E2
  have F3 := Lib.hid E3
  have HBW := Lib.hid (HBX.out.trans (HB7.out.mono HBX.out.size))
  have hxx : (X.toList == X.toList) = true := beq_self_eq_true _
  have hzz : (z == z) = true := beq_self_eq_true _
  clear E1 E2 E3 E4' hX hFl hGl h16 hFs hGs D1 D2 D3 D4 D5 D7 HC1 HC2 HBX a0 a1 a2 a3 al
  go_wp2_with fail
  refine (F1.out _).mono ?_
  rintro e v1 ⟨rfl, hb1⟩
  have HV1 := Lib.hid (below_then HBW.out hb1)
  clear hb1
  go_wp2_with fail
  refine (F2.out _).mono ?_
  rintro e v2 ⟨rfl, hb2⟩
  have HV2 := Lib.hid (below_then HV1.out hb2)
  clear hb2
  go_wp2_with fail
  refine (F3.out _).mono ?_
  rintro e v3 ⟨rfl, hb3⟩
  have HV3 := Lib.hid (below_then HV2.out hb3)
  clear hb3
  go_wp2_with fail
  refine (E4.out _ (tab10_below HT.out HV3.out)).mono ?_
  rintro e v4 ⟨rfl, hb4⟩
  have HV4 := Lib.hid (below_then HV3.out hb4)
  clear hb4
  go_wp2_with fail
  refine (E5.out _ (tab10_below HT.out HV4.out)).mono ?_
  rintro e v5 ⟨rfl, hb5⟩
  have HV5 := Lib.hid (below_then HV4.out hb5)
  clear hb5
  go_wp2_with fail
  refine (hawake_any _ (tab10_below HT.out HV5.out)).mono ?_
  rintro e v6 ⟨rfl, hb6⟩
  have HV6 := Lib.hid (below_then HV5.out hb6)
  clear hb6
  go_wp2
  go_ret
  exact ⟨rfl, HV6.out⟩

theorem hostBases_own : ownKnob Tryd.prog.godebug = none := by kernel_rfl

theorem hostBases_contract (H : Type) (enc : TypeId × Value → H) (W : World) (base : Nat) (args : Array Value) (ds gs : List (DataW H)) (before : List MemPlace)
    (hval0 : ∀ (j : Nat) t v, Tryd.f6.params[j]? = some t → args[j]? = some v → Value.okWide Tryd.prog W .any base t v)
    (hW : DataW.Whole enc Tryd.prog Tryd.f6.params.toList Rows.hostBasesSpec.vars false W args.toList ds gs before) {vt : List TypeId}
    (hsz0 : (DataW.weightsEach Tryd.prog (Tryd.f6.params.toList ++ vt) (ds ++ gs)).all (· ≤ reachBytes) = true) (hL : laidMetH Tryd.prog Rows.hostBasesRow.laid W) :
    Calls Tryd.prog 6 args W fun e W' => ∃ v, e = .returned v ∧ Rows.hostBasesSpec.post enc Tryd.prog Tryd.f6 false true false false W args v W' := by
  refine law_contract (by kernel_rfl) (of_decide_eq_true (by kernel_rfl)) (tb := 4) (by kernel_rfl) Tryd.underlying4 rfl (fun ds h => by match ds, h with | [d0, d1], _ => exact ⟨rfl, rfl, rfl⟩) hW hsz0 ?_
  intro p hA0 hlt hszz
  have hval := hval0
  have hA : DataW.TrodAll enc Tryd.prog W 0 (fun _ => true) true Tryd.f6.params.toList args.toList ds p := hA0
  have hsz : (DataW.weightsEach Tryd.prog Tryd.f6.params.toList ds).all (· ≤ reachBytes) = true := hszz
  clear hval0 hA0 hszz hsz0 hW
  rw [Tryd.params6] at hA hval hsz
  obtain ⟨v0, vs0, d0, ds0, p0, q0, hargs, rfl, rfl, h0, r0⟩ := trodAll_cons hA
  obtain ⟨v1, vs1, d1, ds1, p1, q1, rfl, rfl, rfl, h1, r1⟩ := trodAll_cons r0
  obtain ⟨rfl, rfl, rfl⟩ := trodAll_nil r1
  obtain rfl : args = #[v0, v1] := by cases args; simp_all
  obtain ⟨a0, rfl, rfl, rfl, w0⟩ := open_int Tryd.underlying29 (hval 0 29 v0 rfl rfl) h0
  obtain ⟨a1, rfl, rfl, rfl, w1⟩ := open_int Tryd.underlying3 (hval 1 3 v1 rfl rfl) h1
  exact hostBases_any (w := W) a0 (bounds_u32 w0) a1 (bounds_i64 w1) (tab10_of hL)

noncomputable def hostBases_world (os : Os) : World := laidIn Tryd.prog Rows.hostBasesRow.laid (World.holding Tryd.prog os ⟨#[], #[], []⟩)

theorem hostBases_met (os : Os) : laidMet Tryd.prog Rows.hostBasesRow.laid ((hostBases_world os).forCall (fun _ _ => 0) ⟨#[], #[.int .u32 0, .int .i64 0], []⟩).memory :=
  laidMet_of_run' 8 (by kernel_rfl) (by kernel_rfl)

theorem hostBases_reads (os : Os) {H : Type} (enc : TypeId × Value → H) : ∃ places, DataW.whole enc Tryd.prog ((hostBases_world os).forCall (fun _ _ => 0) ⟨#[], #[.int .u32 0, .int .i64 0], []⟩).memory Tryd.f6.params.toList Rows.hostBasesSpec.vars false (#[.int .u32 0, .int .i64 0] : Array Value).toList 8 = some ([.lit (.int .u32 0), .lit (.int .i64 0)], [], places) :=
  ⟨[], by kernel_rfl⟩

set_option maxRecDepth 100000 in
theorem hostBases_lifted (os : Os) (started : os.Started) (H : Type) (enc : TypeId × Value → H) (F : Stop.Interp) :
    ReturnsInHanded {} Tryd.checked os 6 .any ((OpenSpec.ofChange Rows.hostBasesSpec).preRow enc Tryd.prog Tryd.f6 Rows.hostBasesRow.domain false Rows.hostBasesRow.laid) (((OpenSpec.ofChange Rows.hostBasesSpec).at F).post enc Tryd.prog Tryd.f6 false true false false) := by
  obtain ⟨places, hx⟩ := hostBases_reads os enc
  refine returnsInHanded_of_row (C := Tryd.checked) (s := OpenSpec.ofChange Rows.hostBasesSpec) hostBases_own started (by kernel_rfl) Tryd.func6
    (witness_row_at (enc := enc) (C := Tryd.checked) false (hostBases_world os) #[.int .u32 0, .int .i64 0] rfl (by kernel_rfl) (by kernel_rfl) (by kernel_rfl)
      (OpenSpec.preRow_of_cond 8 hx (by kernel_rfl) (fun k hk => by cases hk) (by kernel_rfl) (hostBases_met os))) ?_
  intro W base args ds gs before hval hW _ _ hsz hL _ _
  exact hostBases_contract H enc W base args ds gs before hval hW hsz hL

theorem hostBases_said : Rows.HostBasesSaid :=
  OpenClaim.holds_of_cond 6 Tryd.f6 rfl rfl rfl rfl rfl rfl rfl ⟨rfl, rfl, rfl, rfl, rfl⟩ rfl rfl rfl rfl rfl (by kernel_rfl) Tryd.func6 (by kernel_rfl)
    (of_decide_eq_true (by kernel_rfl)) (by unfold Func.isWrapper; first | (rw [if_pos (by decide +kernel)]; kernel_rfl) | (rw [if_neg (by decide +kernel)]; exact ⟨rfl, rfl⟩))
    (fun os started H enc _ F => by rw [OpenClaim.pre_eq_preRow]; exact hostBases_lifted os started H enc F)

theorem hostBases_plain (f : FuncId) (fn : Func) (hf : Tryd.pinned.checked.prog.funcNamed Tryd.f6.name = some f) (hfn : Tryd.pinned.checked.prog.funcs[f]? = some fn) :
    false = Tryd.pinned.checked.prog.looks [] ∧ ∀ (j : Nat) t, fn.params[j]? = some t → Tryd.pinned.checked.prog.wantsStandIn t = false := by
  obtain rfl : f = 6 := Option.some.inj ((show Tryd.prog.funcNamed Tryd.f6.name = some 6 by kernel_rfl).symm.trans hf) |>.symm
  obtain rfl : fn = Tryd.f6 := (Option.some.inj (Tryd.func6.symm.trans hfn)).symm
  refine ⟨by kernel_rfl, fun j t ht => ?_⟩
  have hall : ∀ t ∈ Tryd.f6.params, Tryd.prog.wantsStandIn t = false := of_decide_eq_true (by kernel_rfl)
  exact hall t (Array.mem_of_getElem? ht)

theorem hostBases_card : Rows.HostBasesCardSaid :=
  Claim7.holds_tied_plain_at .later [] _ _ _ _ hostBases_said (fun _ h => by cases h) (by kernel_rfl) (fun _ h => by cases h) hostBases_row_tie rfl ⟨rfl, rfl⟩ (by kernel_rfl) rfl hostBases_plain (by kernel_rfl)
#print axioms hostBases_card

end Go.Proofs.YtmfchplplpiogaaDoor
