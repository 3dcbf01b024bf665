/-
  HostCases: a host does not hang on its letters' case, nor on a byte that is written as a percent; the card's statement, its listed tables tied to the program's text. No condition.
-/
import Derived.Stop.LaidErr
import Derived.Deep.DeepHandedRow
import Derived.Deep.RegionHeldLaw
import Derived.Test.YtmfchplplpiogaaDoorCards
import Derived.Test.YtmfchplplpiogaaDoorTie
import Derived.Test.YtmfchplplpiogaaDoorProg
import Derived.Test.YtmfchplplpiogaaDoorKit
import Derived.Test.YtmfchplplpiogaaDoorLaw
import Derived.Test.YtmfchplplpiogaaDoorPlain
import Derived.Test.YtmfchplplpiogaaDoorRow
import Derived.Test.YtmfchplplpiogaaDoorCod7
import Derived.Test.YtmfchplplpiogaaDoorTxt0
import Derived.Test.YtmfchplplpiogaaDoorFrm4
import Derived.Test.YtmfchplplpiogaaDoorFrm11
import Derived.Test.YtmfchplplpiogaaDoorPct0
import Derived.Test.YtmfchplplpiogaaDoorPct3
import Derived.Test.YtmfchplplpiogaaDoorHst0
import Derived.Test.YtmfchplplpiogaaDoorHst1
import Derived.Test.YtmfchplplpiogaaDoorHst3
import Derived.Test.YtmfchplplpiogaaDoorHst6
import Derived.Test.YtmfchplplpiogaaDoorHst7
import Derived.Test.YtmfchplplpiogaaDoorHst8
import Derived.Test.YtmfchplplpiogaaDoorHst9
import Derived.Test.YtmfchplplpiogaaDoorHsu0
namespace Go.Proofs.YtmfchplplpiogaaDoor
open Go.ChangeShapes Go.WideShapes Go.ChangeAt Go.RowKit Go.Proofs
open Go.ChangeMaps (open_string shut_string)

theorem up_sz {U : ByteArray} {j : Nat} {x : UInt8} (h : U.size = j) : (U ++ (⟨#[x]⟩ : ByteArray)).size = j + 1 := by
  rw [ByteArray.size_append, h]
  rfl

theorem up_sz700 {U H : ByteArray} {j : Nat} {x : UInt8} (_h : ¬ 9223372036854775807 < U.size + 1) (_hj : j ≤ H.size) (hlt : j < H.size) (hH : H.size ≤ 700) (h : U.size = j) : (U ++ (⟨#[x]⟩ : ByteArray)).size ≤ 700 := by
  rw [up_sz h]
  omega

set_option maxHeartbeats 4000000 in
set_option maxRecDepth 100000 in
theorem hostCases_any (s : ByteArray) (hs : s.size ≤ 140737488351232) (k : Int) (hk : -9223372036854775808 ≤ k ∧ k ≤ 9223372036854775807) (w : World) (hT : Tab10 w) :
    Calls Tryd.prog 7 #[.string s, .int .i64 k] w fun e w' => e = .returned (.bool true) ∧ Below w.heap.size w w' := by
  have HT := Lib.hid hT
  clear hT
  by_cases hlong : 600 < (s.size : Int)
  · go_enter Tryd.func7, Tryd.ntmps7
    go_wp2_with fail
    refine (hawake_any _ HT.out).mono ?_
    rintro e w' ⟨rfl, hb1⟩
    go_wp2
    go_ret
    exact ⟨rfl, hb1⟩
  · by_cases h0 : s.size = 0
    · have hz : ((s.size : Int) == 0) = true := beq_iff_eq.2 (by omega)
      have hz2 : (s.size : Int) = 0 := by omega
      go_enter Tryd.func7, Tryd.ntmps7
      go_wp2_with fail
      refine (hawake_any _ HT.out).mono ?_
      rintro e w' ⟨rfl, hb1⟩
      go_wp2
      go_ret
      exact ⟨rfl, hb1⟩
    · have hz : ((s.size : Int) == 0) = false := beq_eq_false_iff_ne.2 (by omega)
      have C0 := Lib.hid (fun W (hT : Tab10 W) => hparse_any s (by omega) W hT)
      obtain ⟨o, ho⟩ : ∃ o, o = hostP s.data.toList := ⟨_, rfl⟩
      rw [← ho] at C0
      cases o with
      | none =>
        have C1 : Hid (∀ W, Tab10 W → Calls Tryd.prog 10 #[.string s] W fun e w' => e = .returned (.tuple #[.string ByteArray.empty, .int .i64 8]) ∧ Below W.heap.size W w') := C0
        clear C0 ho
        go_enter Tryd.func7, Tryd.ntmps7
        go_wp2_with fail
        refine (C1.out _ HT.out).mono ?_
        rintro e w1 ⟨rfl, hb1⟩
        have HB1 := Lib.hid hb1
        clear hb1
        go_wp2_with fail
        refine (hawake_any _ (tab10_below HT.out HB1.out)).mono ?_
        rintro e w2 ⟨rfl, hb2⟩
        have HB2 := Lib.hid (below_then HB1.out hb2)
        clear hb2
        go_wp2
        go_ret
        exact ⟨rfl, HB2.out⟩
      | some h =>
        obtain ⟨H, hH⟩ : ∃ H : ByteArray, H = ⟨h.toArray⟩ := ⟨_, rfl⟩
        have hHl : H.data.toList = h := by rw [hH]
        have C1 : Hid (∀ W, Tab10 W → Calls Tryd.prog 10 #[.string s] W fun e w' => e = .returned (.tuple #[.string H, .int .i64 0]) ∧ Below W.heap.size W w') := Lib.hid (by rw [hH]; exact C0.out)
        have hHs : H.size ≤ 700 := by
          rw [hH, mk_size]
          have := host_size ho.symm
          rw [size_data] at this
          omega
        have hne : H.size ≠ 0 := by
          intro h0
          have h1 := nil_size h0
          rw [hHl] at h1
          exact (host_low ho.symm).2.2.1 h1
        have hze : ((H.size : Int) == 0) = false := beq_eq_false_iff_ne.2 (by omega)
        have HO := Lib.hid ho
        have HH := Lib.hid hH
        have HHL := Lib.hid hHl
        have hpos : 0 < H.size := by omega
        clear C0 ho hH hHl
        go_enter Tryd.func7, Tryd.ntmps7
        go_wp2_with fail
        refine (C1.out _ HT.out).mono ?_
        rintro e w1 ⟨rfl, hb1⟩
        have HB1 := Lib.hid hb1
        clear hb1
        go_wp2_with fail
        refine (round_any k H.size _ hk (by omega)).mono ?_
        rintro e w2 ⟨⟨r, hr, rfl⟩, hw2⟩
        cases hw2
        have hrz : (r : Int) < (H.size : Int) := by omega
        have hr1 : (r : Int) + 1 ≤ (H.size : Int) := by omega
        have hr2 : (r : Int) ≤ (H.size : Int) := by omega
        have hc256 := H[r].toNat_lt
        obtain ⟨q, hq⟩ : ∃ q, q = H[r].toNat / 16 := ⟨_, rfl⟩
        obtain ⟨p, hp⟩ : ∃ p, p = H[r].toNat % 16 := ⟨_, rfl⟩
        have e1 : (H[r].toNat : Int) / 16 = (q : Int) := by omega
        have e2 : bits .and .u8 (H[r].toNat : Int) 15 = (p : Int) := by rw [and15, hp]
        have kq := fun W => run_hexdig (P := Tryd.prog) (t := 9) Tryd.underlying9 (show q < 16 by omega) .u8 W
        have kr := fun W => run_hexdig (P := Tryd.prog) (t := 9) Tryd.underlying9 (show p < 16 by omega) .u8 W
        unfold hexS16 at kq kr
        obtain ⟨X, hX⟩ : ∃ X, X = hexB q := ⟨_, rfl⟩
        obtain ⟨Y, hY⟩ : ∃ Y, Y = hexB p := ⟨_, rfl⟩
        rw [← hX] at kq
        rw [← hY] at kr
        have HPC := Lib.hid (host_pct (k := r) (c := H[r]) HO.out.symm (by rw [← HHL.out, List.getElem?_eq_getElem (by rw [size_data]; exact hr)]; rfl))
        rw [← hq, ← hp, ← hX, ← hY] at HPC
        have s0 := conv_pair X Y w1 (w1.alloc (.cells #[.int .u8 X.toNat, .int .u8 Y.toNat] 5)) (Below.refl _ _)
        have s1 := conv_pair X Y w1 ((w1.alloc (.cells #[.int .u8 X.toNat, .int .u8 Y.toNat] 5)).drew) (below_drewN (Below.refl _ _) 1)
        have hSA : (H.extract 0 r).size ≤ 700 := by rw [ByteArray.size_extract]; omega
        have hSB : (H.extract (r + 1) H.size).size ≤ 700 := by rw [ByteArray.size_extract]; omega
        obtain ⟨A, hA⟩ : ∃ A, H.extract 0 r = A := ⟨_, rfl⟩
        obtain ⟨B, hB⟩ : ∃ B, H.extract (r + 1) H.size = B := ⟨_, rfl⟩
        have hAl : A.data.toList = h.take r := by rw [← hA, extract_list, HHL.out]; simp
        have hBl : B.data.toList = h.drop (r + 1) := by rw [← hB, extract_tail, HHL.out]
        have HT1 : Hid ((A ++ (⟨#[37]⟩ : ByteArray) ++ (⟨#[X, Y]⟩ : ByteArray) ++ B).data.toList = h.take r ++ 37 :: X :: Y :: h.drop (r + 1)) := Lib.hid (by rw [mk_app, mk_app, mk_app, hAl, hBl]; simp)
        rw [hA] at hSA
        rw [hB] at hSB
        have c1 : ¬ 9223372036854775807 < A.size + 1 := by omega
        have c2 : ¬ 9223372036854775807 < A.size + 1 + 2 := by omega
        have c3 : ¬ 9223372036854775807 < A.size + 1 + 2 + B.size := by omega
        have q1 : (0 : Int) ≤ (r : Int) + 1 := by omega
        have q2 : IntKind.i64.wrap ((r : Int) + 1) = (r : Int) + 1 := by rw [IntKind.wrap_i64]; omega
        have q3 : ((r : Int) + 1).toNat = r + 1 := by omega
        have q4 : r + 1 ≤ H.size := hr
        clear hAl hBl
        clear hq hp hX hY hc256
        go_wp2_with fail
        go_region_law (fail)
        all_goals
          obtain ⟨T, hT⟩ : ∃ T : ByteArray, T = A ++ (⟨#[37]⟩ : ByteArray) ++ (⟨#[X, Y]⟩ : ByteArray) ++ B := ⟨_, rfl⟩
          have hTz : T.size ≤ 1500 := by
            rw [hT, ByteArray.size_append, ByteArray.size_append, ByteArray.size_append]
            have : (⟨#[37]⟩ : ByteArray).size = 1 := rfl
            have : (⟨#[X, Y]⟩ : ByteArray).size = 2 := rfl
            omega
          have C3' := fun W (hT : Tab10 W) => hparse_any T (by omega) W hT
          have hTl : T.data.toList = h.take r ++ 37 :: X :: Y :: h.drop (r + 1) := by rw [hT]; exact HT1.out
          rw [hTl, HPC.out] at C3'
          have C3 : Hid (∀ W, Tab10 W → Calls Tryd.prog 10 #[.string T] W fun e w' => e = .returned (.tuple #[.string H, .int .i64 0]) ∧ Below W.heap.size W w') := Lib.hid (by rw [HH.out]; exact C3')
          clear C3' hTl hTz c1 c2 c3 s0 s1 kq kr e1 e2 hSA hSB HT1 HPC hA hB
          rw [← hT]
          clear hT
          have HB3 : Hid (Below w.heap.size w ((w1.alloc (.cells #[.int .u8 X.toNat, .int .u8 Y.toNat] 5)).drew)) := Lib.hid (below_draws (below_more HB1.out _) ⟨1, rfl⟩)
          generalize (w1.alloc (.cells #[.int .u8 X.toNat, .int .u8 Y.toNat] 5)).drew = w3 at HB3 ⊢
          have HUP := Lib.hid (host_up HO.out.symm)
          clear q1 q2 q3 q4 HO
          go_wp2_with fail
          go_loopw [9, 10] (fun u i wr => ∃ (j : Nat) (U : ByteArray), j ≤ H.size ∧ i = .int .i64 j ∧ u = .string U ∧ U.size ≤ 700 ∧ Hid (U.size = j) ∧ Hid (U.data.toList = upL (h.take j)) ∧ Hid (Below w.heap.size w wr)) (fun _ i _ => H.size - (intOf i).toNat)
          case atStart => exact ⟨0, ⟨#[]⟩, Nat.zero_le _, rfl, rfl, by decide, Lib.hid rfl, Lib.hid (by simp [upL]), HB3⟩
          case round =>
            obtain ⟨j, U, hj, rfl, rfl, hUz, HUS, HU, HBW⟩ := hrel
            obtain ⟨w4, hw4⟩ : ∃ w4 : World, w4 = wr := ⟨_, rfl⟩
            subst hw4
            by_cases hlt : j < H.size
            · have hlz : (j : Int) < (H.size : Int) := by omega
              have HSN := Lib.hid (upL_snoc (l := h) (k := j) (c := H[j]) (by rw [← HHL.out, List.getElem?_eq_getElem (by rw [size_data]; exact hlt)]; rfl))
              have hxb := byte_bd H[j]
              have hUz2 : ¬ 9223372036854775807 < U.size + 1 := by omega
              by_cases c1 : 97 ≤ (H[j].toNat : Int)
              · by_cases c2 : (H[j].toNat : Int) ≤ 122
                · have hx := up_yes ⟨c1, c2⟩
                  obtain ⟨x, hxx⟩ : ∃ x, x = upB H[j] := ⟨_, rfl⟩
                  rw [← hxx] at hx HSN
                  obtain ⟨C, hC⟩ : ∃ C : Int, C = (H[j].toNat : Int) := ⟨_, rfl⟩
                  rw [← hC] at hx hxb c1 c2
                  have hC2 : (H[j].toNat : Int) = C := hC.symm
                  have hx2 : C - 32 = (x.toNat : Int) := hx.symm
                  have kc := conv_one x w4 (w4.alloc (.cells #[.int .u8 x.toNat] 5)) (Below.refl _ _)
                  have HB4 := Lib.hid (below_more HBW.out (.cells #[.int .u8 x.toNat] 5))
                  clear hx hC hxx
                  go_wp2_with fail
                  go_roundw
                  case rel => exact ⟨j + 1, _, by omega, by go_num, rfl, up_sz700 hUz2 hj hlt hHs HUS.out, Lib.hid (up_sz HUS.out), Lib.hid (by rw [mk_app, HU.out, HSN.out]), HB4⟩
                  case measure => simp [intOf]; omega
                · have hx : upB H[j] = H[j] := up_no (fun h => c2 h.2)
                  rw [hx] at HSN
                  have kc := conv_one H[j] w4 (w4.alloc (.cells #[.int .u8 H[j].toNat] 5)) (Below.refl _ _)
                  have HB4 := Lib.hid (below_more HBW.out (.cells #[.int .u8 H[j].toNat] 5))
                  clear hx
                  go_wp2_with fail
                  go_roundw
                  case rel => exact ⟨j + 1, _, by omega, by go_num, rfl, up_sz700 hUz2 hj hlt hHs HUS.out, Lib.hid (up_sz HUS.out), Lib.hid (by rw [mk_app, HU.out, HSN.out]), HB4⟩
                  case measure => simp [intOf]; omega
              · have hx : upB H[j] = H[j] := up_no (fun h => c1 h.1)
                rw [hx] at HSN
                have kc := conv_one H[j] w4 (w4.alloc (.cells #[.int .u8 H[j].toNat] 5)) (Below.refl _ _)
                have HB4 := Lib.hid (below_more HBW.out (.cells #[.int .u8 H[j].toNat] 5))
                clear hx
                go_wp2_with fail
                go_roundw
                case rel => exact ⟨j + 1, _, by omega, by go_num, rfl, up_sz700 hUz2 hj hlt hHs HUS.out, Lib.hid (up_sz HUS.out), Lib.hid (by rw [mk_app, HU.out, HSN.out]), HB4⟩
                case measure => simp [intOf]; omega
            · have hlz : ¬ (j : Int) < (H.size : Int) := by omega
              have hUl : U.data.toList = upL h := by rw [HU.out, List.take_of_length_le (by rw [← HHL.out, size_data]; omega)]
              have C4' := fun W (hT : Tab10 W) => hparse_any U (by omega) W hT
              rw [hUl, HUP.out] at C4'
              have C4 : Hid (∀ W, Tab10 W → Calls Tryd.prog 10 #[.string U] W fun e w' => e = .returned (.tuple #[.string H, .int .i64 0]) ∧ Below W.heap.size W w') := Lib.hid (by rw [HH.out]; exact C4')
              have hxx : (H.toList == H.toList) = true := beq_self_eq_true _
              clear hUl C4'
              go_wp2_with fail
              refine (C3.out _ (tab10_below HT.out HBW.out)).mono ?_
              rintro e w5 ⟨rfl, hb5⟩
              have HB5 := Lib.hid (below_then HBW.out hb5)
              clear hb5
              go_wp2_with fail
              refine (C4.out _ (tab10_below HT.out HB5.out)).mono ?_
              rintro e w6 ⟨rfl, hb6⟩
              have HB6 := Lib.hid (below_then HB5.out hb6)
              clear hb6
              go_wp2_with fail
              refine (hawake_any _ (tab10_below HT.out HB6.out)).mono ?_
              rintro e w7 ⟨rfl, hb7⟩
              have HB7 := Lib.hid (below_then HB6.out hb7)
              clear hb7
              go_wp2
              go_ret
              exact ⟨rfl, HB7.out⟩

theorem hostCases_own : ownKnob Tryd.prog.godebug = none := by kernel_rfl

theorem hostCases_contract (H : Type) (enc : TypeId × Value → H) (W : World) (base : Nat) (args : Array Value) (ds gs : List (DataW H)) (before : List MemPlace)
    (hval0 : ∀ (j : Nat) t v, Tryd.f7.params[j]? = some t → args[j]? = some v → Value.okWide Tryd.prog W .any base t v)
    (hW : DataW.Whole enc Tryd.prog Tryd.f7.params.toList Rows.hostCasesSpec.vars false W args.toList ds gs before) {vt : List TypeId}
    (hsz0 : (DataW.weightsEach Tryd.prog (Tryd.f7.params.toList ++ vt) (ds ++ gs)).all (· ≤ reachBytes) = true) (hL : laidMetH Tryd.prog Rows.hostCasesRow.laid W) :
    Calls Tryd.prog 7 args W fun e W' => ∃ v, e = .returned v ∧ Rows.hostCasesSpec.post enc Tryd.prog Tryd.f7 false true false false W args v W' := by
  refine law_contract (by kernel_rfl) (of_decide_eq_true (by kernel_rfl)) (tb := 4) (by kernel_rfl) Tryd.underlying4 rfl (fun ds h => by match ds, h with | [d0, d1], _ => exact ⟨rfl, rfl, rfl⟩) hW hsz0 ?_
  intro p hA0 hlt hszz
  have hval := hval0
  have hA : DataW.TrodAll enc Tryd.prog W 0 (fun _ => true) true Tryd.f7.params.toList args.toList ds p := hA0
  have hsz : (DataW.weightsEach Tryd.prog Tryd.f7.params.toList ds).all (· ≤ reachBytes) = true := hszz
  clear hval0 hA0 hszz hsz0 hW
  rw [Tryd.params7] at hA hval hsz
  obtain ⟨v0, vs0, d0, ds0, p0, q0, hargs, rfl, rfl, h0, r0⟩ := trodAll_cons hA
  obtain ⟨v1, vs1, d1, ds1, p1, q1, rfl, rfl, rfl, h1, r1⟩ := trodAll_cons r0
  obtain ⟨rfl, rfl, rfl⟩ := trodAll_nil r1
  obtain rfl : args = #[v0, v1] := by cases args; simp_all
  obtain ⟨a0, rfl, rfl, rfl, w0⟩ := open_string Tryd.underlying9 (hval 0 9 v0 rfl rfl) h0
  have z0 := sized_string hsz (j := 0) rfl rfl
  rw [size_data] at z0
  obtain ⟨a1, rfl, rfl, rfl, w1⟩ := open_int Tryd.underlying3 (hval 1 3 v1 rfl rfl) h1
  exact hostCases_any (w := W) a0 z0 a1 (bounds_i64 w1) (tab10_of hL)

noncomputable def hostCases_world (os : Os) : World := laidIn Tryd.prog Rows.hostCasesRow.laid (World.holding Tryd.prog os ⟨#[], #[], []⟩)

theorem hostCases_met (os : Os) : laidMet Tryd.prog Rows.hostCasesRow.laid ((hostCases_world os).forCall (fun _ _ => 0) ⟨#[], #[.string ByteArray.empty, .int .i64 0], []⟩).memory :=
  laidMet_of_run' 8 (by kernel_rfl) (by kernel_rfl)

theorem hostCases_reads (os : Os) {H : Type} (enc : TypeId × Value → H) : ∃ places, DataW.whole enc Tryd.prog ((hostCases_world os).forCall (fun _ _ => 0) ⟨#[], #[.string ByteArray.empty, .int .i64 0], []⟩).memory Tryd.f7.params.toList Rows.hostCasesSpec.vars false (#[.string ByteArray.empty, .int .i64 0] : Array Value).toList 8 = some ([.lit (.string []), .lit (.int .i64 0)], [], places) :=
  ⟨[], by kernel_rfl⟩

set_option maxRecDepth 100000 in
theorem hostCases_lifted (os : Os) (started : os.Started) (H : Type) (enc : TypeId × Value → H) (F : Stop.Interp) :
    ReturnsInHanded {} Tryd.checked os 7 .any ((OpenSpec.ofChange Rows.hostCasesSpec).preRow enc Tryd.prog Tryd.f7 Rows.hostCasesRow.domain false Rows.hostCasesRow.laid) (((OpenSpec.ofChange Rows.hostCasesSpec).at F).post enc Tryd.prog Tryd.f7 false true false false) := by
  obtain ⟨places, hx⟩ := hostCases_reads os enc
  refine returnsInHanded_of_row (C := Tryd.checked) (s := OpenSpec.ofChange Rows.hostCasesSpec) hostCases_own started (by kernel_rfl) Tryd.func7
    (witness_row_at (enc := enc) (C := Tryd.checked) false (hostCases_world os) #[.string ByteArray.empty, .int .i64 0] rfl (by kernel_rfl) (by kernel_rfl) (by kernel_rfl)
      (OpenSpec.preRow_of_cond 8 hx (by kernel_rfl) (fun k hk => by cases hk) (by kernel_rfl) (hostCases_met os))) ?_
  intro W base args ds gs before hval hW _ _ hsz hL _ _
  exact hostCases_contract H enc W base args ds gs before hval hW hsz hL

theorem hostCases_said : Rows.HostCasesSaid :=
  OpenClaim.holds_of_cond 7 Tryd.f7 rfl rfl rfl rfl rfl rfl rfl ⟨rfl, rfl, rfl, rfl, rfl⟩ rfl rfl rfl rfl rfl (by kernel_rfl) Tryd.func7 (by kernel_rfl)
    (of_decide_eq_true (by kernel_rfl)) (by unfold Func.isWrapper; first | (rw [if_pos (by decide +kernel)]; kernel_rfl) | (rw [if_neg (by decide +kernel)]; exact ⟨rfl, rfl⟩))
    (fun os started H enc _ F => by rw [OpenClaim.pre_eq_preRow]; exact hostCases_lifted os started H enc F)

theorem hostCases_plain (f : FuncId) (fn : Func) (hf : Tryd.pinned.checked.prog.funcNamed Tryd.f7.name = some f) (hfn : Tryd.pinned.checked.prog.funcs[f]? = some fn) :
    false = Tryd.pinned.checked.prog.looks [] ∧ ∀ (j : Nat) t, fn.params[j]? = some t → Tryd.pinned.checked.prog.wantsStandIn t = false := by
  obtain rfl : f = 7 := Option.some.inj ((show Tryd.prog.funcNamed Tryd.f7.name = some 7 by kernel_rfl).symm.trans hf) |>.symm
  obtain rfl : fn = Tryd.f7 := (Option.some.inj (Tryd.func7.symm.trans hfn)).symm
  refine ⟨by kernel_rfl, fun j t ht => ?_⟩
  have hall : ∀ t ∈ Tryd.f7.params, Tryd.prog.wantsStandIn t = false := of_decide_eq_true (by kernel_rfl)
  exact hall t (Array.mem_of_getElem? ht)

theorem hostCases_card : Rows.HostCasesCardSaid :=
  Claim7.holds_tied_plain_at .later [] _ _ _ _ hostCases_said (fun _ h => by cases h) (by kernel_rfl) (fun _ h => by cases h) hostCases_row_tie rfl ⟨rfl, rfl⟩ (by kernel_rfl) rfl hostCases_plain (by kernel_rfl)
#print axioms hostCases_card

end Go.Proofs.YtmfchplplpiogaaDoor
