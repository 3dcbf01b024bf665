/-
  PercentBytes: for every text, every number of a set and every place, the text is encoded piece by piece, and has two bytes more for each byte that is encoded; the card's statement, its two listed tables tied to the program's text. No condition.
-/
import Derived.Stop.LaidErr
import Derived.Deep.DeepHandedRow
import Derived.Test.YtommhbfdkboeiaaDoorCards
import Derived.Test.YtommhbfdkboeiaaDoorTie
import Derived.Test.YtommhbfdkboeiaaDoorProg
import Derived.Test.YtommhbfdkboeiaaDoorKit
import Derived.Test.YtommhbfdkboeiaaDoorLaw
import Derived.Test.YtommhbfdkboeiaaDoorPlain
import Derived.Test.YtommhbfdkboeiaaDoorRow
import Derived.Test.YtommhbfdkboeiaaDoorRow2
import Derived.Test.YtommhbfdkboeiaaDoorCod7
import Derived.Test.YtommhbfdkboeiaaDoorFrm11
import Derived.Test.YtommhbfdkboeiaaDoorStp
import Derived.Test.YtommhbfdkboeiaaDoorPct0
import Derived.Test.YtommhbfdkboeiaaDoorPct2
import Derived.Test.YtommhbfdkboeiaaDoorPct3
import Derived.Test.YtommhbfdkboeiaaDoorPct6
import Derived.Test.YtommhbfdkboeiaaDoorPlw0
namespace Go.Proofs.YtommhbfdkboeiaaDoor
open Go.ChangeShapes Go.WideShapes Go.ChangeAt Go.RowKit Go.Proofs
open Go.ChangeMaps (open_string shut_string)

/-- How many bytes more are written. -/
def moreL (k : Int) : List UInt8 → Nat
  | [] => 0
  | c :: l => (if inB k c then 2 else 0) + moreL k l

theorem moreL_append (k : Int) : ∀ a b : List UInt8, moreL k (a ++ b) = moreL k a + moreL k b
  | [], b => by simp [moreL]
  | c :: a, b => by
    rw [List.cons_append, moreL, moreL, moreL_append k a b]
    omega

theorem moreL_len (k : Int) : ∀ l : List UInt8, (encL k l).length = l.length + moreL k l
  | [] => rfl
  | c :: l => by
    rw [encL_cons, List.length_append, moreL_len k l, moreL, List.length_cons]
    cases h : inB k c
    · rw [encB_no h, if_neg (by decide)]
      simp
      omega
    · rw [encB_yes h, if_pos rfl]
      simp
      omega

theorem moreL_le (k : Int) : ∀ l : List UInt8, moreL k l ≤ 2 * l.length
  | [] => Nat.zero_le _
  | c :: l => by
    rw [moreL, List.length_cons]
    have := moreL_le k l
    split <;> omega

theorem moreL_snoc (k : Int) (s : ByteArray) (i : Nat) (h : i < s.size) : moreL k (s.data.toList.take (i + 1)) = moreL k (s.data.toList.take i) + (if inB k s[i] then 2 else 0) := by
  rw [take_snoc s i h, moreL_append]
  simp [moreL]

theorem percentBytes_any (s : ByteArray) (hs : s.size ≤ 140737488351232) (k : Int) (_hk : -9223372036854775808 ≤ k ∧ k ≤ 9223372036854775807) (q : Int) (hq : -9223372036854775808 ≤ q ∧ q ≤ 9223372036854775807) (w : World) (hT : Tabs9 w) :
    Calls Tryd.prog 9 #[.string s, .int .i64 k, .int .i64 q] w fun e w' => e = .returned (.bool true) ∧ Below w.heap.size w w' := by
  have HT := Lib.hid hT
  clear hT
  by_cases hlong : 3000 < (s.size : Int)
  · go_enter Tryd.func9, Tryd.ntmps9
    go_wp2_with fail
    refine (awake9_any _ HT.out).mono ?_
    rintro e w' ⟨rfl, hb1⟩
    go_wp2
    go_ret
    exact ⟨rfl, hb1⟩
  by_cases hk1 : k < 1
  · go_enter Tryd.func9, Tryd.ntmps9
    go_wp2_with fail
    refine (awake9_any _ HT.out).mono ?_
    rintro e w' ⟨rfl, hb1⟩
    go_wp2
    go_ret
    exact ⟨rfl, hb1⟩
  by_cases hk4 : 4 < k
  · go_enter Tryd.func9, Tryd.ntmps9
    go_wp2_with fail
    refine (awake9_any _ HT.out).mono ?_
    rintro e w' ⟨rfl, hb1⟩
    go_wp2
    go_ret
    exact ⟨rfl, hb1⟩
  have hrd := round_any q (s.size + 1) w hq (by omega)
  rw [show ((s.size + 1 : Nat) : Int) = (s.size : Int) + 1 from by omega] at hrd
  go_enter Tryd.func9, Tryd.ntmps9
  go_wp2_with fail
  refine hrd.mono ?_
  rintro e w1 ⟨⟨r, hr, rfl⟩, rfl⟩
  have hrz : (r : Int) ≤ (s.size : Int) := by omega
  have hr0 : (0 : Int) ≤ (r : Int) := by omega
  obtain ⟨t1, ht1⟩ : ∃ t1, t1 = s.extract 0 r := ⟨_, rfl⟩
  obtain ⟨t2, ht2⟩ : ∃ t2, t2 = s.extract r s.size := ⟨_, rfl⟩
  have l1 : t1.data.toList = s.data.toList.take r := by rw [ht1, extract_list]; simp
  have l2 : t2.data.toList = s.data.toList.drop r := by rw [ht2, extract_tail]
  have s1 : t1.size ≤ 3000 := by rw [← size_data, l1, List.length_take, size_data]; omega
  have s2 : t2.size ≤ 3000 := by rw [← size_data, l2, List.length_drop, size_data]; omega
  obtain ⟨e1, he1⟩ : ∃ e1, e1 = encL k t1.data.toList := ⟨_, rfl⟩
  obtain ⟨e2, he2⟩ : ∃ e2, e2 = encL k t2.data.toList := ⟨_, rfl⟩
  have K1 : ∀ W, Hid (Below w.heap.size w W) → Calls Tryd.prog 13 #[.string t1, .int .i64 k] W fun e W' => e = .returned (.string ⟨e1.toArray⟩) ∧ Hid (Below w.heap.size w W') := fun W hb => (encode_any t1 (by omega) k W).mono (fun e W' h => ⟨by rw [he1]; exact h.1, Lib.hid (below_then hb.out h.2)⟩)
  have K2 : ∀ W, Hid (Below w.heap.size w W) → Calls Tryd.prog 13 #[.string t2, .int .i64 k] W fun e W' => e = .returned (.string ⟨e2.toArray⟩) ∧ Hid (Below w.heap.size w W') := fun W hb => (encode_any t2 (by omega) k W).mono (fun e W' h => ⟨by rw [he2]; exact h.1, Lib.hid (below_then hb.out h.2)⟩)
  have HE : Hid (e1 ++ e2 = encL k s.data.toList) := Lib.hid (by rw [he1, he2, l1, l2, ← encL_append, List.take_append_drop])
  have HLN : Hid (e1.length + e2.length ≤ 9000) := Lib.hid (by
    have h1 := congrArg List.length HE.out
    have h2 := encL_len k s.data.toList
    rw [List.length_append] at h1
    rw [size_data] at h2
    omega)
  have hsum : ¬ 9223372036854775807 < e1.length + e2.length := by have := HLN.out; omega
  obtain ⟨E, hE⟩ : ∃ E : ByteArray, E = ⟨(encL k s.data.toList).toArray⟩ := ⟨_, rfl⟩
  have happ : ((⟨e1.toArray⟩ : ByteArray) ++ ⟨e2.toArray⟩) = E := by
    rw [hE, ← HE.out]
    apply ByteArray.ext
    simp
  have hEs : Hid ((E.size : Int) = (s.size : Int) + (moreL k s.data.toList : Int)) := Lib.hid (by
    rw [← size_data, hE]
    have := moreL_len k s.data.toList
    rw [size_data] at this
    simp only
    omega)
  have HEN := Lib.hid (fun W => encode_any s (by omega) k W)
  rw [← hE] at HEN
  have HK1 := Lib.hid K1
  have HK2 := Lib.hid K2
  have henter : Enters Tryd.prog 13 := enters_of Tryd.func13 (by kernel_rfl) rfl
  have HD0 : Hid (Below w.heap.size w w) := Lib.hid (Below.refl _ _)
  have HD1 : Hid (Below w.heap.size w w.drew) := Lib.hid (below_draws (Below.refl _ _) ⟨1, rfl⟩)
  have x1 : s.extract 0 r = t1 := ht1.symm
  have x2 : s.extract r s.size = t2 := ht2.symm
  clear hrd l1 l2 s1 s2 K1 K2 he1 he2 ht1 ht2 hE
  go_wp2_with fail
  go_region_law (first
    | (refine step_call rfl 13 _ _ rfl #[.string t1, .int .i64 k] ?_ henter (HK1.out _ ?_) ?_; simp [go_sem]; assumption; rintro e w2 ⟨rfl, hb2⟩; refine ⟨_, rfl, ?_⟩)
    | (refine step_call rfl 13 _ _ rfl #[.string t2, .int .i64 k] ?_ henter (HK2.out _ ?_) ?_; simp [go_sem]; assumption; rintro e w2 ⟨rfl, hb2⟩; refine ⟨_, rfl, ?_⟩))
  all_goals
    try rw [happ]
    clear HK1 HK2 x1 x2 hsum happ HLN HE henter
    go_wp2_with fail
    go_loopw [8, 9] (fun c i wr => ∃ n : Nat, n ≤ s.size ∧ i = .int .i64 n ∧ c = .int .i64 (moreL k (s.data.toList.take n) : Int) ∧ Hid (Below w.heap.size w wr)) (fun _ i _ => s.size - (intOf i).toNat)
    case atStart => exact ⟨0, Nat.zero_le _, rfl, rfl, by assumption⟩
    case round =>
      obtain ⟨n, hn, rfl, rfl, HB⟩ := hrel
      have hml := moreL_le k (s.data.toList.take n)
      have hml2 : (s.data.toList.take n).length ≤ n := by rw [List.length_take]; omega
      by_cases hlt : n < s.size
      · have hin := in_any s[n] k wr
        have HM := Lib.hid (moreL_snoc k s n hlt)
        cases hy : inB k s[n]
        · rw [hy] at hin HM
          clear hy
          go_wp2_with fail
          refine hin.mono ?_
          rintro e w3 ⟨rfl, rfl⟩
          go_wp2
          go_roundw
          case rel => exact ⟨n + 1, by omega, by go_num, by rw [HM.out]; rfl, HB⟩
          case measure => simp [intOf]; omega
        · rw [hy] at hin HM
          clear hy
          go_wp2_with fail
          refine hin.mono ?_
          rintro e w3 ⟨rfl, rfl⟩
          go_wp2
          go_roundw
          case rel => exact ⟨n + 1, by omega, by go_num, by rw [HM.out]; go_num, HB⟩
          case measure => simp [intOf]; omega
      · have hfull : s.data.toList.take n = s.data.toList := List.take_of_length_le (by rw [size_data]; omega)
        rw [hfull] at hml hml2 ⊢
        obtain ⟨M, hM⟩ : ∃ M, M = moreL k s.data.toList := ⟨_, rfl⟩
        have hes := hEs.out
        rw [← hM] at hes hml ⊢
        clear hfull hM hEs
        go_wp2_with fail
        refine (HEN.out _).mono ?_
        rintro e w3 ⟨rfl, hb3⟩
        have HB3 := Lib.hid (below_then HB.out hb3)
        clear hb3
        go_wp2_with fail
        refine (awake9_any _ (tabs_below HT.out HB3.out)).mono ?_
        rintro e w5 ⟨rfl, hb5⟩
        have HB5 := Lib.hid (below_then HB3.out hb5)
        clear hb5
        go_wp2
        go_ret
        exact ⟨rfl, HB5.out⟩

theorem percentBytes_own : ownKnob Tryd.prog.godebug = none := by kernel_rfl

theorem percentBytes_contract (H : Type) (enc : TypeId × Value → H) (W : World) (base : Nat) (args : Array Value) (ds gs : List (DataW H)) (before : List MemPlace)
    (hval0 : ∀ (j : Nat) t v, Tryd.f9.params[j]? = some t → args[j]? = some v → Value.okWide Tryd.prog W .any base t v)
    (hW : DataW.Whole enc Tryd.prog Tryd.f9.params.toList Rows.percentBytesSpec.vars false W args.toList ds gs before) {vt : List TypeId}
    (hsz0 : (DataW.weightsEach Tryd.prog (Tryd.f9.params.toList ++ vt) (ds ++ gs)).all (· ≤ reachBytes) = true) (hL : laidMetH Tryd.prog Rows.percentBytesRow.laid W) :
    Calls Tryd.prog 9 args W fun e W' => ∃ v, e = .returned v ∧ Rows.percentBytesSpec.post enc Tryd.prog Tryd.f9 false true false false W args v W' := by
  refine law_contract (by kernel_rfl) (of_decide_eq_true (by kernel_rfl)) (tb := 4) (by kernel_rfl) Tryd.underlying4 rfl (fun ds h => by match ds, h with | [d0, d1, d2], _ => exact ⟨rfl, rfl, rfl⟩) hW hsz0 ?_
  intro p hA0 hlt hszz
  have hval := hval0
  have hA : DataW.TrodAll enc Tryd.prog W 0 (fun _ => true) true Tryd.f9.params.toList args.toList ds p := hA0
  have hsz : (DataW.weightsEach Tryd.prog Tryd.f9.params.toList ds).all (· ≤ reachBytes) = true := hszz
  clear hval0 hA0 hszz hsz0 hW
  rw [Tryd.params9] at hA hval hsz
  obtain ⟨v0, vs0, d0, ds0, p0, q0, hargs, rfl, rfl, h0, r0⟩ := trodAll_cons hA
  obtain ⟨v1, vs1, d1, ds1, p1, q1, rfl, rfl, rfl, h1, r1⟩ := trodAll_cons r0
  obtain ⟨v2, vs2, d2, ds2, p2, q2, rfl, rfl, rfl, h2, r2⟩ := trodAll_cons r1
  obtain ⟨rfl, rfl, rfl⟩ := trodAll_nil r2
  obtain rfl : args = #[v0, v1, v2] := by cases args; simp_all
  obtain ⟨a0, rfl, rfl, rfl, w0⟩ := open_string Tryd.underlying9 (hval 0 9 v0 rfl rfl) h0
  have z0 := sized_string hsz (j := 0) rfl rfl
  rw [size_data] at z0
  obtain ⟨a1, rfl, rfl, rfl, w1⟩ := open_int Tryd.underlying3 (hval 1 3 v1 rfl rfl) h1
  obtain ⟨a2, rfl, rfl, rfl, w2⟩ := open_int Tryd.underlying3 (hval 2 3 v2 rfl rfl) h2
  exact percentBytes_any (w := W) a0 z0 a1 (bounds_i64 w1) a2 (bounds_i64 w2) (tabs_of hL)

noncomputable def percentBytes_world (os : Os) : World := laidIn Tryd.prog Rows.percentBytesRow.laid (World.holding Tryd.prog os ⟨#[], #[], []⟩)

theorem percentBytes_met (os : Os) : laidMet Tryd.prog Rows.percentBytesRow.laid ((percentBytes_world os).forCall (fun _ _ => 0) ⟨#[], #[.string ByteArray.empty, .int .i64 0, .int .i64 0], []⟩).memory :=
  laidMet_of_run' 8 (by kernel_rfl) (by kernel_rfl)

theorem percentBytes_reads (os : Os) {H : Type} (enc : TypeId × Value → H) : ∃ places, DataW.whole enc Tryd.prog ((percentBytes_world os).forCall (fun _ _ => 0) ⟨#[], #[.string ByteArray.empty, .int .i64 0, .int .i64 0], []⟩).memory Tryd.f9.params.toList Rows.percentBytesSpec.vars false (#[.string ByteArray.empty, .int .i64 0, .int .i64 0] : Array Value).toList 8 = some ([.lit (.string []), .lit (.int .i64 0), .lit (.int .i64 0)], [], places) :=
  ⟨[], by kernel_rfl⟩

set_option maxRecDepth 100000 in
theorem percentBytes_lifted (os : Os) (started : os.Started) (H : Type) (enc : TypeId × Value → H) (F : Stop.Interp) :
    ReturnsInHanded {} Tryd.checked os 9 .any ((OpenSpec.ofChange Rows.percentBytesSpec).preRow enc Tryd.prog Tryd.f9 Rows.percentBytesRow.domain false Rows.percentBytesRow.laid) (((OpenSpec.ofChange Rows.percentBytesSpec).at F).post enc Tryd.prog Tryd.f9 false true false false) := by
  obtain ⟨places, hx⟩ := percentBytes_reads os enc
  refine returnsInHanded_of_row (C := Tryd.checked) (s := OpenSpec.ofChange Rows.percentBytesSpec) percentBytes_own started (by kernel_rfl) Tryd.func9
    (witness_row_at (enc := enc) (C := Tryd.checked) false (percentBytes_world os) #[.string ByteArray.empty, .int .i64 0, .int .i64 0] rfl (by kernel_rfl) (by kernel_rfl) (by kernel_rfl)
      (OpenSpec.preRow_of_cond 8 hx (by kernel_rfl) (fun k hk => by cases hk) (by kernel_rfl) (percentBytes_met os))) ?_
  intro W base args ds gs before hval hW _ _ hsz hL _ _
  exact percentBytes_contract H enc W base args ds gs before hval hW hsz hL

theorem percentBytes_said : Rows.PercentBytesSaid :=
  OpenClaim.holds_of_cond 9 Tryd.f9 rfl rfl rfl rfl rfl rfl rfl ⟨rfl, rfl, rfl, rfl, rfl⟩ rfl rfl rfl rfl rfl (by kernel_rfl) Tryd.func9 (by kernel_rfl)
    (of_decide_eq_true (by kernel_rfl)) (by unfold Func.isWrapper; first | (rw [if_pos (by decide +kernel)]; kernel_rfl) | (rw [if_neg (by decide +kernel)]; exact ⟨rfl, rfl⟩))
    (fun os started H enc _ F => by rw [OpenClaim.pre_eq_preRow]; exact percentBytes_lifted os started H enc F)

theorem percentBytes_plain (f : FuncId) (fn : Func) (hf : Tryd.pinned.checked.prog.funcNamed Tryd.f9.name = some f) (hfn : Tryd.pinned.checked.prog.funcs[f]? = some fn) :
    false = Tryd.pinned.checked.prog.looks [] ∧ ∀ (j : Nat) t, fn.params[j]? = some t → Tryd.pinned.checked.prog.wantsStandIn t = false := by
  obtain rfl : f = 9 := Option.some.inj ((show Tryd.prog.funcNamed Tryd.f9.name = some 9 by kernel_rfl).symm.trans hf) |>.symm
  obtain rfl : fn = Tryd.f9 := (Option.some.inj (Tryd.func9.symm.trans hfn)).symm
  refine ⟨by kernel_rfl, fun j t ht => ?_⟩
  have hall : ∀ t ∈ Tryd.f9.params, Tryd.prog.wantsStandIn t = false := of_decide_eq_true (by kernel_rfl)
  exact hall t (Array.mem_of_getElem? ht)

theorem percentBytes_card : Rows.PercentBytesCardSaid :=
  Claim7.holds_tied_plain_at .later [] _ _ _ _ percentBytes_said (fun _ h => by cases h) (by kernel_rfl) (fun _ h => by cases h) percentBytes_row_tie rfl ⟨rfl, rfl⟩ (by kernel_rfl) rfl percentBytes_plain (by kernel_rfl)
#print axioms percentBytes_card

end Go.Proofs.YtommhbfdkboeiaaDoor
