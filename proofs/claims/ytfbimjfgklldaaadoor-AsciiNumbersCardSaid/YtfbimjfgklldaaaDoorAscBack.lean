/-
  AsciiBack: what is split is the text again with the byte between; a number that is written is read; the card's statement, its listed tables tied to the program's text. No condition.
-/
import Derived.Lib.LaidTab
import Derived.Lib.ItoaMem
import Derived.Lib.ItoaLen
import Derived.Stop.LaidErr
import Derived.Deep.DeepHandedRow
import Derived.Test.YtfbimjfgklldaaaDoorCards
import Derived.Test.YtfbimjfgklldaaaDoorTie
import Derived.Test.YtfbimjfgklldaaaDoorProg
import Derived.Test.YtfbimjfgklldaaaDoorKit
import Derived.Test.YtfbimjfgklldaaaDoorLaw
import Derived.Test.YtfbimjfgklldaaaDoorAsc1
import Derived.Test.YtfbimjfgklldaaaDoorAsc4
import Derived.Test.YtfbimjfgklldaaaDoorAsc5
import Derived.Test.YtfbimjfgklldaaaDoorAsc6
import Derived.Test.YtfbimjfgklldaaaDoorAsc7
import Derived.Test.YtfbimjfgklldaaaDoorAsc8
namespace Go.Proofs.YtfbimjfgklldaaaDoor
open Go.ChangeShapes Go.WideShapes Go.ChangeAt Go.RowKit Go.Proofs
open Go.ChangeMaps (open_string shut_string)

theorem Tryd.pow10Type : (Tryd.prog.globals[1]?).map (·.type) = some 47 := by kernel_rfl

theorem Tryd.pow10Cells : Tryd.prog.cellsOf 47 = 20 := by kernel_rfl

theorem Tryd.u64Cells : Tryd.prog.cellsOf 34 = 1 := by kernel_rfl

theorem Tryd.pow10Named : Tryd.prog.globalNamed "internal/strconv.uint64pow10" = some 1 := by kernel_rfl

theorem pow10_of {W : World} (h : laidMetH Tryd.prog Rows.asciiBackRow.laid W) : Lib.TabIs Tryd.prog W "internal/strconv.uint64pow10" .u64 Lib.pow10Tab :=
  Lib.tabIs_of_head (rest := []) Tryd.pow10Named Tryd.pow10Type Tryd.underlying47 Tryd.underlying34 Tryd.u64Cells Tryd.pow10Cells (laidMet.tail (laidMet.tail h))

theorem digits_facts (u : Nat) : (Lib.decDigits u).all (fun c => isDig c.toNat) = true ∧ numVal (Lib.decDigits u) = u ∧ (0 < u → (Lib.decDigits u).head? ≠ some 48 ∧ 10 ^ ((Lib.decDigits u).length - 1) ≤ u) ∧ Lib.decDigits u ≠ [] := by
  induction u using Nat.strongRecOn with
  | ind u ih =>
    have hd : ∀ d, d < 10 → isDig (UInt8.ofNat (48 + d)).toNat = true ∧ ((UInt8.ofNat (48 + d)).toNat : Int) - 48 = d := by
      intro d hd
      rw [UInt8.toNat_ofNat', Nat.mod_eq_of_lt (by omega)]
      exact ⟨isDig_yes (by omega), by omega⟩
    rw [Lib.decDigits]
    by_cases h10 : u < 10
    · rw [dif_pos h10]
      have h1 := hd u h10
      refine ⟨by rw [List.all_cons, h1.1]; rfl, ?_, fun hu => ⟨?_, by simp; omega⟩, by simp⟩
      · unfold numVal
        simp only [List.foldl_cons, List.foldl_nil]
        omega
      · simp only [List.head?_cons, ne_eq, Option.some.injEq]
        intro e
        have := congrArg UInt8.toNat e
        rw [UInt8.toNat_ofNat', Nat.mod_eq_of_lt (by omega)] at this
        simp at this
        omega
    · rw [dif_neg h10]
      obtain ⟨a1, a2, a3, a4⟩ := ih (u / 10) (by omega)
      have h1 := hd (u % 10) (by omega)
      obtain ⟨a5, a6⟩ := a3 (by omega)
      refine ⟨by rw [List.all_append, a1, List.all_cons, h1.1]; rfl, ?_, fun _ => ⟨?_, ?_⟩, by simp⟩
      · rw [numVal_snoc, a2, h1.2]
        omega
      · cases h : Lib.decDigits (u / 10) with
        | nil => exact absurd h a4
        | cons c r => rw [h] at a5; simpa using a5
      · rw [List.length_append, List.length_singleton, Nat.add_sub_cancel]
        have h2 : 1 ≤ (Lib.decDigits (u / 10)).length := by
          cases h : Lib.decDigits (u / 10) with
          | nil => exact absurd h a4
          | cons c r => simp
        have h3 : 10 ^ (Lib.decDigits (u / 10)).length = 10 * 10 ^ ((Lib.decDigits (u / 10)).length - 1) := by
          conv => lhs; rw [show (Lib.decDigits (u / 10)).length = (Lib.decDigits (u / 10)).length - 1 + 1 from by omega, Nat.pow_succ]
          omega
        rw [h3]
        omega

theorem back_ok (n : Int) : numOk (Lib.itoa n) 18 = decide (0 ≤ n ∧ n < 1000000000000000000) := by
  unfold Lib.itoa
  by_cases hn : n < 0
  · rw [if_pos hn, decide_eq_false (by omega)]
    unfold numOk
    rw [List.all_cons, show isDig ((45 : UInt8).toNat) = false from rfl, Bool.false_and, Bool.and_false]
  · rw [if_neg hn]
    obtain ⟨a1, a2, a3, a4⟩ := digits_facts n.toNat
    have hb := numVal_bd _ a1
    rw [a2] at hb
    unfold numOk
    rw [a1, Bool.and_true]
    rw [Bool.eq_iff_iff]
    simp only [decide_eq_true_eq]
    have hlen : (Lib.decDigits n.toNat).length ≤ 18 ↔ n < 1000000000000000000 := by
      constructor
      · intro h
        have : (10 : Int) ^ (Lib.decDigits n.toNat).length ≤ 10 ^ 18 := by
          have := Nat.pow_le_pow_right (n := 10) (by decide) h
          exact_mod_cast this
        have h3 : (10 : Int) ^ 18 = 1000000000000000000 := by decide
        omega
      · intro h
        rcases Nat.lt_or_ge 18 (Lib.decDigits n.toNat).length with hlt | hge
        · exfalso
          by_cases h0 : 0 < n.toNat
          · have h1 := (a3 h0).2
            have h2 : 10 ^ 18 ≤ 10 ^ ((Lib.decDigits n.toNat).length - 1) := Nat.pow_le_pow_right (by decide) (by omega)
            have h3 : (10 : Nat) ^ 18 = 1000000000000000000 := by decide
            omega
          · rw [show n.toNat = 0 from by omega] at hlt
            unfold Lib.decDigits at hlt
            simp at hlt
        · exact hge
    constructor
    · rintro ⟨_, h1, h2, _⟩
      exact ⟨by omega, hlen.1 h2⟩
    · rintro ⟨h0, h1⟩
      have hl := hlen.2 h1
      refine ⟨a4, by omega, hl, fun hh => ?_⟩
      by_cases h0 : 0 < n.toNat
      · exact absurd hh (a3 h0).1
      · rw [show n.toNat = 0 from by omega]
        unfold Lib.decDigits
        rfl

theorem back_val (n : Int) (h : 0 ≤ n ∧ n < 1000000000000000000) : numN (Lib.itoa n) 18 = n := by
  have ho : numOk (Lib.itoa n) 18 = true := by rw [back_ok]; exact decide_eq_true h
  rw [numN_yes ho]
  unfold Lib.itoa
  rw [if_neg (by omega), (digits_facts n.toNat).2.1]
  omega

theorem asciiNumbers_any (s : ByteArray) (hs : s.size ≤ 140737488351232) (max : Int) (hm : -9223372036854775808 ≤ max ∧ max ≤ 9223372036854775807) (n : Int) (hn : -9223372036854775808 ≤ n ∧ n ≤ 9223372036854775807) (w : World)
    (htab : Lib.TabIs Tryd.prog w "internal/strconv.uint64pow10" .u64 Lib.pow10Tab) :
    Calls Tryd.prog 3 #[.string s, .int .i64 max, .int .i64 n] w fun e w' => e = .returned (.bool true) ∧ Below w.heap.size w w' := by
  have HT := Lib.hid htab
  clear htab
  by_cases hlong : 3000 < (s.size : Int)
  · go_enter Tryd.func3, Tryd.ntmps3
    go_wp2_with fail
    refine (awake_any _).mono ?_
    rintro e w' ⟨rfl, hb1⟩
    go_wp2
    go_ret
    exact ⟨rfl, hb1⟩
  · go_enter Tryd.func3, Tryd.ntmps3
    go_wp2_with fail
    refine (number_any s max (by omega) hm _).mono ?_
    rintro e w1 ⟨rfl, rfl⟩
    go_wp2_with fail
    refine (ref_number_any s max (by omega) hm _).mono ?_
    rintro e w2 ⟨rfl, rfl⟩
    go_wp2_with fail
    refine (decimal_any n hn _ HT.out).mono ?_
    rintro e w3 ⟨rfl, hb3⟩
    go_wp2_with fail
    refine (ref_decimal_any n hn _).mono ?_
    rintro e w4 ⟨rfl, hb4⟩
    go_wp2_with fail
    refine (awake_any _).mono ?_
    rintro e w5 ⟨rfl, hb5⟩
    go_wp2
    go_ret
    exact ⟨rfl, below_then (below_then hb3 hb4) hb5⟩

theorem asciiNumbers_own : ownKnob Tryd.prog.godebug = none := by kernel_rfl

theorem asciiNumbers_contract (H : Type) (enc : TypeId × Value → H) (W : World) (base : Nat) (args : Array Value) (ds gs : List (DataW H)) (before : List MemPlace)
    (hval0 : ∀ (j : Nat) t v, Tryd.f3.params[j]? = some t → args[j]? = some v → Value.okWide Tryd.prog W .any base t v)
    (hW : DataW.Whole enc Tryd.prog Tryd.f3.params.toList Rows.asciiNumbersSpec.vars false W args.toList ds gs before) {vt : List TypeId}
    (hsz0 : (DataW.weightsEach Tryd.prog (Tryd.f3.params.toList ++ vt) (ds ++ gs)).all (· ≤ reachBytes) = true) (hL : laidMetH Tryd.prog Rows.asciiNumbersRow.laid W) :
    Calls Tryd.prog 3 args W fun e W' => ∃ v, e = .returned v ∧ Rows.asciiNumbersSpec.post enc Tryd.prog Tryd.f3 false true false false W args v W' := by
  refine law_contract (by kernel_rfl) (of_decide_eq_true (by kernel_rfl)) (tb := 4) (by kernel_rfl) Tryd.underlying4 rfl (fun ds h => by match ds, h with | [d0, d1, d2], _ => exact ⟨rfl, rfl, rfl⟩) hW hsz0 ?_
  intro p hA0 hlt hszz
  have hval := hval0
  have hA : DataW.TrodAll enc Tryd.prog W 0 (fun _ => true) true Tryd.f3.params.toList args.toList ds p := hA0
  have hsz : (DataW.weightsEach Tryd.prog Tryd.f3.params.toList ds).all (· ≤ reachBytes) = true := hszz
  clear hval0 hA0 hszz hsz0 hW
  rw [Tryd.params3] at hA hval hsz
  obtain ⟨v0, vs0, d0, ds0, p0, q0, hargs, rfl, rfl, h0, r0⟩ := trodAll_cons hA
  obtain ⟨v1, vs1, d1, ds1, p1, q1, rfl, rfl, rfl, h1, r1⟩ := trodAll_cons r0
  obtain ⟨v2, vs2, d2, ds2, p2, q2, rfl, rfl, rfl, h2, r2⟩ := trodAll_cons r1
  obtain ⟨rfl, rfl, rfl⟩ := trodAll_nil r2
  obtain rfl : args = #[v0, v1, v2] := by cases args; simp_all
  obtain ⟨a0, rfl, rfl, rfl, w0⟩ := open_string Tryd.underlying9 (hval 0 9 v0 rfl rfl) h0
  have z0 := sized_string hsz (j := 0) rfl rfl
  rw [size_data] at z0
  obtain ⟨a1, rfl, rfl, rfl, w1⟩ := open_int Tryd.underlying3 (hval 1 3 v1 rfl rfl) h1
  obtain ⟨a2, rfl, rfl, rfl, w2⟩ := open_int Tryd.underlying3 (hval 2 3 v2 rfl rfl) h2
  exact asciiNumbers_any (w := W) a0 z0 a1 (bounds_i64 w1) a2 (bounds_i64 w2) (pow10_of hL)

noncomputable def asciiNumbers_world (os : Os) : World := laidIn Tryd.prog Rows.asciiNumbersRow.laid (World.holding Tryd.prog os ⟨#[], #[], []⟩)

theorem asciiNumbers_met (os : Os) : laidMet Tryd.prog Rows.asciiNumbersRow.laid ((asciiNumbers_world os).forCall (fun _ _ => 0) ⟨#[], #[.string ByteArray.empty, .int .i64 0, .int .i64 0], []⟩).memory :=
  laidMet_of_run' 8 (by kernel_rfl) (by kernel_rfl)

theorem asciiNumbers_reads (os : Os) {H : Type} (enc : TypeId × Value → H) : ∃ places, DataW.whole enc Tryd.prog ((asciiNumbers_world os).forCall (fun _ _ => 0) ⟨#[], #[.string ByteArray.empty, .int .i64 0, .int .i64 0], []⟩).memory Tryd.f3.params.toList Rows.asciiNumbersSpec.vars false (#[.string ByteArray.empty, .int .i64 0, .int .i64 0] : Array Value).toList 8 = some ([.lit (.string []), .lit (.int .i64 0), .lit (.int .i64 0)], [], places) :=
  ⟨[], by kernel_rfl⟩

set_option maxRecDepth 100000 in
theorem asciiNumbers_lifted (os : Os) (started : os.Started) (H : Type) (enc : TypeId × Value → H) (F : Stop.Interp) :
    ReturnsInHanded {} Tryd.checked os 3 .any ((OpenSpec.ofChange Rows.asciiNumbersSpec).preRow enc Tryd.prog Tryd.f3 Rows.asciiNumbersRow.domain false Rows.asciiNumbersRow.laid) (((OpenSpec.ofChange Rows.asciiNumbersSpec).at F).post enc Tryd.prog Tryd.f3 false true false false) := by
  obtain ⟨places, hx⟩ := asciiNumbers_reads os enc
  refine returnsInHanded_of_row (C := Tryd.checked) (s := OpenSpec.ofChange Rows.asciiNumbersSpec) asciiNumbers_own started (by kernel_rfl) Tryd.func3
    (witness_row_at (enc := enc) (C := Tryd.checked) false (asciiNumbers_world os) #[.string ByteArray.empty, .int .i64 0, .int .i64 0] rfl (by kernel_rfl) (by kernel_rfl) (by kernel_rfl)
      (OpenSpec.preRow_of_cond 8 hx (by kernel_rfl) (fun k hk => by cases hk) (by kernel_rfl) (asciiNumbers_met os))) ?_
  intro W base args ds gs before hval hW _ _ hsz hL _ _
  exact asciiNumbers_contract H enc W base args ds gs before hval hW hsz hL

theorem asciiNumbers_said : Rows.AsciiNumbersSaid :=
  OpenClaim.holds_of_cond 3 Tryd.f3 rfl rfl rfl rfl rfl rfl rfl ⟨rfl, rfl, rfl, rfl, rfl⟩ rfl rfl rfl rfl rfl (by kernel_rfl) Tryd.func3 (by kernel_rfl)
    (of_decide_eq_true (by kernel_rfl)) (by unfold Func.isWrapper; first | (rw [if_pos (by decide +kernel)]; kernel_rfl) | (rw [if_neg (by decide +kernel)]; exact ⟨rfl, rfl⟩))
    (fun os started H enc _ F => by rw [OpenClaim.pre_eq_preRow]; exact asciiNumbers_lifted os started H enc F)

theorem asciiNumbers_plain (f : FuncId) (fn : Func) (hf : Tryd.pinned.checked.prog.funcNamed Tryd.f3.name = some f) (hfn : Tryd.pinned.checked.prog.funcs[f]? = some fn) :
    false = Tryd.pinned.checked.prog.looks [] ∧ ∀ (j : Nat) t, fn.params[j]? = some t → Tryd.pinned.checked.prog.wantsStandIn t = false := by
  obtain rfl : f = 3 := Option.some.inj ((show Tryd.prog.funcNamed Tryd.f3.name = some 3 by kernel_rfl).symm.trans hf) |>.symm
  obtain rfl : fn = Tryd.f3 := (Option.some.inj (Tryd.func3.symm.trans hfn)).symm
  refine ⟨by kernel_rfl, fun j t ht => ?_⟩
  have hall : ∀ t ∈ Tryd.f3.params, Tryd.prog.wantsStandIn t = false := of_decide_eq_true (by kernel_rfl)
  exact hall t (Array.mem_of_getElem? ht)

theorem asciiNumbers_card : Rows.AsciiNumbersCardSaid :=
  Claim7.holds_tied_plain_at .later [] _ _ _ _ asciiNumbers_said (fun _ h => by cases h) (by kernel_rfl) (fun _ h => by cases h) asciiNumbers_row_tie rfl ⟨rfl, rfl⟩ (by kernel_rfl) rfl asciiNumbers_plain (by kernel_rfl)
#print axioms asciiNumbers_card

def joinL (sep : UInt8) (ps : List (List UInt8)) : List UInt8 := (ps.map (fun p => sep :: p)).flatten.drop 1

theorem join_split (sep : UInt8) : ∀ (l cur : List UInt8), ((splitGo sep cur l).map (fun p => sep :: p)).flatten = sep :: (cur ++ l)
  | [], cur => by simp [splitGo]
  | c :: r, cur => by
    rw [splitGo]
    split
    · rename_i h
      rw [List.map_cons, List.flatten_cons, join_split sep r [], h]
      simp
    · rw [join_split sep r (cur ++ [c])]
      simp

theorem joinL_split (s : List UInt8) (sep : UInt8) : joinL sep (splitL s sep) = s := by
  unfold joinL splitL
  rw [join_split]
  rfl

theorem joinL_one (sep : UInt8) (p : List UInt8) : joinL sep [p] = p := by simp [joinL]

theorem joinL_snoc (sep : UInt8) (ps : List (List UInt8)) (p : List UInt8) (h : ps ≠ []) : joinL sep (ps ++ [p]) = joinL sep ps ++ sep :: p := by
  unfold joinL
  rw [List.map_append, List.flatten_append]
  cases ps with
  | nil => exact absurd rfl h
  | cons q r => simp

theorem joinL_len (sep : UInt8) (s : List UInt8) (k : Nat) : (joinL sep ((splitL s sep).take k)).length ≤ s.length := by
  have h1 := congrArg List.length (join_split sep s [])
  have h2 : (((splitL s sep).take k).map (fun p => sep :: p)).flatten.length ≤ ((splitL s sep).map (fun p => sep :: p)).flatten.length := by
    conv => rhs; rw [← List.take_append_drop k (splitL s sep), List.map_append, List.flatten_append]
    simp
  unfold splitL at h2
  rw [h1] at h2
  unfold joinL splitL
  rw [List.length_drop]
  simp at h2 ⊢
  omega

theorem run_convert_one {P : Program} (w : World) (c : UInt8) (src e dst : TypeId) (hs : P.underlying src = some (.slice e)) (he : P.underlying e = some (.int .u8)) (hd : P.underlying dst = some .string) :
    (convert src dst (.slice (some ⟨w.heap.size, 0, none⟩) 1 1)).run P (w.alloc (.cells #[.int .u8 c.toNat] e)) = .ok (.string ⟨#[c]⟩) (w.alloc (.cells #[.int .u8 c.toNat] e)) := by
  rw [run_convert_bytes_arg _ src e hs he w.heap.size 0 1 1 [(c.toNat : Int)] rfl (fun i hi => ?_) dst hd]
  · simp [strOfNums]
  · have h0 : i = 0 := by omega
    subst h0
    rw [cell_of_row _ _ _ _ e (0, 0) (heap_alloc_new w _)]
    rfl

theorem app_list (a b : ByteArray) : (a ++ b).data.toList = a.data.toList ++ b.data.toList := by simp

theorem asciiBack_any (s : ByteArray) (hs : s.size ≤ 140737488351232) (sep : UInt8) (n : Int) (hn : -9223372036854775808 ≤ n ∧ n ≤ 9223372036854775807) (w : World)
    (htab : Lib.TabIs Tryd.prog w "internal/strconv.uint64pow10" .u64 Lib.pow10Tab) :
    Calls Tryd.prog 4 #[.string s, .int .u8 sep.toNat, .int .i64 n] w fun e w' => e = .returned (.bool true) ∧ Below w.heap.size w w' := by
  have HT := Lib.hid htab
  clear htab
  by_cases hlong : 3000 < (s.size : Int)
  · go_enter Tryd.func4, Tryd.ntmps4
    go_wp2_with fail
    refine (awake_any _).mono ?_
    rintro e w' ⟨rfl, hb1⟩
    go_wp2
    go_ret
    exact ⟨rfl, hb1⟩
  · obtain ⟨ps, hps⟩ : ∃ ps, ps = splitL s.data.toList sep := ⟨_, rfl⟩
    have HP := Lib.hid hps
    have hlp : ps.length ≤ 1073741824 := by have := splitL_len s.data.toList sep; rw [← hps, size_data] at this; omega
    clear hps
    have hil := Lib.itoa_length_le n hn.1 hn.2
    have HO := Lib.hid (back_ok n)
    have hiz : (⟨(Lib.itoa n).toArray⟩ : ByteArray).size ≤ 1073741824 := by rw [size_of_list]; omega
    go_enter Tryd.func4, Tryd.ntmps4
    go_wp2_with fail
    refine (split_any s sep (by omega) _).mono ?_
    rw [← HP.out]
    rintro e w1 ⟨⟨v1, rfl, hown1⟩, hb1⟩
    obtain ⟨a1, c1, rfl, hsl⟩ := SliceAt.own hown1
    rw [List.length_map]
    have HSL := Lib.hid hsl
    clear hsl hown1
    go_wp2
    go_loopw [8, 9] (fun t i wr => ∃ (k : Nat) (x : ByteArray), k ≤ ps.length ∧ i = .int .i64 k ∧ t = .string x ∧ x.data.toList = joinL sep (ps.take k) ∧ Below w1.heap.size w1 wr) (fun _ i _ => ps.length - (intOf i).toNat)
    case atStart => exact ⟨0, ⟨#[]⟩, Nat.zero_le _, rfl, rfl, rfl, Below.refl _ _⟩
    case round =>
      obtain ⟨k, x, hk, rfl, rfl, hx, hb2⟩ := hrel
      have hxs : x.size ≤ 3000 := by
        have := joinL_len sep s.data.toList k
        rw [← HP.out, ← hx, size_data, size_data] at this
        omega
      have HX := Lib.hid hx
      clear hx
      by_cases hlt : k < ps.length
      · obtain ⟨p, hp⟩ : ∃ p, ps[k]? = some p := ⟨_, List.getElem?_eq_getElem hlt⟩
        rcases HSL.out with hnil | ⟨b, off, rfl, hc⟩
        · exact absurd (show ps.length = 0 by rw [List.map_eq_nil_iff.1 hnil]; rfl) (by omega)
        · have hc1 := hc k (.string ⟨p.toArray⟩) (by rw [List.getElem?_map, hp]; rfl)
          have hbk := block_of_cell hc1
          have hcell : wr.cell? ⟨b, off + k, none⟩ = some (.string ⟨p.toArray⟩) := (hb2.cell hbk).trans hc1
          have hlen1 := joinL_len sep s.data.toList (k + 1)
          rw [← HP.out, take_succ_of hp, size_data] at hlen1
          by_cases hz : k ≤ 0
          · have hnil : ps.take k = [] := by rw [show k = 0 from by omega, List.take_zero]
            have hnext : Hid ((x ++ ⟨p.toArray⟩ : ByteArray).data.toList = joinL sep (ps.take (k + 1))) := Lib.hid (by
              rw [app_list, HX.out, take_succ_of hp, hnil, List.nil_append, joinL_one]
              rfl)
            have hpz : (⟨p.toArray⟩ : ByteArray).size ≤ 3000 := by
              rw [hnil, List.nil_append, joinL_one] at hlen1
              rw [size_of_list]
              omega
            clear hlen1 hc hc1 hp hnil
            go_wp2
            go_roundw
            case rel => exact ⟨k + 1, _, by omega, by go_num, rfl, hnext.out, hb2⟩
            case measure => simp [intOf]; omega
          · have hne : ps.take k ≠ [] := by
              intro e
              have := congrArg List.length e
              rw [List.length_take, List.length_nil] at this
              omega
            have hnext : Hid ((x ++ ⟨#[sep]⟩ ++ ⟨p.toArray⟩ : ByteArray).data.toList = joinL sep (ps.take (k + 1))) := Lib.hid (by
              rw [app_list, app_list, HX.out, take_succ_of hp, joinL_snoc sep _ p hne]
              simp)
            have hpz : (⟨p.toArray⟩ : ByteArray).size ≤ 3000 := by
              rw [joinL_snoc sep _ p hne, List.length_append, List.length_cons] at hlen1
              rw [size_of_list]
              omega
            have hsz1 : (⟨#[sep]⟩ : ByteArray).size ≤ 1 := Nat.le_refl _
            have kc := run_convert_one (P := Tryd.prog) wr sep 29 5 9 Tryd.underlying29 Tryd.underlying5 Tryd.underlying9
            have hcell2 : (wr.alloc (.cells #[.int .u8 sep.toNat] 5)).cell? ⟨b, off + k, none⟩ = some (.string ⟨p.toArray⟩) := by
              rw [World.cell?_alloc_past _ _ _ (by have := hb2.size; simp; omega)]
              exact hcell
            have hxz : (x ++ ⟨#[sep]⟩ : ByteArray).size ≤ 3001 := by rw [ByteArray.size_append]; omega
            clear hlen1 hc hc1 hp hne
            go_wp2
            go_roundw
            case rel => exact ⟨k + 1, _, by omega, by go_num, rfl, hnext.out, hb2.alloc hb2.size _⟩
            case measure => simp [intOf]; omega
      · have hxe : x.data.toList = s.data.toList := by
          rw [HX.out, List.take_of_length_le (by omega), HP.out, joinL_split]
        have heq : (x.toList == s.toList) = true := by rw [ByteArray.toList_eq, ByteArray.toList_eq, hxe]; exact beq_iff_eq.2 rfl
        have HT2 : Hid (Lib.TabIs Tryd.prog wr "internal/strconv.uint64pow10" .u64 Lib.pow10Tab) := Lib.hid (tab_below (below_then hb1 hb2) HT.out)
        clear hxe
        by_cases hin : 0 ≤ n ∧ n < 1000000000000000000
        · have HV := Lib.hid (back_val n hin)
          have HO2 : Hid (numOk (Lib.itoa n) 18 = true) := Lib.hid (by rw [HO.out]; exact decide_eq_true hin)
          go_wp2_with fail
          refine (decimal_any n hn _ HT2.out).mono ?_
          rintro e w3 ⟨rfl, hb3⟩
          go_wp2_with fail
          refine (number_any ⟨(Lib.itoa n).toArray⟩ 18 hiz (by decide) _).mono ?_
          rw [show numN (⟨(Lib.itoa n).toArray⟩ : ByteArray).data.toList 18 = n from HV.out, show numOk (⟨(Lib.itoa n).toArray⟩ : ByteArray).data.toList 18 = true from HO2.out]
          rintro e w4 ⟨rfl, rfl⟩
          go_wp2_with fail
          refine (awake_any _).mono ?_
          rintro e w5 ⟨rfl, hb5⟩
          go_wp2
          go_ret
          exact ⟨rfl, below_then (below_then (below_then hb1 hb2) hb3) hb5⟩
        · have HO2 : Hid (numOk (Lib.itoa n) 18 = false) := Lib.hid (by rw [HO.out]; exact decide_eq_false hin)
          have HN2 := Lib.hid (numN_no HO2.out)
          rcases (by omega : n < 0 ∨ (0 ≤ n ∧ 1000000000000000000 ≤ n)) with hneg | ⟨hp0, hbig⟩
          all_goals
            clear hin
            go_wp2_with fail
            refine (decimal_any n hn _ HT2.out).mono ?_
            rintro e w3 ⟨rfl, hb3⟩
            go_wp2_with fail
            refine (number_any ⟨(Lib.itoa n).toArray⟩ 18 hiz (by decide) _).mono ?_
            rw [show numN (⟨(Lib.itoa n).toArray⟩ : ByteArray).data.toList 18 = 0 from HN2.out, show numOk (⟨(Lib.itoa n).toArray⟩ : ByteArray).data.toList 18 = false from HO2.out]
            rintro e w4 ⟨rfl, rfl⟩
            go_wp2_with fail
            refine (awake_any _).mono ?_
            rintro e w5 ⟨rfl, hb5⟩
            go_wp2
            go_ret
            exact ⟨rfl, below_then (below_then (below_then hb1 hb2) hb3) hb5⟩

theorem asciiBack_own : ownKnob Tryd.prog.godebug = none := by kernel_rfl

theorem asciiBack_contract (H : Type) (enc : TypeId × Value → H) (W : World) (base : Nat) (args : Array Value) (ds gs : List (DataW H)) (before : List MemPlace)
    (hval0 : ∀ (j : Nat) t v, Tryd.f4.params[j]? = some t → args[j]? = some v → Value.okWide Tryd.prog W .any base t v)
    (hW : DataW.Whole enc Tryd.prog Tryd.f4.params.toList Rows.asciiBackSpec.vars false W args.toList ds gs before) {vt : List TypeId}
    (hsz0 : (DataW.weightsEach Tryd.prog (Tryd.f4.params.toList ++ vt) (ds ++ gs)).all (· ≤ reachBytes) = true) (hL : laidMetH Tryd.prog Rows.asciiBackRow.laid W) :
    Calls Tryd.prog 4 args W fun e W' => ∃ v, e = .returned v ∧ Rows.asciiBackSpec.post enc Tryd.prog Tryd.f4 false true false false W args v W' := by
  refine law_contract (by kernel_rfl) (of_decide_eq_true (by kernel_rfl)) (tb := 4) (by kernel_rfl) Tryd.underlying4 rfl (fun ds h => by match ds, h with | [d0, d1, d2], _ => exact ⟨rfl, rfl, rfl⟩) hW hsz0 ?_
  intro p hA0 hlt hszz
  have hval := hval0
  have hA : DataW.TrodAll enc Tryd.prog W 0 (fun _ => true) true Tryd.f4.params.toList args.toList ds p := hA0
  have hsz : (DataW.weightsEach Tryd.prog Tryd.f4.params.toList ds).all (· ≤ reachBytes) = true := hszz
  clear hval0 hA0 hszz hsz0 hW
  rw [Tryd.params4] at hA hval hsz
  obtain ⟨v0, vs0, d0, ds0, p0, q0, hargs, rfl, rfl, h0, r0⟩ := trodAll_cons hA
  obtain ⟨v1, vs1, d1, ds1, p1, q1, rfl, rfl, rfl, h1, r1⟩ := trodAll_cons r0
  obtain ⟨v2, vs2, d2, ds2, p2, q2, rfl, rfl, rfl, h2, r2⟩ := trodAll_cons r1
  obtain ⟨rfl, rfl, rfl⟩ := trodAll_nil r2
  obtain rfl : args = #[v0, v1, v2] := by cases args; simp_all
  obtain ⟨a0, rfl, rfl, rfl, w0⟩ := open_string Tryd.underlying9 (hval 0 9 v0 rfl rfl) h0
  have z0 := sized_string hsz (j := 0) rfl rfl
  rw [size_data] at z0
  obtain ⟨a1, rfl, rfl, rfl, w1⟩ := open_int Tryd.underlying5 (hval 1 5 v1 rfl rfl) h1
  obtain ⟨c1, rfl⟩ := byte_of_num w1
  obtain ⟨a2, rfl, rfl, rfl, w2⟩ := open_int Tryd.underlying3 (hval 2 3 v2 rfl rfl) h2
  exact asciiBack_any (w := W) a0 z0 c1 a2 (bounds_i64 w2) (pow10_of hL)

noncomputable def asciiBack_world (os : Os) : World := laidIn Tryd.prog Rows.asciiBackRow.laid (World.holding Tryd.prog os ⟨#[], #[], []⟩)

theorem asciiBack_met (os : Os) : laidMet Tryd.prog Rows.asciiBackRow.laid ((asciiBack_world os).forCall (fun _ _ => 0) ⟨#[], #[.string ByteArray.empty, .int .u8 0, .int .i64 0], []⟩).memory :=
  laidMet_of_run' 8 (by kernel_rfl) (by kernel_rfl)

theorem asciiBack_reads (os : Os) {H : Type} (enc : TypeId × Value → H) : ∃ places, DataW.whole enc Tryd.prog ((asciiBack_world os).forCall (fun _ _ => 0) ⟨#[], #[.string ByteArray.empty, .int .u8 0, .int .i64 0], []⟩).memory Tryd.f4.params.toList Rows.asciiBackSpec.vars false (#[.string ByteArray.empty, .int .u8 0, .int .i64 0] : Array Value).toList 8 = some ([.lit (.string []), .lit (.int .u8 0), .lit (.int .i64 0)], [], places) :=
  ⟨[], by kernel_rfl⟩

set_option maxRecDepth 100000 in
theorem asciiBack_lifted (os : Os) (started : os.Started) (H : Type) (enc : TypeId × Value → H) (F : Stop.Interp) :
    ReturnsInHanded {} Tryd.checked os 4 .any ((OpenSpec.ofChange Rows.asciiBackSpec).preRow enc Tryd.prog Tryd.f4 Rows.asciiBackRow.domain false Rows.asciiBackRow.laid) (((OpenSpec.ofChange Rows.asciiBackSpec).at F).post enc Tryd.prog Tryd.f4 false true false false) := by
  obtain ⟨places, hx⟩ := asciiBack_reads os enc
  refine returnsInHanded_of_row (C := Tryd.checked) (s := OpenSpec.ofChange Rows.asciiBackSpec) asciiBack_own started (by kernel_rfl) Tryd.func4
    (witness_row_at (enc := enc) (C := Tryd.checked) false (asciiBack_world os) #[.string ByteArray.empty, .int .u8 0, .int .i64 0] rfl (by kernel_rfl) (by kernel_rfl) (by kernel_rfl)
      (OpenSpec.preRow_of_cond 8 hx (by kernel_rfl) (fun k hk => by cases hk) (by kernel_rfl) (asciiBack_met os))) ?_
  intro W base args ds gs before hval hW _ _ hsz hL _ _
  exact asciiBack_contract H enc W base args ds gs before hval hW hsz hL

theorem asciiBack_said : Rows.AsciiBackSaid :=
  OpenClaim.holds_of_cond 4 Tryd.f4 rfl rfl rfl rfl rfl rfl rfl ⟨rfl, rfl, rfl, rfl, rfl⟩ rfl rfl rfl rfl rfl (by kernel_rfl) Tryd.func4 (by kernel_rfl)
    (of_decide_eq_true (by kernel_rfl)) (by unfold Func.isWrapper; first | (rw [if_pos (by decide +kernel)]; kernel_rfl) | (rw [if_neg (by decide +kernel)]; exact ⟨rfl, rfl⟩))
    (fun os started H enc _ F => by rw [OpenClaim.pre_eq_preRow]; exact asciiBack_lifted os started H enc F)

theorem asciiBack_plain (f : FuncId) (fn : Func) (hf : Tryd.pinned.checked.prog.funcNamed Tryd.f4.name = some f) (hfn : Tryd.pinned.checked.prog.funcs[f]? = some fn) :
    false = Tryd.pinned.checked.prog.looks [] ∧ ∀ (j : Nat) t, fn.params[j]? = some t → Tryd.pinned.checked.prog.wantsStandIn t = false := by
  obtain rfl : f = 4 := Option.some.inj ((show Tryd.prog.funcNamed Tryd.f4.name = some 4 by kernel_rfl).symm.trans hf) |>.symm
  obtain rfl : fn = Tryd.f4 := (Option.some.inj (Tryd.func4.symm.trans hfn)).symm
  refine ⟨by kernel_rfl, fun j t ht => ?_⟩
  have hall : ∀ t ∈ Tryd.f4.params, Tryd.prog.wantsStandIn t = false := of_decide_eq_true (by kernel_rfl)
  exact hall t (Array.mem_of_getElem? ht)

theorem asciiBack_card : Rows.AsciiBackCardSaid :=
  Claim7.holds_tied_plain_at .later [] _ _ _ _ asciiBack_said (fun _ h => by cases h) (by kernel_rfl) (fun _ h => by cases h) asciiBack_row_tie rfl ⟨rfl, rfl⟩ (by kernel_rfl) rfl asciiBack_plain (by kernel_rfl)
#print axioms asciiBack_card

end Go.Proofs.YtfbimjfgklldaaaDoor
