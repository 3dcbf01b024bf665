/- Both Domains, and what the document fixes (awake). -/
import Derived.Lib.Strings
import Derived.BigQuiet
import Derived.Test.YtmfchplplpiogaaDoorProg
import Derived.Test.YtmfchplplpiogaaDoorKit
import Derived.Test.YtmfchplplpiogaaDoorRow
import Derived.Test.YtmfchplplpiogaaDoorCod7
import Derived.Test.YtmfchplplpiogaaDoorPct0
import Derived.Test.YtmfchplplpiogaaDoorHst0
import Derived.Test.YtmfchplplpiogaaDoorHst1
import Derived.Test.YtmfchplplpiogaaDoorHst2
import Derived.Test.YtmfchplplpiogaaDoorHst3
import Derived.Test.YtmfchplplpiogaaDoorHst6
import Derived.Test.YtmfchplplpiogaaDoorHst7
namespace Go.Proofs.YtmfchplplpiogaaDoor
open Go.RowKit Go.Proofs

theorem hdomain_any (h : ByteArray) (hs : h.size ≤ 1073741824) (w : World) (hT : Tab10 w) :
    Calls Tryd.prog 12 #[.string h] w fun e w' => e = .returned (.bool (domainP h.data.toList)) ∧ Below w.heap.size w w' := by
  have HP := Lib.hid (hparse_any h hs w hT)
  have HT := Lib.hid hT
  clear hT
  have HA := Lib.hid (fun W (hT : Tab10 W) => haddress_any h hs W hT)
  obtain ⟨A, hA⟩ : ∃ A, A = (addressP h.data.toList).isSome := ⟨_, rfl⟩
  obtain ⟨AN, hAN⟩ : ∃ AN : Int, AN = ((optN (addressP h.data.toList) : Nat) : Int) := ⟨_, rfl⟩
  rw [← hA, ← hAN] at HA
  have hDom : domainP h.data.toList = (decide (hostP h.data.toList = some h.data.toList) && !A) := by rw [hA]; unfold domainP; cases addressP h.data.toList <;> rfl
  obtain ⟨o, ho⟩ : ∃ o, o = hostP h.data.toList := ⟨_, rfl⟩
  rw [← ho] at HP hDom
  clear hA hAN
  cases o with
  | none =>
    have HP2 : Hid (Calls Tryd.prog 10 #[.string h] w fun e w' => e = .returned (.tuple #[.string ByteArray.empty, .int .i64 8]) ∧ Below w.heap.size w w') := HP
    have HR : Hid (domainP h.data.toList = false) := Lib.hid (by rw [hDom]; simp)
    clear HP hDom ho
    by_cases h0 : h.size = 0
    · have hse := emptyYes h0
      go_enter Tryd.func12, Tryd.ntmps12
      go_wp2_with fail
      refine HP2.out.mono ?_
      rintro e w1 ⟨rfl, hb1⟩
      have HB1 := Lib.hid hb1
      clear hb1
      go_wp2_with fail
      refine (HA.out _ (tab10_below HT.out HB1.out)).mono ?_
      rintro e w2 ⟨rfl, hb2⟩
      have HB2 := Lib.hid (below_then HB1.out hb2)
      clear hb2
      go_wp2
      go_ret
      exact ⟨ret_bool HR.out.symm, HB2.out⟩
    · have hse := emptyNo h0
      go_enter Tryd.func12, Tryd.ntmps12
      go_wp2_with fail
      refine HP2.out.mono ?_
      rintro e w1 ⟨rfl, hb1⟩
      have HB1 := Lib.hid hb1
      clear hb1
      go_wp2_with fail
      refine (HA.out _ (tab10_below HT.out HB1.out)).mono ?_
      rintro e w2 ⟨rfl, hb2⟩
      have HB2 := Lib.hid (below_then HB1.out hb2)
      clear hb2
      go_wp2
      go_ret
      exact ⟨ret_bool HR.out.symm, HB2.out⟩
  | some d =>
    obtain ⟨x, hx⟩ : ∃ x : ByteArray, x = ⟨d.toArray⟩ := ⟨_, rfl⟩
    have hxl : x.data.toList = d := by rw [hx]
    have HP2 : Hid (Calls Tryd.prog 10 #[.string h] w fun e w' => e = .returned (.tuple #[.string x, .int .i64 0]) ∧ Below w.heap.size w w') := Lib.hid (by rw [hx]; exact HP.out)
    have h0 : h.size ≠ 0 := by
      intro h0
      rw [nil_size h0, show hostP [] = none from rfl] at ho
      exact absurd ho (by simp)
    have hse := emptyNo h0
    by_cases he : d = h.data.toList
    · have hq : (x.toList == h.toList) = true := by rw [ByteArray.toList_eq, ByteArray.toList_eq, hxl, he, beq_iff_eq]
      rw [decide_eq_true (by rw [he]), Bool.true_and] at hDom
      have HR := Lib.hid hDom
      clear HP hDom ho he hx hxl
      cases A
      · go_enter Tryd.func12, Tryd.ntmps12
        go_wp2_with fail
        refine HP2.out.mono ?_
        rintro e w1 ⟨rfl, hb1⟩
        have HB1 := Lib.hid hb1
        clear hb1
        go_wp2_with fail
        refine (HA.out _ (tab10_below HT.out HB1.out)).mono ?_
        rintro e w2 ⟨rfl, hb2⟩
        have HB2 := Lib.hid (below_then HB1.out hb2)
        clear hb2
        go_wp2
        go_ret
        exact ⟨ret_bool HR.out.symm, HB2.out⟩
      · go_enter Tryd.func12, Tryd.ntmps12
        go_wp2_with fail
        refine HP2.out.mono ?_
        rintro e w1 ⟨rfl, hb1⟩
        have HB1 := Lib.hid hb1
        clear hb1
        go_wp2_with fail
        refine (HA.out _ (tab10_below HT.out HB1.out)).mono ?_
        rintro e w2 ⟨rfl, hb2⟩
        have HB2 := Lib.hid (below_then HB1.out hb2)
        clear hb2
        go_wp2
        go_ret
        exact ⟨ret_bool HR.out.symm, HB2.out⟩
    · have hq : (x.toList == h.toList) = false := by rw [ByteArray.toList_eq, ByteArray.toList_eq, hxl, beq_eq_false_iff_ne]; exact he
      rw [decide_eq_false (by intro h; injection h with h; exact he h), Bool.false_and] at hDom
      have HR := Lib.hid hDom
      clear HP hDom ho he hx hxl
      go_enter Tryd.func12, Tryd.ntmps12
      go_wp2_with fail
      refine HP2.out.mono ?_
      rintro e w1 ⟨rfl, hb1⟩
      have HB1 := Lib.hid hb1
      clear hb1
      go_wp2_with fail
      refine (HA.out _ (tab10_below HT.out HB1.out)).mono ?_
      rintro e w2 ⟨rfl, hb2⟩
      have HB2 := Lib.hid (below_then HB1.out hb2)
      clear hb2
      go_wp2
      go_ret
      exact ⟨ret_bool HR.out.symm, HB2.out⟩

theorem rdomain_any (h : ByteArray) (hs : h.size ≤ 1073741824) (w : World) :
    Calls Tryd.prog 13 #[.string h] w fun e w' => e = .returned (.bool (domainP h.data.toList)) ∧ Below w.heap.size w w' := by
  have HP := Lib.hid (rhost_any h hs w )
  have HA := Lib.hid (fun W => raddress_any h hs W)
  obtain ⟨A, hA⟩ : ∃ A, A = (addressP h.data.toList).isSome := ⟨_, rfl⟩
  obtain ⟨AN, hAN⟩ : ∃ AN : Int, AN = ((optN (addressP h.data.toList) : Nat) : Int) := ⟨_, rfl⟩
  rw [← hA, ← hAN] at HA
  have hDom : domainP h.data.toList = (decide (hostP h.data.toList = some h.data.toList) && !A) := by rw [hA]; unfold domainP; cases addressP h.data.toList <;> rfl
  obtain ⟨o, ho⟩ : ∃ o, o = hostP h.data.toList := ⟨_, rfl⟩
  rw [← ho] at HP hDom
  clear hA hAN
  cases o with
  | none =>
    have HP2 : Hid (Calls Tryd.prog 11 #[.string h] w fun e w' => e = .returned (.tuple #[.string ByteArray.empty, .int .i64 8]) ∧ Below w.heap.size w w') := HP
    have HR : Hid (domainP h.data.toList = false) := Lib.hid (by rw [hDom]; simp)
    clear HP hDom ho
    by_cases h0 : h.size = 0
    · have hse := emptyYes h0
      go_enter Tryd.func13, Tryd.ntmps13
      go_wp2_with fail
      refine HP2.out.mono ?_
      rintro e w1 ⟨rfl, hb1⟩
      have HB1 := Lib.hid hb1
      clear hb1
      go_wp2_with fail
      refine (HA.out _).mono ?_
      rintro e w2 ⟨rfl, hb2⟩
      have HB2 := Lib.hid (below_then HB1.out hb2)
      clear hb2
      go_wp2
      go_ret
      exact ⟨ret_bool HR.out.symm, HB2.out⟩
    · have hse := emptyNo h0
      go_enter Tryd.func13, Tryd.ntmps13
      go_wp2_with fail
      refine HP2.out.mono ?_
      rintro e w1 ⟨rfl, hb1⟩
      have HB1 := Lib.hid hb1
      clear hb1
      go_wp2_with fail
      refine (HA.out _).mono ?_
      rintro e w2 ⟨rfl, hb2⟩
      have HB2 := Lib.hid (below_then HB1.out hb2)
      clear hb2
      go_wp2
      go_ret
      exact ⟨ret_bool HR.out.symm, HB2.out⟩
  | some d =>
    obtain ⟨x, hx⟩ : ∃ x : ByteArray, x = ⟨d.toArray⟩ := ⟨_, rfl⟩
    have hxl : x.data.toList = d := by rw [hx]
    have HP2 : Hid (Calls Tryd.prog 11 #[.string h] w fun e w' => e = .returned (.tuple #[.string x, .int .i64 0]) ∧ Below w.heap.size w w') := Lib.hid (by rw [hx]; exact HP.out)
    have h0 : h.size ≠ 0 := by
      intro h0
      rw [nil_size h0, show hostP [] = none from rfl] at ho
      exact absurd ho (by simp)
    have hse := emptyNo h0
    by_cases he : d = h.data.toList
    · have hq : (x.toList == h.toList) = true := by rw [ByteArray.toList_eq, ByteArray.toList_eq, hxl, he, beq_iff_eq]
      rw [decide_eq_true (by rw [he]), Bool.true_and] at hDom
      have HR := Lib.hid hDom
      clear HP hDom ho he hx hxl
      cases A
      · go_enter Tryd.func13, Tryd.ntmps13
        go_wp2_with fail
        refine HP2.out.mono ?_
        rintro e w1 ⟨rfl, hb1⟩
        have HB1 := Lib.hid hb1
        clear hb1
        go_wp2_with fail
        refine (HA.out _).mono ?_
        rintro e w2 ⟨rfl, hb2⟩
        have HB2 := Lib.hid (below_then HB1.out hb2)
        clear hb2
        go_wp2
        go_ret
        exact ⟨ret_bool HR.out.symm, HB2.out⟩
      · go_enter Tryd.func13, Tryd.ntmps13
        go_wp2_with fail
        refine HP2.out.mono ?_
        rintro e w1 ⟨rfl, hb1⟩
        have HB1 := Lib.hid hb1
        clear hb1
        go_wp2_with fail
        refine (HA.out _).mono ?_
        rintro e w2 ⟨rfl, hb2⟩
        have HB2 := Lib.hid (below_then HB1.out hb2)
        clear hb2
        go_wp2
        go_ret
        exact ⟨ret_bool HR.out.symm, HB2.out⟩
    · have hq : (x.toList == h.toList) = false := by rw [ByteArray.toList_eq, ByteArray.toList_eq, hxl, beq_eq_false_iff_ne]; exact he
      rw [decide_eq_false (by intro h; injection h with h; exact he h), Bool.false_and] at hDom
      have HR := Lib.hid hDom
      clear HP hDom ho he hx hxl
      go_enter Tryd.func13, Tryd.ntmps13
      go_wp2_with fail
      refine HP2.out.mono ?_
      rintro e w1 ⟨rfl, hb1⟩
      have HB1 := Lib.hid hb1
      clear hb1
      go_wp2_with fail
      refine (HA.out _).mono ?_
      rintro e w2 ⟨rfl, hb2⟩
      have HB2 := Lib.hid (below_then HB1.out hb2)
      clear hb2
      go_wp2
      go_ret
      exact ⟨ret_bool HR.out.symm, HB2.out⟩

theorem text_size (n : Nat) : (textL n).length ≤ 15 := by
  have h3 := itoa_len ⟨n / 16777216 % 256, by omega⟩
  have h2 := itoa_len ⟨n / 65536 % 256, by omega⟩
  have h1 := itoa_len ⟨n / 256 % 256, by omega⟩
  have h0 := itoa_len ⟨n % 256, by omega⟩
  simp only at h3 h2 h1 h0
  unfold textL fourL
  simp only [joinD, List.length_append, List.length_cons]
  omega

theorem host_size {s h : List UInt8} (he : hostP s = some h) : h.length ≤ s.length + 15 := by
  unfold hostP hostD at he
  split at he
  · exact absurd he (by simp)
  · split at he
    · obtain ⟨a, _, rfl⟩ := Option.map_eq_some_iff.1 he
      have := text_size a
      omega
    · injection he with he
      rw [← he, low_length]
      have := decL_len _ s (Nat.le_refl _)
      omega

theorem hawake_any (w : World) (hT : Tab10 w) : Calls Tryd.prog 9 #[] w fun e w' => e = .returned (.bool true) ∧ Below w.heap.size w w' := by
  have HT := Lib.hid hT
  clear hT
  have C1 := Lib.hid (fun W (hT : Tab10 W) => hparse_any ⟨#[48, 120, 55, 102, 46, 49]⟩ (by decide) W hT)
  have e1 : hostP (⟨#[48, 120, 55, 102, 46, 49]⟩ : ByteArray).data.toList = some [49, 50, 55, 46, 48, 46, 48, 46, 49] := by decide +kernel
  rw [e1] at C1
  have C1' : Hid (∀ W, Tab10 W → Calls Tryd.prog 10 #[.string ⟨#[48, 120, 55, 102, 46, 49]⟩] W fun e w' => e = .returned (.tuple #[.string ⟨#[49, 50, 55, 46, 48, 46, 48, 46, 49]⟩, .int .i64 0]) ∧ Below W.heap.size W w') := C1
  have C2 := Lib.hid (fun W (hT : Tab10 W) => hparse_any ⟨#[69, 88, 65, 77, 80, 76, 69, 46, 99, 111, 109]⟩ (by decide) W hT)
  have e2 : hostP (⟨#[69, 88, 65, 77, 80, 76, 69, 46, 99, 111, 109]⟩ : ByteArray).data.toList = some [101, 120, 97, 109, 112, 108, 101, 46, 99, 111, 109] := by decide +kernel
  rw [e2] at C2
  have C2' : Hid (∀ W, Tab10 W → Calls Tryd.prog 10 #[.string ⟨#[69, 88, 65, 77, 80, 76, 69, 46, 99, 111, 109]⟩] W fun e w' => e = .returned (.tuple #[.string ⟨#[101, 120, 97, 109, 112, 108, 101, 46, 99, 111, 109]⟩, .int .i64 0]) ∧ Below W.heap.size W w') := C2
  have C3 := Lib.hid (fun W (hT : Tab10 W) => hparse_any ⟨#[50, 53, 54, 46, 48, 46, 48, 46, 49]⟩ (by decide) W hT)
  have e3 : hostP (⟨#[50, 53, 54, 46, 48, 46, 48, 46, 49]⟩ : ByteArray).data.toList = none := by decide +kernel
  rw [e3] at C3
  have C3' : Hid (∀ W, Tab10 W → Calls Tryd.prog 10 #[.string ⟨#[50, 53, 54, 46, 48, 46, 48, 46, 49]⟩] W fun e w' => e = .returned (.tuple #[.string ByteArray.empty, .int .i64 8]) ∧ Below W.heap.size W w') := C3
  clear C1 C2 C3 e1 e2 e3
  go_enter Tryd.func9, Tryd.ntmps9
  go_wp2_with fail
  refine (C1'.out _ HT.out).mono ?_
  rintro e w1 ⟨rfl, hb1⟩
  have HB1 := Lib.hid hb1
  clear hb1
  go_wp2_with fail
  refine (C2'.out _ (tab10_below HT.out HB1.out)).mono ?_
  rintro e w2 ⟨rfl, hb2⟩
  have HB2 := Lib.hid (below_then HB1.out hb2)
  clear hb2
  go_wp2_with fail
  refine (C3'.out _ (tab10_below HT.out HB2.out)).mono ?_
  rintro e w3 ⟨rfl, hb3⟩
  have HB3 := Lib.hid (below_then HB2.out hb3)
  clear hb3
  go_wp2
  go_ret
  exact ⟨rfl, HB3.out⟩

end Go.Proofs.YtmfchplplpiogaaDoor
