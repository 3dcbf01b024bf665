/- Contracts: strings.Cut at one byte; media types, the code's and the reference's. -/
import Derived.Test.YtfgpcajjnpmoeaaShelf
import Derived.BigQuiet
import Derived.Test.YtfgpcajjnpmoeaaProg
import Derived.Test.YtfgpcajjnpmoeaaKit
import Derived.Test.YtfgpcajjnpmoeaaStr
import Derived.Test.YtfgpcajjnpmoeaaAsc1
import Derived.Test.YtfgpcajjnpmoeaaAsc2
import Derived.Test.YtfgpcajjnpmoeaaAsc4
import Derived.Test.YtfgpcajjnpmoeaaRow
import Derived.Test.YtfgpcajjnpmoeaaHst1
import Derived.Test.YtfgpcajjnpmoeaaUrl0
import Derived.Test.YtfgpcajjnpmoeaaHdr0
namespace Go.Proofs.Ytfgpcajjnpmoeaa
open Go.RowKit Go.Proofs

theorem up_idx (l : List UInt8) (c : UInt8) : (Lib.indexByte l c = -1 ∧ upL [c] l = l ∧ fromL [c] l = []) ∨ (∃ i : Nat, Lib.indexByte l c = i ∧ i < l.length ∧ upL [c] l = l.take i ∧ fromL [c] l = l.drop i) := by
  have free : ∀ p : List UInt8, c ∉ p → ∀ x ∈ p, hasB [c] x = false := fun p h x hx => by
    rw [has_one, beq_eq_false_iff_ne]
    rintro rfl
    exact h hx
  have hc : hasB [c] c = true := by rw [has_one]; exact beq_iff_eq.2 rfl
  rcases indexByte_cases l c with ⟨h, hno⟩ | ⟨i, h, hi, hno, hcut⟩
  · exact .inl ⟨h, up_all (free l hno), from_all (free l hno)⟩
  · refine .inr ⟨i, h, hi, ?_, ?_⟩
    · conv => lhs; rw [hcut]
      rw [up_pre (free _ hno), up_hit hc, List.append_nil]
    · conv => lhs; rw [hcut]
      rw [from_pre (free _ hno), from_hit hc]
      have hd := List.drop_eq_getElem_cons hi
      rw [hd]
      congr 1
      have h2 : l[i]? = some c := by
        rw [hcut, List.getElem?_append_right (by rw [List.length_take]; omega), List.length_take, show i - min i l.length = 0 by omega]
        rfl
      rw [List.getElem?_eq_getElem hi] at h2
      exact (Option.some.inj h2).symm

def CutV (s : ByteArray) (c : UInt8) (e : Ending) : Prop := ∃ t, e = .returned (.tuple #[strL (upL [c] s.data.toList), strL ((fromL [c] s.data.toList).drop 1), .bool t])

theorem litecut_any (s : ByteArray) (c : UInt8) (hs : s.size ≤ 1073741824) (w : World) :
    Calls Try.prog 58 #[.string s, .string ⟨#[c]⟩] w fun e w' => CutV s c e ∧ ∃ m, w' = w.drewN m := by
  have hone : (⟨#[c]⟩ : ByteArray).size = 1 := rfl
  rcases up_idx s.data.toList c with ⟨h1, h2, h3⟩ | ⟨i, h1, hi, h2, h3⟩
  · have hc := Try.stringslite_Index_one s c w
    rw [h1] at hc
    have HC := Lib.hid hc
    have HR : Hid (∀ t, CutV s c (.returned (.tuple #[.string s, .string ⟨#[]⟩, .bool t]))) := Lib.hid (fun t => ⟨t, by rw [h2, h3, strL_data]; rfl⟩)
    clear hc h1 h2 h3 hone
    go_enter Try.func58, Try.ntmps58
    go_wp2_with fail
    refine HC.out.mono ?_
    rintro e w1 ⟨rfl, rfl⟩
    go_wp2_with fail
    go_ret3
    exact ⟨HR.out _, 0, rfl⟩
  · have hc := Try.stringslite_Index_one s c w
    rw [h1] at hc
    have HC := Lib.hid hc
    rw [size_data] at hi
    have hii : (i : Int) ≤ (s.size : Int) := by omega
    have hi1 : (i : Int) + 1 ≤ (s.size : Int) := by omega
    have HR : Hid (∀ t, CutV s c (.returned (.tuple #[.string (s.extract 0 i), .string (s.extract (i + 1) s.size), .bool t]))) := Lib.hid (fun t => ⟨t, by
      rw [h2, h3, strL_take, List.drop_drop, strL_of (t := s.extract (i + 1) s.size) (by rw [extract_tail])]⟩)
    clear hc h1 h2 h3
    go_enter Try.func58, Try.ntmps58
    go_wp2_with fail
    refine HC.out.mono ?_
    rintro e w1 ⟨rfl, rfl⟩
    go_wp2_with fail
    go_quiet (fail)
    go_wp2_with fail
    go_ret3
    exact ⟨HR.out _, _, rfl⟩

theorem cut_any (s : ByteArray) (c : UInt8) (hs : s.size ≤ 1073741824) (w : World) :
    Calls Try.prog 35 #[.string s, .string ⟨#[c]⟩] w fun e w' => CutV s c e ∧ ∃ m, w' = w.drewN m := by
  obtain ⟨x, hx⟩ : ∃ x, x = strL (upL [c] s.data.toList) := ⟨_, rfl⟩
  obtain ⟨y, hy⟩ : ∃ y, y = strL ((fromL [c] s.data.toList).drop 1) := ⟨_, rfl⟩
  have HV : Hid (∀ t, CutV s c (.returned (.tuple #[x, y, .bool t]))) := Lib.hid (fun t => ⟨t, by rw [hx, hy]⟩)
  have HC : Hid (Calls Try.prog 58 #[.string s, .string ⟨#[c]⟩] w fun e w' => (∃ t, e = .returned (.tuple #[x, y, .bool t])) ∧ ∃ m, w' = w.drewN m) := Lib.hid (by rw [hx, hy]; exact litecut_any s c hs w)
  clear hx hy
  go_enter Try.func35, Try.ntmps35
  go_wp2_with fail
  refine HC.out.mono ?_
  rintro e w1 ⟨⟨t, rfl⟩, hm⟩
  have HM := Lib.hid hm
  clear hm
  go_wp2_with fail
  go_ret3
  exact ⟨HV.out t, HM.out⟩

/-! media types -/
theorem ess_any (s : ByteArray) (hs : s.size ≤ 1073741824) (w : World) :
    Calls Try.prog 18 #[.string s] w fun e w' => e = .returned (.tuple #[strL (essL s.data.toList), .bool (essB s.data.toList)]) ∧ Below w.heap.size w w' := by
  obtain ⟨X, hX⟩ : ∃ X : ByteArray, X = ⟨(upL [59] s.data.toList).toArray⟩ := ⟨_, rfl⟩
  have hXs : X.size ≤ 1073741824 := by rw [hX, mk_size]; have := up_len [59] s.data.toList; rw [size_data] at this; omega
  obtain ⟨T, hT⟩ : ∃ T : ByteArray, T = ⟨(trimL (upL [59] s.data.toList)).toArray⟩ := ⟨_, rfl⟩
  obtain ⟨E, hE⟩ : ∃ E : ByteArray, E = ⟨(essH s.data.toList).toArray⟩ := ⟨_, rfl⟩
  have hEs : E.size ≤ 1073741824 := by rw [hE, mk_size]; have := essH_len s.data.toList; rw [size_data] at this; omega
  have hTs : T.size ≤ 1073741824 := by
    have : E.size = T.size := by rw [hE, hT, mk_size, mk_size]; unfold essH; rw [lowL_length]
    omega
  obtain ⟨K, hK⟩ : ∃ K : ByteArray, K = ⟨(upL [47] E.data.toList).toArray⟩ := ⟨_, rfl⟩
  obtain ⟨S, hS⟩ : ∃ S : ByteArray, S = ⟨((fromL [47] E.data.toList).drop 1).toArray⟩ := ⟨_, rfl⟩
  have hKs : K.size ≤ 1073741824 := by rw [hK, mk_size]; have := up_len [47] E.data.toList; rw [size_data] at this; omega
  have hSs : S.size ≤ 1073741824 := by rw [hS, mk_size, List.length_drop]; have := from_len [47] E.data.toList; rw [size_data] at this; omega
  have HC1 : Hid (∀ W, Calls Try.prog 35 #[.string s, .string ⟨#[59]⟩] W fun e w' => (∃ r t, e = .returned (.tuple #[.string X, r, .bool t])) ∧ ∃ m, w' = W.drewN m) := Lib.hid (fun W => (cut_any s 59 hs W).mono (by rintro e w' ⟨⟨t, rfl⟩, hm⟩; exact ⟨⟨_, t, by rw [hX]; rfl⟩, hm⟩))
  have HT : Hid (∀ W, Calls Try.prog 32 #[.string X] W fun e w' => e = .returned (.string T) ∧ Below W.heap.size W w') := Lib.hid (fun W => by have := trim_any X hXs W; rw [hX] at this; rw [hX, hT]; exact this)
  have HL : Hid (∀ W, Calls Try.prog 36 #[.string T] W fun e w' => e = .returned (.string E) ∧ Below W.heap.size W w') := Lib.hid (fun W => by have := lower_str_any T hTs W; rw [hT] at this; rw [hT, hE]; exact this)
  have HC2 : Hid (∀ W, Calls Try.prog 35 #[.string E, .string ⟨#[47]⟩] W fun e w' => (∃ t, e = .returned (.tuple #[.string K, .string S, .bool t])) ∧ ∃ m, w' = W.drewN m) := Lib.hid (fun W => (cut_any E 47 hEs W).mono (by rintro e w' ⟨⟨t, rfl⟩, hm⟩; exact ⟨⟨t, by rw [hK, hS]; rfl⟩, hm⟩))
  obtain ⟨k, hk⟩ : ∃ k, k = tokL K.data.toList := ⟨_, rfl⟩
  obtain ⟨q, hq⟩ : ∃ q, q = tokL S.data.toList := ⟨_, rfl⟩
  have HK : Hid (∀ W, Calls Try.prog 37 #[.string K] W fun e w' => e = .returned (.bool k) ∧ w' = W) := Lib.hid (fun W => by rw [hk]; exact token_any K hKs W)
  have HS : Hid (∀ W, Calls Try.prog 37 #[.string S] W fun e w' => e = .returned (.bool q) ∧ w' = W) := Lib.hid (fun W => by rw [hq]; exact token_any S hSs W)
  have hB : essB s.data.toList = (k && q) := by
    rw [hk, hq, hK, hS, hE]
    rfl
  have hR : essB s.data.toList = true → strL (essL s.data.toList) = .string E := fun h => by
    unfold essL
    rw [if_pos h, hE]
    rfl
  have hN : essB s.data.toList = false → strL (essL s.data.toList) = .string ⟨#[]⟩ := fun h => by
    unfold essL
    rw [if_neg (by rw [h]; decide)]
    rfl
  obtain ⟨b, hb⟩ : ∃ b, b = essB s.data.toList := ⟨_, rfl⟩
  rw [← hb] at hB hR hN ⊢
  obtain ⟨V, hV⟩ : ∃ V, V = strL (essL s.data.toList) := ⟨_, rfl⟩
  rw [← hV] at hR hN ⊢
  have HB := Lib.hid hB
  have HR := Lib.hid hR
  have HN := Lib.hid hN
  clear hX hXs hT hE hEs hTs hK hS hKs hSs hk hq hB hR hN hb hV hs
  go_enter Try.func18, Try.ntmps18
  go_wp2_with fail
  refine (HC1.out _).mono ?_
  rintro e w1 ⟨⟨r, t, rfl⟩, hm1⟩
  have B1 := Lib.hid (below_draws (Below.refl w.heap.size w) hm1)
  clear hm1
  go_wp2_with fail
  refine (HT.out _).mono ?_
  rintro e w2 ⟨rfl, hb2⟩
  have B2 := Lib.hid (below_then B1.out hb2)
  clear hb2
  go_wp2_with fail
  refine (HL.out _).mono ?_
  rintro e w3 ⟨rfl, hb3⟩
  have B3 := Lib.hid (below_then B2.out hb3)
  clear hb3
  go_wp2_with fail
  refine (HC2.out _).mono ?_
  rintro e w4 ⟨⟨t2, rfl⟩, hm4⟩
  have B4 := Lib.hid (below_draws B3.out hm4)
  clear hm4
  go_wp2_with fail
  refine (HK.out _).mono ?_
  rintro e w5 ⟨rfl, rfl⟩
  cases k with
  | false =>
    go_wp2_with fail
    go_ret2
    have e1 := HB.out
    rw [Bool.false_and] at e1
    exact ⟨by rw [HN.out e1, e1]; rfl, B4.out⟩
  | true =>
    go_wp2_with fail
    refine (HS.out _).mono ?_
    rintro e w6 ⟨rfl, rfl⟩
    cases q with
    | false =>
      go_wp2_with fail
      go_ret2
      have e1 := HB.out
      rw [Bool.and_false] at e1
      exact ⟨by rw [HN.out e1, e1]; rfl, B4.out⟩
    | true =>
      go_wp2_with fail
      go_ret2
      have e1 := HB.out
      rw [Bool.and_self] at e1
      exact ⟨by rw [HR.out e1, e1]; rfl, B4.out⟩

end Go.Proofs.Ytfgpcajjnpmoeaa
