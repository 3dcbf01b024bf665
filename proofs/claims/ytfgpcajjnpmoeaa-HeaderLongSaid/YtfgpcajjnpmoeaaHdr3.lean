/- Contracts: media types by the reference; which fields are one, the code's and the reference's. -/
import Derived.Test.YtfgpcajjnpmoeaaShelf
import Derived.BigQuiet
import Derived.Deep.RegionHeld3
import Derived.Test.YtfgpcajjnpmoeaaProg
import Derived.Test.YtfgpcajjnpmoeaaKit
import Derived.Test.YtfgpcajjnpmoeaaStr
import Derived.Test.YtfgpcajjnpmoeaaAsc1
import Derived.Test.YtfgpcajjnpmoeaaAsc2
import Derived.Test.YtfgpcajjnpmoeaaAsc3
import Derived.Test.YtfgpcajjnpmoeaaAsc4
import Derived.Test.YtfgpcajjnpmoeaaRow
import Derived.Test.YtfgpcajjnpmoeaaHst1
import Derived.Test.YtfgpcajjnpmoeaaUrl0
import Derived.Test.YtfgpcajjnpmoeaaUrr1
import Derived.Test.YtfgpcajjnpmoeaaUrr2
import Derived.Test.YtfgpcajjnpmoeaaHdr0
namespace Go.Proofs.Ytfgpcajjnpmoeaa
open Go.RowKit Go.Proofs

theorem ress_any (s : ByteArray) (hs : s.size ≤ 1073741824) (w : World) :
    Calls Try.prog 19 #[.string s] w fun e w' => e = .returned (.tuple #[strL (essL s.data.toList), .bool (essB s.data.toList)]) ∧ Below w.heap.size w w' := by
  obtain ⟨n, hn⟩ : ∃ n, n = (upL [59] s.data.toList).length := ⟨_, rfl⟩
  have hns : n ≤ s.size := by rw [hn]; have := up_len [59] s.data.toList; rw [size_data] at this; exact this
  have hXl : (s.extract 0 n).data.toList = upL [59] s.data.toList := by rw [extract_list, List.drop_zero, hn]; exact (up_take [59] s.data.toList).1
  have hXs : (s.extract 0 n).size ≤ 1073741824 := by rw [ByteArray.size_extract]; omega
  obtain ⟨T, hT⟩ : ∃ T : ByteArray, T = ⟨(trimL (upL [59] s.data.toList)).toArray⟩ := ⟨_, rfl⟩
  obtain ⟨E, hE⟩ : ∃ E : ByteArray, E = ⟨(essH s.data.toList).toArray⟩ := ⟨_, rfl⟩
  have hEs : E.size ≤ 1073741824 := by rw [hE, mk_size]; have := essH_len s.data.toList; rw [size_data] at this; omega
  have hTs : T.size ≤ 1073741824 := by
    have : E.size = T.size := by rw [hE, hT, mk_size, mk_size]; unfold essH; rw [lowL_length]
    omega
  have HU : Hid (∀ W, Calls Try.prog 39 #[.string s, .string ⟨#[59]⟩] W fun e w' => e = .returned (.int .i64 n) ∧ w' = W) := Lib.hid (fun W => by rw [hn]; exact rupto_any s ⟨#[59]⟩ hs (by decide) W)
  have HT : Hid (∀ W, Calls Try.prog 34 #[.string (s.extract 0 n)] W fun e w' => e = .returned (.string T) ∧ w' = W) := Lib.hid (fun W => by have := ref_trim_any (s.extract 0 n) hXs W; rw [hXl, ← hT] at this; exact this)
  have HL : Hid (∀ W, Calls Try.prog 38 #[.string T] W fun e w' => e = .returned (.string E) ∧ Below W.heap.size W w') := Lib.hid (fun W => by have := ref_lower_any T hTs W; rw [hT] at this; rw [hT, hE]; exact this)
  obtain ⟨ps, hps⟩ : ∃ ps, ps = splitL E.data.toList 47 := ⟨_, rfl⟩
  have HSP : Hid (∀ W, Calls Try.prog 33 #[.string E, .int .u8 47] W fun e w' => (∃ v, e = .returned v ∧ w'.ownsRow W.heap.size 9 1 v ps.length (ps.map strL)) ∧ Below W.heap.size W w') := Lib.hid (fun W => by rw [hps]; exact ref_split_any E 47 hEs W)
  have hpl : ps.length ≤ 1073741825 := by rw [hps]; have := splitL_len E.data.toList 47; rw [size_data] at this; omega
  have hps2 : ∀ a ∈ ps, a.length ≤ 1073741824 := fun a ha => by
    rw [hps] at ha
    have := split_mem_len ha
    rw [size_data] at this
    omega
  have hB : (ps.length ≠ 2 ∧ essB s.data.toList = false) ∨ (∃ a b, ps = [a, b] ∧ essB s.data.toList = (tokL a && tokL b)) := by
    rw [hps, hE]
    exact half_ways (essH s.data.toList)
  have hR : essB s.data.toList = true → strL (essL s.data.toList) = .string E := fun h => by
    unfold essL
    rw [if_pos h, hE]
    rfl
  have hN : essB s.data.toList = false → strL (essL s.data.toList) = .string ⟨#[]⟩ := fun h => by
    unfold essL
    rw [if_neg (by rw [h]; decide)]
    rfl
  obtain ⟨b, hb⟩ : ∃ b, b = essB s.data.toList := ⟨_, rfl⟩
  rw [← hb] at hB hR hN ⊢
  obtain ⟨V, hV⟩ : ∃ V, V = strL (essL s.data.toList) := ⟨_, rfl⟩
  rw [← hV] at hR hN ⊢
  have HR := Lib.hid hR
  have HN := Lib.hid hN
  have hni : (n : Int) ≤ (s.size : Int) := by omega
  clear hn hXl hXs hT hE hEs hTs hps hR hN hb hV hs
  rcases hB with ⟨hl, hb⟩ | ⟨x, y, rfl, hb⟩
  · have hl2 : ((ps.length : Int) != 2) = true := by rw [bne_iff_ne]; omega
    have HB := Lib.hid hb
    clear hl hb hps2
    go_enter Try.func19, Try.ntmps19
    go_wp2_with fail
    refine (HU.out _).mono ?_
    rintro e w1 ⟨rfl, rfl⟩
    go_wp2_with fail
    refine (HT.out _).mono ?_
    rintro e w2 ⟨rfl, rfl⟩
    go_wp2_with fail
    refine (HL.out _).mono ?_
    rintro e w3 ⟨rfl, hb3⟩
    have B3 := Lib.hid hb3
    clear hb3
    go_wp2_with fail
    refine (HSP.out _).mono ?_
    rintro e w4 ⟨⟨v, rfl, hown⟩, hb4⟩
    have B4 := Lib.hid (below_then B3.out hb4)
    clear hb4
    obtain ⟨va, vc, rfl, _⟩ := SliceAt.own hown
    rw [List.length_map]
    clear hown
    go_wp2_with fail
    go_ret2
    exact ⟨by rw [HN.out HB.out, HB.out]; rfl, B4.out⟩
  · obtain ⟨K, hK⟩ : ∃ K : ByteArray, K = ⟨x.toArray⟩ := ⟨_, rfl⟩
    obtain ⟨S, hS⟩ : ∃ S : ByteArray, S = ⟨y.toArray⟩ := ⟨_, rfl⟩
    have hKs : K.size ≤ 1073741824 := by rw [hK, mk_size]; exact hps2 x (by simp)
    have hSs : S.size ≤ 1073741824 := by rw [hS, mk_size]; exact hps2 y (by simp)
    obtain ⟨k, hk⟩ : ∃ k, k = tokL K.data.toList := ⟨_, rfl⟩
    obtain ⟨q, hq⟩ : ∃ q, q = tokL S.data.toList := ⟨_, rfl⟩
    have HK : Hid (∀ W, Calls Try.prog 40 #[.string K] W fun e w' => e = .returned (.bool k) ∧ w' = W) := Lib.hid (fun W => by rw [hk]; exact ref_token_any K hKs W)
    have HS : Hid (∀ W, Calls Try.prog 40 #[.string S] W fun e w' => e = .returned (.bool q) ∧ w' = W) := Lib.hid (fun W => by rw [hq]; exact ref_token_any S hSs W)
    have HB : Hid (b = (k && q)) := Lib.hid (by rw [hb, hk, hq, hK, hS])
    have HC : Hid ([x, y].map strL = [.string K, .string S]) := Lib.hid (by rw [hK, hS]; rfl)
    clear hb hps2 hK hS hKs hSs hk hq hpl
    go_enter Try.func19, Try.ntmps19
    go_wp2_with fail
    refine (HU.out _).mono ?_
    rintro e w1 ⟨rfl, rfl⟩
    go_wp2_with fail
    refine (HT.out _).mono ?_
    rintro e w2 ⟨rfl, rfl⟩
    go_wp2_with fail
    refine (HL.out _).mono ?_
    rintro e w3 ⟨rfl, hb3⟩
    have B3 := Lib.hid hb3
    clear hb3
    go_wp2_with fail
    refine (HSP.out _).mono ?_
    rintro e w4 ⟨⟨v, rfl, hown⟩, hb4⟩
    have B4 := Lib.hid (below_then B3.out hb4)
    clear hb4
    rw [HC.out] at hown
    rcases hown.2 with ⟨_, h0⟩ | ⟨g, cap, cur, rfl, _⟩
    · cases h0
    have c0 := hown.cellAt 0 (by simp)
    have c1 := hown.cellAt 1 (by simp)
    have d0 : w4.cell? ⟨g, 0, none⟩ = some (.string K) := c0
    have d1 : w4.cell? ⟨g, 1, none⟩ = some (.string S) := c1
    clear hown c0 c1
    go_wp2_with fail
    refine (HK.out _).mono ?_
    rintro e w5 ⟨rfl, rfl⟩
    cases k with
    | false =>
      go_wp2_with fail
      go_ret2
      have e1 := HB.out
      rw [Bool.false_and] at e1
      exact ⟨by rw [HN.out e1, e1]; rfl, B4.out⟩
    | true =>
      go_wp2_with fail
      refine (HS.out _).mono ?_
      rintro e w6 ⟨rfl, rfl⟩
      cases q with
      | false =>
        go_wp2_with fail
        go_ret2
        have e1 := HB.out
        rw [Bool.and_false] at e1
        exact ⟨by rw [HN.out e1, e1]; rfl, B4.out⟩
      | true =>
        go_wp2_with fail
        go_ret2
        have e1 := HB.out
        rw [Bool.and_self] at e1
        exact ⟨by rw [HR.out e1, e1]; rfl, B4.out⟩

end Go.Proofs.Ytfgpcajjnpmoeaa
