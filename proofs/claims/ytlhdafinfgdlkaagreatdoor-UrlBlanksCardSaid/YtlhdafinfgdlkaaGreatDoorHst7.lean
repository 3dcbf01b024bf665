/- Parse and Host, both Domains, what the document fixes (awake). -/
import Derived.Test.YtlhdafinfgdlkaaGreatDoorShelf
import Derived.Lib.Strings
import Derived.BigQuiet
import Derived.Test.YtlhdafinfgdlkaaGreatDoorProg
import Derived.Test.YtlhdafinfgdlkaaGreatDoorKit
import Derived.Test.YtlhdafinfgdlkaaGreatDoorPlain
import Derived.Test.YtlhdafinfgdlkaaGreatDoorStr
import Derived.Test.YtlhdafinfgdlkaaGreatDoorAsc1
import Derived.Test.YtlhdafinfgdlkaaGreatDoorAsc4
import Derived.Test.YtlhdafinfgdlkaaGreatDoorRow
import Derived.Test.YtlhdafinfgdlkaaGreatDoorPct0
import Derived.Test.YtlhdafinfgdlkaaGreatDoorPct4
import Derived.Test.YtlhdafinfgdlkaaGreatDoorHst0
import Derived.Test.YtlhdafinfgdlkaaGreatDoorHst1
import Derived.Test.YtlhdafinfgdlkaaGreatDoorHst2
import Derived.Test.YtlhdafinfgdlkaaGreatDoorHst3
import Derived.Test.YtlhdafinfgdlkaaGreatDoorHst4
import Derived.Test.YtlhdafinfgdlkaaGreatDoorHst5
import Derived.Test.YtlhdafinfgdlkaaGreatDoorHst6
namespace Go.Proofs.YtlhdafinfgdlkaaGreatDoor
open Go.RowKit Go.Proofs
set_option maxRecDepth 100000

def hostB (o : Option (List UInt8)) : ByteArray := ⟨(o.getD []).toArray⟩

def hostE (o : Option (List UInt8)) : Int := if o.isSome then 0 else 8

theorem host_eq (s : List UInt8) : hostP s = hostD (lowL (decL s)) := rfl

theorem hostD_nil {d : List UInt8} (h : d = []) : hostD d = none := by unfold hostD; rw [if_pos (.inl h)]

theorem hostD_forb {d : List UInt8} (h : anyF d = true) : hostD d = none := by unfold hostD; rw [if_pos (.inr h)]

theorem hostD_name {d : List UInt8} (h : d ≠ []) (h2 : anyF d = false) (h3 : numericP ((partsL d).getLastD []) = false) : hostD d = some d := by
  unfold hostD
  unfold anyF at h2
  rw [if_neg (by rw [h2]; rintro (h | h); exact absurd h ‹d ≠ []›; exact absurd h (by decide)), if_neg (by rw [h3]; decide)]

theorem hostD_num {d : List UInt8} (h : d ≠ []) (h2 : anyF d = false) (h3 : numericP ((partsL d).getLastD []) = true) : hostD d = (numberP d).map textL := by
  unfold hostD
  unfold anyF at h2
  rw [if_neg (by rw [h2]; rintro (h | h); exact absurd h ‹d ≠ []›; exact absurd h (by decide)), if_pos h3]
  rfl

theorem dec_size (s : ByteArray) : (⟨(decL s.data.toList).toArray⟩ : ByteArray).size ≤ s.size := by
  rw [mk_size]
  have := decL_len _ s.data.toList (Nat.le_refl _)
  rw [size_data] at this
  exact this

set_option maxHeartbeats 1000000 in
theorem hparse_any (s : ByteArray) (hs : s.size ≤ 1073741824) (w : World) (hT : Tab10 w) :
    Calls Tryz.prog 55 #[.string s] w fun e w' => e = .returned (.tuple #[.string (hostB (hostP s.data.toList)), .int .i64 (hostE (hostP s.data.toList))]) ∧ Below w.heap.size w w' := by
  obtain ⟨t, ht⟩ : ∃ t : ByteArray, t = ⟨(decL s.data.toList).toArray⟩ := ⟨_, rfl⟩
  have hts : t.size ≤ 1073741824 := by rw [ht]; exact Nat.le_trans (dec_size s) hs
  obtain ⟨d, hd⟩ : ∃ d : ByteArray, d = ⟨(lowL t.data.toList).toArray⟩ := ⟨_, rfl⟩
  have hds : d.size ≤ 1073741824 := by rw [hd, mk_size, low_length, size_data]; exact hts
  have hdl : d.data.toList = lowL (decL s.data.toList) := by rw [hd, ht]
  have hlow : lowL d.data.toList = d.data.toList := by rw [hdl, lowL_low]
  have HD := Lib.hid (pdecode_any s hs w)
  rw [← ht] at HD
  have HL := Lib.hid (fun W => lower_str_any t hts W)
  rw [← hd] at HL
  rw [host_eq, ← hdl]
  clear ht hd hdl
  have HT := Lib.hid hT
  have HF := Lib.hid (fun W => hforb_any d hds W)
  clear hT
  by_cases h0 : d.size = 0
  · have hR := hostD_nil (nil_size h0)
    rw [hR]
    have hse := emptyYes h0
    clear hR h0
    go_enter Tryz.func55, Tryz.ntmps55
    go_wp2_with fail
    refine HD.out.mono ?_
    rintro e w1 ⟨rfl, hb1⟩
    have HB1 := Lib.hid hb1
    clear hb1
    go_wp2_with fail
    refine (HL.out _).mono ?_
    rintro e w2 ⟨rfl, hb2⟩
    have HB2 := Lib.hid (below_then HB1.out hb2)
    clear hb2
    go_wp2
    go_ret2
    exact ⟨rfl, HB2.out⟩
  · have hse := emptyNo h0
    have hne := ne_of_size h0
    cases hf : anyF d.data.toList
    · rw [hf] at HF
      have HP := Lib.hid (fun W => hparts_any d hds W)
      obtain ⟨m, p, hm, hp, hlast⟩ := last_parts d.data.toList
      have hmz := parts_count d.data.toList
      rw [size_data, hm] at hmz
      rw [hm] at HP
      have hpl : lowL p = p ∧ p.length ≤ 1073741824 := by
        have h1 := List.mem_of_getElem? hp
        rw [← hlow] at h1
        have := parts_lowed h1
        rw [size_data] at this
        exact ⟨this.1, by omega⟩
      obtain ⟨pt, hpt⟩ : ∃ pt : ByteArray, pt = ⟨p.toArray⟩ := ⟨_, rfl⟩
      have hptl : pt.data.toList = p := by rw [hpt]
      have HNU := Lib.hid (fun W => hnumeric_any pt (by rw [hpt]; exact hpl.2) (by rw [hptl]; exact hpl.1) W)
      rw [hptl] at HNU
      have HPP := Lib.hid hp
      have HPT := Lib.hid hpt
      have i1 : (0 : Int) ≤ (m : Int) := by omega
      have i2 : (m : Int) < (m : Int) + 1 := by omega
      have hmb : m ≤ 1073741824 := by omega
      obtain ⟨ps, hps⟩ : ∃ ps, ps = partsL d.data.toList := ⟨_, rfl⟩
      rw [← hps] at HP HPP hlast
      cases hn : numericP p
      · have hR := hostD_name hne hf (by rw [← hps, hlast]; exact hn)
        rw [hn] at HNU
        rw [hR]
        have HDD : Hid (d = hostB (some d.data.toList)) := Lib.hid (mk_list d rfl)
        clear hR hn hps hp hm hlast hmz hpl hpt hptl hne hf hlow
        go_enter Tryz.func55, Tryz.ntmps55
        go_wp2_with fail
        refine HD.out.mono ?_
        rintro e w1 ⟨rfl, hb1⟩
        have HB1 := Lib.hid hb1
        clear hb1
        go_wp2_with fail
        refine (HL.out _).mono ?_
        rintro e w2 ⟨rfl, hb2⟩
        have HB2 := Lib.hid (below_then HB1.out hb2)
        clear hb2
        go_wp2_with fail
        refine (HF.out _).mono ?_
        rintro e w3 ⟨rfl, rfl⟩
        go_wp2_with fail
        refine (HP.out _).mono ?_
        rintro e w4 ⟨⟨a, c, rfl, _, hsl⟩, hb4⟩
        have HB4 := Lib.hid (below_then HB2.out hb4)
        obtain ⟨b, off, rfl, hcell⟩ := sl_at hsl (j := m) (x := strL p) (by rw [List.getElem?_map, HPP.out]; rfl)
        rw [strL_mk, ← HPT.out] at hcell
        clear hb4 hsl
        go_wp2_with fail
        refine (HNU.out _).mono ?_
        rintro e w5 ⟨rfl, rfl⟩
        go_wp2
        go_ret2
        exact ⟨by rw [← HDD.out]; rfl, HB4.out⟩
      · have hR := hostD_num hne hf (by rw [← hps, hlast]; exact hn)
        rw [hn] at HNU
        rw [hR]
        have HN := Lib.hid (fun W => hnumber_any d hds W)
        have hlt := fun n (hn : numberP d.data.toList = some n) => addrP_lt (l := partsL d.data.toList) hn
        clear hR hn hps hp hm hlast hmz hpl hpt hptl hne hf hlow
        cases hO : numberP d.data.toList with
        | none =>
          rw [hO] at HN
          have HN2 : Hid (∀ W, Calls Tryz.prog 92 #[.string d] W fun e w' => e = .returned (.tuple #[.int .u32 0, .bool false]) ∧ Below W.heap.size W w') := HN
          clear HN hO hlt
          go_enter Tryz.func55, Tryz.ntmps55
          go_wp2_with fail
          refine HD.out.mono ?_
          rintro e w1 ⟨rfl, hb1⟩
          have HB1 := Lib.hid hb1
          clear hb1
          go_wp2_with fail
          refine (HL.out _).mono ?_
          rintro e w2 ⟨rfl, hb2⟩
          have HB2 := Lib.hid (below_then HB1.out hb2)
          clear hb2
          go_wp2_with fail
          refine (HF.out _).mono ?_
          rintro e w3 ⟨rfl, rfl⟩
          go_wp2_with fail
          refine (HP.out _).mono ?_
          rintro e w4 ⟨⟨a, c, rfl, _, hsl⟩, hb4⟩
          have HB4 := Lib.hid (below_then HB2.out hb4)
          obtain ⟨b, off, rfl, hcell⟩ := sl_at hsl (j := m) (x := strL p) (by rw [List.getElem?_map, HPP.out]; rfl)
          rw [strL_mk, ← HPT.out] at hcell
          clear hb4 hsl
          go_wp2_with fail
          refine (HNU.out _).mono ?_
          rintro e w5 ⟨rfl, rfl⟩
          go_wp2_with fail
          refine (HN2.out _).mono ?_
          rintro e w6 ⟨rfl, hb6⟩
          have HB6 := Lib.hid (below_then HB4.out hb6)
          clear hb6
          go_wp2
          go_ret2
          exact ⟨rfl, HB6.out⟩
        | some n =>
          have hn32 := hlt n hO
          rw [hO] at HN
          obtain ⟨z, hz⟩ : ∃ z : Int, z = (n : Int) := ⟨_, rfl⟩
          have HN2 : Hid (∀ W, Calls Tryz.prog 92 #[.string d] W fun e w' => e = .returned (.tuple #[.int .u32 z, .bool true]) ∧ Below W.heap.size W w') := Lib.hid (by rw [hz]; exact HN.out)
          have HTX := Lib.hid (fun W (hT : Tab10 W) => htext_any n hn32 W hT)
          rw [← hz] at HTX
          clear HN hO hlt hn32 hz
          go_enter Tryz.func55, Tryz.ntmps55
          go_wp2_with fail
          refine HD.out.mono ?_
          rintro e w1 ⟨rfl, hb1⟩
          have HB1 := Lib.hid hb1
          clear hb1
          go_wp2_with fail
          refine (HL.out _).mono ?_
          rintro e w2 ⟨rfl, hb2⟩
          have HB2 := Lib.hid (below_then HB1.out hb2)
          clear hb2
          go_wp2_with fail
          refine (HF.out _).mono ?_
          rintro e w3 ⟨rfl, rfl⟩
          go_wp2_with fail
          refine (HP.out _).mono ?_
          rintro e w4 ⟨⟨a, c, rfl, _, hsl⟩, hb4⟩
          have HB4 := Lib.hid (below_then HB2.out hb4)
          obtain ⟨b, off, rfl, hcell⟩ := sl_at hsl (j := m) (x := strL p) (by rw [List.getElem?_map, HPP.out]; rfl)
          rw [strL_mk, ← HPT.out] at hcell
          clear hb4 hsl
          go_wp2_with fail
          refine (HNU.out _).mono ?_
          rintro e w5 ⟨rfl, rfl⟩
          go_wp2_with fail
          refine (HN2.out _).mono ?_
          rintro e w6 ⟨rfl, hb6⟩
          have HB6 := Lib.hid (below_then HB4.out hb6)
          clear hb6
          go_wp2_with fail
          refine (HTX.out _ (tab10_below HT.out HB6.out)).mono ?_
          rintro e w7 ⟨rfl, hb7⟩
          have HB7 := Lib.hid (below_then HB6.out hb7)
          clear hb7
          go_wp2
          go_ret2
          exact ⟨rfl, HB7.out⟩
    · have hR := hostD_forb hf
      rw [hf] at HF
      rw [hR]
      clear hR hne hf hlow
      go_enter Tryz.func55, Tryz.ntmps55
      go_wp2_with fail
      refine HD.out.mono ?_
      rintro e w1 ⟨rfl, hb1⟩
      have HB1 := Lib.hid hb1
      clear hb1
      go_wp2_with fail
      refine (HL.out _).mono ?_
      rintro e w2 ⟨rfl, hb2⟩
      have HB2 := Lib.hid (below_then HB1.out hb2)
      clear hb2
      go_wp2_with fail
      refine (HF.out _).mono ?_
      rintro e w3 ⟨rfl, rfl⟩
      go_wp2
      go_ret2
      exact ⟨rfl, HB2.out⟩

set_option maxHeartbeats 1000000 in
theorem rhost_any (s : ByteArray) (hs : s.size ≤ 1073741824) (w : World) :
    Calls Tryz.prog 66 #[.string s] w fun e w' => e = .returned (.tuple #[.string (hostB (hostP s.data.toList)), .int .i64 (hostE (hostP s.data.toList))]) ∧ Below w.heap.size w w' := by
  obtain ⟨t, ht⟩ : ∃ t : ByteArray, t = ⟨(decL s.data.toList).toArray⟩ := ⟨_, rfl⟩
  have hts : t.size ≤ 1073741824 := by rw [ht]; exact Nat.le_trans (dec_size s) hs
  obtain ⟨d, hd⟩ : ∃ d : ByteArray, d = ⟨(lowL t.data.toList).toArray⟩ := ⟨_, rfl⟩
  have hds : d.size ≤ 1073741824 := by rw [hd, mk_size, low_length, size_data]; exact hts
  have hdl : d.data.toList = lowL (decL s.data.toList) := by rw [hd, ht]
  have hlow : lowL d.data.toList = d.data.toList := by rw [hdl, lowL_low]
  have HD := Lib.hid (ref_decode_any s hs w)
  rw [← ht] at HD
  have HL := Lib.hid (fun W => ref_lower_any t hts W)
  rw [← hd] at HL
  rw [host_eq, ← hdl]
  clear ht hd hdl
  by_cases h0 : d.size = 0
  · have hR := hostD_nil (nil_size h0)
    rw [hR]
    have hse := emptyYes h0
    clear hR h0
    go_enter Tryz.func66, Tryz.ntmps66
    go_wp2_with fail
    refine HD.out.mono ?_
    rintro e w1 ⟨rfl, hb1⟩
    have HB1 := Lib.hid hb1
    clear hb1
    go_wp2_with fail
    refine (HL.out _).mono ?_
    rintro e w2 ⟨rfl, hb2⟩
    have HB2 := Lib.hid (below_then HB1.out hb2)
    clear hb2
    go_wp2
    go_ret2
    exact ⟨rfl, HB2.out⟩
  · have hse := emptyNo h0
    have hne := ne_of_size h0
    go_enter Tryz.func66, Tryz.ntmps66
    go_wp2_with fail
    refine HD.out.mono ?_
    rintro e w1 ⟨rfl, hb1⟩
    have HB1 := Lib.hid hb1
    clear hb1
    go_wp2_with fail
    refine (HL.out _).mono ?_
    rintro e w2 ⟨rfl, hb2⟩
    have HB2 := Lib.hid (below_then HB1.out hb2)
    clear hb2
    go_wp2_with fail
    go_loop [5] (fun i => ∃ k : Nat, k ≤ d.size ∧ i = .int .i64 k ∧ Hid (anyF (d.data.toList.take k) = false)) (fun i => d.size - (intOf i).toNat)
    case atStart => exact ⟨0, Nat.zero_le _, rfl, Lib.hid rfl⟩
    case round =>
      obtain ⟨k, hk, rfl, HN⟩ := hrel
      by_cases hlt : k < d.size
      · have hlz : (k : Int) < (d.size : Int) := by omega
        have HTF := Lib.hid (forb_at d k hlt)
        have HSN := Lib.hid (forb_snoc d k hlt HN.out)
        have hfb : forbB d[k] = (decide ((d[k].toNat : Int) ≤ 32) || decide (127 ≤ (d[k].toNat : Int)) || hasB forbL d[k]) := rfl
        have HH := Lib.hid (ref_has_any ⟨forbL.toArray⟩ d[k] (by decide) w2)
        rw [show (⟨forbL.toArray⟩ : ByteArray).data.toList = forbL from rfl] at HH
        by_cases c1 : (d[k].toNat : Int) ≤ 32
        · rw [decide_eq_true c1] at hfb
          have HQ := Lib.hid (HTF.out (by rw [hfb]; rfl))
          clear hfb
          go_wp2
          go_ret2
          exact ⟨by rw [hostD_forb HQ.out]; rfl, HB2.out⟩
        · by_cases c2 : 127 ≤ (d[k].toNat : Int)
          · rw [decide_eq_true c2] at hfb
            have HQ := Lib.hid (HTF.out (by rw [hfb]; simp))
            clear hfb
            go_wp2
            go_ret2
            exact ⟨by rw [hostD_forb HQ.out]; rfl, HB2.out⟩
          · rw [decide_eq_false c1, decide_eq_false c2] at hfb
            cases c3 : hasB forbL d[k]
            · rw [c3] at HH hfb
              have HQ := Lib.hid (HSN.out (by rw [hfb]; rfl))
              clear hfb c3
              go_wp2_with fail
              refine HH.out.mono ?_
              rintro e w3 ⟨rfl, rfl⟩
              go_wp2
              go_round
              case rel => exact ⟨k + 1, by omega, by go_num, HQ⟩
              case measure => simp [intOf]; omega
            · rw [c3] at HH hfb
              have HQ := Lib.hid (HTF.out (by rw [hfb]; rfl))
              clear hfb c3
              go_wp2_with fail
              refine HH.out.mono ?_
              rintro e w3 ⟨rfl, rfl⟩
              go_wp2
              go_ret2
              exact ⟨by rw [hostD_forb HQ.out]; rfl, HB2.out⟩
      · have hlz : ¬ (k : Int) < (d.size : Int) := by omega
        have hfin := HN.out
        rw [List.take_of_length_le (by rw [size_data]; omega)] at hfin
        have HQ := Lib.hid hfin
        clear hfin
        have HN := Lib.hid (fun W => rnumber_any d hds W)
        have hlt2 := fun n (hn : numberP d.data.toList = some n) => addrP_lt (l := partsL d.data.toList) hn
        have HNU := Lib.hid (fun W => rnumeric_any d hds W)
        cases hn : numericP ((partsL d.data.toList).getLastD [])
        · have HR := Lib.hid (hostD_name hne HQ.out hn)
          rw [hn] at HNU
          have HDD : Hid (d = hostB (some d.data.toList)) := Lib.hid (mk_list d rfl)
          clear hn hlt2
          go_wp2_with fail
          refine (HNU.out _).mono ?_
          rintro e w5 ⟨rfl, hb5⟩
          have HB5 := Lib.hid (below_then HB2.out hb5)
          clear hb5
          go_wp2
          go_ret2
          exact ⟨by rw [HR.out, ← HDD.out]; rfl, HB5.out⟩
        · have HR := Lib.hid (hostD_num hne HQ.out hn)
          rw [hn] at HNU
          clear hn
          cases hO : numberP d.data.toList with
          | none =>
            rw [hO] at HN HR
            have HN2 : Hid (∀ W, Calls Tryz.prog 102 #[.string d] W fun e w' => e = .returned (.tuple #[.int .u32 0, .bool false]) ∧ Below W.heap.size W w') := HN
            clear HN hO hlt2
            go_wp2_with fail
            refine (HNU.out _).mono ?_
            rintro e w5 ⟨rfl, hb5⟩
            have HB5 := Lib.hid (below_then HB2.out hb5)
            clear hb5
            go_wp2_with fail
            refine (HN2.out _).mono ?_
            rintro e w6 ⟨rfl, hb6⟩
            have HB6 := Lib.hid (below_then HB5.out hb6)
            clear hb6
            go_wp2
            go_ret2
            exact ⟨by rw [HR.out]; rfl, HB6.out⟩
          | some n =>
            have hn32 := hlt2 n hO
            rw [hO] at HN HR
            obtain ⟨z, hz⟩ : ∃ z : Int, z = (n : Int) := ⟨_, rfl⟩
            have HN2 : Hid (∀ W, Calls Tryz.prog 102 #[.string d] W fun e w' => e = .returned (.tuple #[.int .u32 z, .bool true]) ∧ Below W.heap.size W w') := Lib.hid (by rw [hz]; exact HN.out)
            have HTX := Lib.hid (fun W => raddr_any n hn32 W)
            rw [← hz] at HTX
            clear HN hO hlt2 hn32 hz
            go_wp2_with fail
            refine (HNU.out _).mono ?_
            rintro e w5 ⟨rfl, hb5⟩
            have HB5 := Lib.hid (below_then HB2.out hb5)
            clear hb5
            go_wp2_with fail
            refine (HN2.out _).mono ?_
            rintro e w6 ⟨rfl, hb6⟩
            have HB6 := Lib.hid (below_then HB5.out hb6)
            clear hb6
            go_wp2_with fail
            refine (HTX.out _).mono ?_
            rintro e w7 ⟨rfl, hb7⟩
            have HB7 := Lib.hid (below_then HB6.out hb7)
            clear hb7
            go_wp2
            go_ret2
            exact ⟨by rw [HR.out]; rfl, HB7.out⟩

end Go.Proofs.YtlhdafinfgdlkaaGreatDoor
