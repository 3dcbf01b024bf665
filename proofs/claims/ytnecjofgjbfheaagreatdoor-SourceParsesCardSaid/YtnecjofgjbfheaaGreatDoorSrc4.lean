/- source: the code's reader: what comes next, what is taken, whether bytes are among some. -/
import Derived.Test.YtnecjofgjbfheaaGreatDoorShelf
import Derived.Test.YtnecjofgjbfheaaGreatDoorVshelf
import Derived.BigQuiet
import Derived.BigRegion
import Derived.Test.YtnecjofgjbfheaaGreatDoorProg
import Derived.Test.YtnecjofgjbfheaaGreatDoorKit
import Derived.Test.YtnecjofgjbfheaaGreatDoorPlain
import Derived.Test.YtnecjofgjbfheaaGreatDoorStr
import Derived.Test.YtnecjofgjbfheaaGreatDoorAsc1
import Derived.Test.YtnecjofgjbfheaaGreatDoorAsc4
import Derived.Test.YtnecjofgjbfheaaGreatDoorRow
import Derived.Test.YtnecjofgjbfheaaGreatDoorFp
import Derived.Test.YtnecjofgjbfheaaGreatDoorPct0
import Derived.Test.YtnecjofgjbfheaaGreatDoorHst4
import Derived.Test.YtnecjofgjbfheaaGreatDoorUrl0
import Derived.Test.YtnecjofgjbfheaaGreatDoorUrl4
import Derived.Test.YtnecjofgjbfheaaGreatDoorUrl6
import Derived.Test.YtnecjofgjbfheaaGreatDoorUrr1
import Derived.Test.YtnecjofgjbfheaaGreatDoorOrg0
import Derived.Test.YtnecjofgjbfheaaGreatDoorCsp1
import Derived.Test.YtnecjofgjbfheaaGreatDoorSrc0
namespace Go.Proofs.YtnecjofgjbfheaaGreatDoor
open Go.RowKit Go.Proofs
set_option maxRecDepth 100000

theorem Tryz.infoSrd : (Tryz.prog.info? 52).map (fun i => (i.zero, i.size)) = some (some (.agg #[.string ⟨#[]⟩, .int .i64 0, .string ⟨#[]⟩, .string ⟨#[]⟩, .string ⟨#[]⟩, .string ⟨#[]⟩]), 6) := by kernel_rfl

theorem Tryz.sizeSrd : (Tryz.prog.info? 52).map (·.size) = some 6 := by kernel_rfl

theorem Tryz.infoExp : (Tryz.prog.info? 24).map (fun i => (i.zero, i.size)) = some (some (.agg #[.int .i64 0, .string ⟨#[]⟩, .string ⟨#[]⟩, .string ⟨#[]⟩, .string ⟨#[]⟩]), 5) := by kernel_rfl

theorem Tryz.sizeExp : (Tryz.prog.info? 24).map (·.size) = some 5 := by kernel_rfl

/-- What strings.TrimLeft makes, by a class of bytes. -/
theorem trim_class (s of : List UInt8) {p : UInt8 → Bool} (hp : ∀ c, hasB of c = p c) : Lib.trimLeftS s of = s.dropWhile p := by
  show s.dropWhile (of.contains ·) = _
  rw [show (of.contains ·) = p from funext hp]

theorem extract_take (s : ByteArray) (p : UInt8 → Bool) : Value.string (s.extract 0 (s.data.toList.takeWhile p).length) = strL (s.data.toList.takeWhile p) := by
  rw [← strL_take, tw_len_take]

theorem tw_dw_len (l : List UInt8) (p : UInt8 → Bool) : (l.takeWhile p).length + (l.dropWhile p).length = l.length := by
  rw [← List.length_append, List.takeWhile_append_dropWhile]

set_option maxHeartbeats 1000000 in
theorem stake_any {w : World} {g : Nat} {T : TypeId} {cs : List Value} (s of : ByteArray) (hs : s.size ≤ 1073741824) (ho : asciiB of) (h8 : of.size ≤ 100) (p : UInt8 → Bool) (hp : ∀ c, hasB of.data.toList c = p c) (h : Rw w 0 g T (.string s :: cs)) :
    Calls Tryz.prog 70 #[.pointer (some ⟨g, 0, none⟩), .string of] w fun e w' => e = .returned (strL (s.data.toList.takeWhile p)) ∧ RestV w w' g T cs (s.data.toList.dropWhile p) := by
  have HT := Lib.hid (fun W => Tryz.strings_TrimLeft s of W (by omega) (fun j b hj => ho b (List.mem_of_getElem? hj)))
  rw [trim_class _ _ hp] at HT
  obtain ⟨t, ht⟩ : ∃ t : ByteArray, t = ⟨(s.data.toList.dropWhile p).toArray⟩ := ⟨_, rfl⟩
  have htl : t.data.toList = s.data.toList.dropWhile p := by rw [ht]
  have hlen := tw_dw_len s.data.toList p
  have hts : t.size = (s.data.toList.dropWhile p).length := by rw [← htl, size_data]
  rw [size_data] at hlen
  rw [← ht] at HT
  have h1 : (t.size : Int) ≤ (s.size : Int) := by omega
  have HX : Hid (Value.string (s.extract 0 (s.size - t.size)) = strL (s.data.toList.takeWhile p)) := Lib.hid (by
    rw [show s.size - t.size = (s.data.toList.takeWhile p).length from by omega]
    exact extract_take s p)
  have HL := Lib.hid htl
  have c0 := Rw.cell h (j := 0) rfl
  have HR := Lib.hid h
  clear h ho hts hlen ht htl hp
  go_enter Tryz.func70, Tryz.ntmps70
  go_wp2_with fail
  refine (HT.out _).mono ?_
  rintro e w1 ⟨rfl, hb⟩
  have HR1 := Lib.hid (Rw.below HR.out hb)
  have HK1 := Lib.hid (kept_below (F := fun k => k = g) hb)
  have f1 := Rw.free HR1.out 0
  have c1 := Rw.cell HR1.out (j := 0) rfl
  clear hb
  go_wp2_with fail
  go_ret
  obtain ⟨r1, r2⟩ := rw_store HR1.out 0 (.string t) HK1.out rfl
  refine ⟨?_, ?_⟩
  · rw [← HX.out]
    rfl
  · rw [← HL.out, RestV, strL_data]
    exact ⟨by first | exact r1 | simpa using r1, r2⟩

theorem snext_no {w : World} {g : Nat} {T : TypeId} {cs : List Value} (s m : ByteArray) (h : Rw w 0 g T (.string s :: cs)) (hn : m.data.toList.isPrefixOf s.data.toList = false) :
    Calls Tryz.prog 72 #[.pointer (some ⟨g, 0, none⟩), .string m] w fun e w' => e = .returned (.bool false) ∧ RestV w w' g T cs s.data.toList := by
  have HC := Lib.hid (fun W => Tryz.strings_CutPrefix s m W)
  rw [show Lib.trimPrefix s.data.toList m.data.toList = s.data.toList from by unfold Lib.trimPrefix Lib.hasPrefix; rw [hn]; rfl, show Lib.hasPrefix s.data.toList m.data.toList = false from hn, show (⟨s.data.toList.toArray⟩ : ByteArray) = s from by cases s; rfl] at HC
  have c0 := Rw.cell h (j := 0) rfl
  have f0 := Rw.free h 0
  have HR := Lib.hid h
  clear h hn
  go_enter Tryz.func72, Tryz.ntmps72
  go_wp2_with fail
  refine (HC.out _).mono ?_
  rintro e w1 ⟨rfl, rfl⟩
  go_wp2_with fail
  go_ret
  obtain ⟨r1, r2⟩ := rw_store HR.out 0 (.string s) (kept_refl (fun k => k = g) _) rfl
  refine ⟨rfl, ?_⟩
  rw [RestV, strL_data]
  exact ⟨by first | exact r1 | simpa using r1, r2⟩

theorem snext_yes {w : World} {g : Nat} {T : TypeId} {cs : List Value} (s m : ByteArray) (h : Rw w 0 g T (.string s :: cs)) (hn : m.data.toList.isPrefixOf s.data.toList = true) :
    Calls Tryz.prog 72 #[.pointer (some ⟨g, 0, none⟩), .string m] w fun e w' => e = .returned (.bool true) ∧ RestV w w' g T cs (s.data.toList.drop m.size) := by
  have HC := Lib.hid (fun W => Tryz.strings_CutPrefix s m W)
  rw [show Lib.trimPrefix s.data.toList m.data.toList = s.data.toList.drop m.size from by unfold Lib.trimPrefix Lib.hasPrefix; rw [hn, size_data]; rfl, show Lib.hasPrefix s.data.toList m.data.toList = true from hn] at HC
  obtain ⟨t, ht⟩ : ∃ t : ByteArray, t = ⟨(s.data.toList.drop m.size).toArray⟩ := ⟨_, rfl⟩
  have htl : t.data.toList = s.data.toList.drop m.size := by rw [ht]
  rw [← ht] at HC
  have HL := Lib.hid htl
  have c0 := Rw.cell h (j := 0) rfl
  have f0 := Rw.free h 0
  have HR := Lib.hid h
  clear h hn ht htl
  go_enter Tryz.func72, Tryz.ntmps72
  go_wp2_with fail
  refine (HC.out _).mono ?_
  rintro e w1 ⟨rfl, rfl⟩
  go_wp2_with fail
  go_ret
  obtain ⟨r1, r2⟩ := rw_store HR.out 0 (.string t) (kept_refl (fun k => k = g) _) rfl
  refine ⟨rfl, ?_⟩
  rw [← HL.out, RestV, strL_data]
  exact ⟨by first | exact r1 | simpa using r1, r2⟩

theorem send_any {w : World} {g : Nat} {T : TypeId} {cs : List Value} (s : ByteArray) (h : Rw w 0 g T (.string s :: cs)) :
    Calls Tryz.prog 35 #[.pointer (some ⟨g, 0, none⟩)] w fun e w' => e = .returned (.bool (decide (s.data.toList = []))) ∧ w' = w := by
  have c0 := Rw.cell h (j := 0) rfl
  clear h
  by_cases h0 : s.size = 0
  · have he := emptyYes h0
    have hd : decide (s.data.toList = []) = true := decide_eq_true (List.eq_nil_of_length_eq_zero (by rw [size_data]; exact h0))
    rw [hd]
    clear h0 hd
    go_enter Tryz.func35, Tryz.ntmps35
    go_wp2_with fail
    go_ret
    exact ⟨by first | exact ret_bool he | (rw [he]; rfl) | rfl, rfl⟩
  · have he := emptyNo h0
    have hd : decide (s.data.toList = []) = false := decide_eq_false (ne_of_size h0)
    rw [hd]
    clear h0 hd
    go_enter Tryz.func35, Tryz.ntmps35
    go_wp2_with fail
    go_ret
    exact ⟨by first | exact ret_bool he | (rw [he]; rfl) | rfl, rfl⟩

theorem all_drop (p : UInt8 → Bool) : ∀ l : List UInt8, l.all p = decide (l.dropWhile p = [])
  | [] => rfl
  | c :: r => by
    by_cases hc : p c = true
    · rw [List.all_cons, hc, Bool.true_and, all_drop p r, List.dropWhile_cons_of_pos hc]
    · have hc' : p c = false := by simpa using hc
      rw [List.all_cons, hc', Bool.false_and, List.dropWhile_cons_of_neg hc]
      rfl

theorem samong_any (s of : ByteArray) (ho : asciiB of) (h8 : of.size ≤ 100) (p : UInt8 → Bool) (hp : ∀ c, hasB of.data.toList c = p c) (w : World) :
    Calls Tryz.prog 71 #[.string s, .string of] w fun e w' => e = .returned (.bool (s.data.toList.all p)) ∧ Below w.heap.size w w' := by
  have HT := Lib.hid (fun W => Tryz.strings_TrimLeft s of W (by omega) (fun j b hj => ho b (List.mem_of_getElem? hj)))
  rw [trim_class _ _ hp] at HT
  obtain ⟨t, ht⟩ : ∃ t : ByteArray, t = ⟨(s.data.toList.dropWhile p).toArray⟩ := ⟨_, rfl⟩
  have htl : t.data.toList = s.data.toList.dropWhile p := by rw [ht]
  rw [← ht] at HT
  have hiff : s.data.toList.all p = decide (t.data.toList = []) := by
    rw [htl, all_drop]
  rw [hiff]
  clear hiff htl ht hp ho
  by_cases h0 : t.data.toList = []
  · have hz : t.size = 0 := by rw [← size_data, h0]; rfl
    have he := emptyYes hz
    rw [decide_eq_true h0]
    clear h0 hz
    go_enter Tryz.func71, Tryz.ntmps71
    go_wp2_with fail
    refine (HT.out _).mono ?_
    rintro e w1 ⟨rfl, hb⟩
    go_wp2_with fail
    go_ret
    exact ⟨rfl, hb⟩
  · have hz : t.size ≠ 0 := fun e => h0 (List.eq_nil_of_length_eq_zero (by rw [size_data]; exact e))
    have he := emptyNo hz
    rw [decide_eq_false h0]
    clear h0 hz
    go_enter Tryz.func71, Tryz.ntmps71
    go_wp2_with fail
    refine (HT.out _).mono ?_
    rintro e w1 ⟨rfl, hb⟩
    go_wp2_with fail
    go_ret
    exact ⟨rfl, hb⟩

theorem squoted_any (s : ByteArray) (hs : s.size ≤ 1073741824) (w : World) :
    Calls Tryz.prog 32 #[.string s] w fun e w' => e = .returned (.bool (quoB s.data.toList)) ∧ w' = w := by
  by_cases h2 : 2 ≤ s.size
  · have hks : 0 < s.size := by omega
    have hkl : s.size - 1 < s.size := by omega
    have hh := head_of s hks
    have hg : s.data.toList.getLast? = some (s[s.size - 1]'hkl) := by
      rw [List.getLast?_eq_getElem?, size_data, List.getElem?_eq_getElem (by rw [size_data]; exact hkl)]
      rfl
    obtain ⟨a, ha⟩ : ∃ a : UInt8, s[0] = a := ⟨_, rfl⟩
    rw [ha] at hh
    have hq : quoB s.data.toList = (decide (a.toNat = 39) && decide ((s[s.size - 1]'hkl).toNat = 39)) := by
      unfold quoB
      rw [size_data, decide_eq_true h2, hh, hg, Bool.true_and]
      congr 1
      · rw [Bool.eq_iff_iff, decide_eq_true_eq, decide_eq_true_eq]
        exact ⟨fun e => by injection e with e; rw [e]; rfl, fun e => by congr 1; exact UInt8.toNat_inj.1 e⟩
      · rw [Bool.eq_iff_iff, decide_eq_true_eq, decide_eq_true_eq]
        exact ⟨fun e => by injection e with e; rw [e]; rfl, fun e => by congr 1; exact UInt8.toNat_inj.1 e⟩
    rw [hq]
    have hl2 : (2 : Int) ≤ (s.size : Int) := by omega
    have hl0 : (0 : Int) < (s.size : Int) := by omega
    clear hh hg hq
    by_cases ha39 : a.toNat = 39
    · have q : ((a.toNat : Int) == 39) = true := by rw [beq_iff_eq]; omega
      by_cases hb39 : (s[s.size - 1]'hkl).toNat = 39
      · have q2 : (((s[s.size - 1]'hkl).toNat : Int) == 39) = true := by rw [beq_iff_eq]; omega
        rw [decide_eq_true ha39, decide_eq_true hb39]
        clear ha39 hb39
        go_enter Tryz.func32, Tryz.ntmps32
        go_wp2_with fail
        go_ret
        exact ⟨by first | exact ret_bool q2 | (rw [q2]; rfl) | rfl, rfl⟩
      · have q2 : (((s[s.size - 1]'hkl).toNat : Int) == 39) = false := by rw [beq_eq_false_iff_ne]; omega
        rw [decide_eq_true ha39, decide_eq_false hb39]
        clear ha39 hb39
        go_enter Tryz.func32, Tryz.ntmps32
        go_wp2_with fail
        go_ret
        exact ⟨by first | exact ret_bool q2 | (rw [q2]; rfl) | rfl, rfl⟩
    · have q : ((a.toNat : Int) == 39) = false := by rw [beq_eq_false_iff_ne]; omega
      rw [decide_eq_false ha39, Bool.false_and]
      clear ha39
      go_enter Tryz.func32, Tryz.ntmps32
      go_wp2_with fail
      go_ret
      exact ⟨rfl, rfl⟩
  · have hq : quoB s.data.toList = false := by
      unfold quoB
      rw [size_data, decide_eq_false h2]
      rfl
    rw [hq]
    have hl2 : ¬ (2 : Int) ≤ (s.size : Int) := by omega
    clear hq h2
    go_enter Tryz.func32, Tryz.ntmps32
    go_wp2_with fail
    go_ret
    exact ⟨rfl, rfl⟩

theorem schSet_ascii : asciiB ⟨schSet.toArray⟩ := by
  have h : schSet.all (fun b => decide (b.toNat < 128)) = true := by decide
  intro b hb
  exact of_decide_eq_true (List.all_eq_true.1 h b hb)

theorem letSet_ascii : asciiB ⟨letSet.toArray⟩ := by
  have h : letSet.all (fun b => decide (b.toNat < 128)) = true := by decide
  intro b hb
  exact of_decide_eq_true (List.all_eq_true.1 h b hb)

theorem labSet_ascii : asciiB ⟨labSet.toArray⟩ := by
  have h : labSet.all (fun b => decide (b.toNat < 128)) = true := by decide
  intro b hb
  exact of_decide_eq_true (List.all_eq_true.1 h b hb)

theorem hosSet_ascii : asciiB ⟨hosSet.toArray⟩ := by
  have h : hosSet.all (fun b => decide (b.toNat < 128)) = true := by decide
  intro b hb
  exact of_decide_eq_true (List.all_eq_true.1 h b hb)

theorem digSet_ascii : asciiB ⟨digSet.toArray⟩ := by
  have h : digSet.all (fun b => decide (b.toNat < 128)) = true := by decide
  intro b hb
  exact of_decide_eq_true (List.all_eq_true.1 h b hb)

theorem rest_restore {w w1 : World} {g : Nat} {T : TypeId} {cs : List Value} {l : List UInt8} (h : RestV w w1 g T cs l) (s : ByteArray) : RestV w (w1.setCell ⟨g, 0, none⟩ (.string s)) g T cs s.data.toList := by
  obtain ⟨r1, r2⟩ := rw_store h.1 0 (.string s) h.2 rfl
  rw [RestV, strL_data]
  exact ⟨by first | exact r1 | simpa using r1, r2⟩

theorem letH_take (s : ByteArray) (S : ByteArray) (hS : S.data.toList = s.data.toList.takeWhile schB) (h0 : S.size ≠ 0) : (S.extract 0 1).data.toList.all (fun c => isLet c.toNat) = letH s.data.toList := by
  have h1 : (S.extract 0 1).data.toList = S.data.toList.take 1 := by rw [extract_list, List.drop_zero]
  rw [h1, hS]
  have hne : s.data.toList.takeWhile schB ≠ [] := by
    intro e
    apply h0
    rw [← size_data, hS, e]
    rfl
  cases hl : s.data.toList with
  | nil => rw [hl] at hne; exact absurd rfl hne
  | cons c r =>
    rw [hl] at hne
    by_cases hc : schB c = true
    · rw [List.takeWhile_cons_of_pos hc]
      simp [letH]
    · rw [List.takeWhile_cons_of_neg hc] at hne
      exact absurd rfl hne

theorem letH_none {l : List UInt8} (h : l.takeWhile schB = []) : letH l = false := by
  cases l with
  | nil => rfl
  | cons c r =>
    cases hc : isLet c.toNat with
    | false => exact hc
    | true =>
      rw [List.takeWhile_cons_of_pos (let_sch hc)] at h
      cases h

set_option maxHeartbeats 2000000 in
theorem sscheme_no {w : World} {g : Nat} {k v2 v3 v4 v5 : Value} (s m : ByteArray) (hs : s.size ≤ 1048576) (h : Rw w 0 g 52 [.string s, k, v2, v3, v4, v5])
    (hn : (letH s.data.toList && m.data.toList.isPrefixOf (s.data.toList.drop (schT s.data.toList))) = false) :
    Calls Tryz.prog 34 #[.pointer (some ⟨g, 0, none⟩), .string m] w fun e w' => e = .returned (.bool false) ∧ RestV w w' g 52 [k, v2, v3, v4, v5] s.data.toList := by
  have HT := Lib.hid (stake_any s ⟨schSet.toArray⟩ (by omega) schSet_ascii (by decide) schB sch_set h)
  obtain ⟨S, hS⟩ : ∃ S : ByteArray, S = ⟨(s.data.toList.takeWhile schB).toArray⟩ := ⟨_, rfl⟩
  have hSl : S.data.toList = s.data.toList.takeWhile schB := by rw [hS]
  obtain ⟨R, hR⟩ : ∃ R : ByteArray, R = ⟨(s.data.toList.dropWhile schB).toArray⟩ := ⟨_, rfl⟩
  have hRl : R.data.toList = s.data.toList.dropWhile schB := by rw [hR]
  rw [← hSl, ← hRl, strL_data] at HT
  have hRd : R.data.toList = s.data.toList.drop (schT s.data.toList) := by rw [hRl]; exact (tw_len_drop _ _).symm
  have c0 := Rw.cell h (j := 0) rfl
  by_cases h0 : S.size = 0
  · have he := emptyYes h0
    clear hn hS hR hRd hRl hSl h h0
    go_enter Tryz.func34, Tryz.ntmps34
    go_wp2_with fail
    refine HT.out.mono ?_
    rintro e w1 ⟨rfl, hv1⟩
    have HV1 := Lib.hid hv1
    have f1 := Rw.free hv1.1 0
    have c1 := Rw.cell hv1.1 (j := 0) rfl
    clear hv1
    go_wp2_with fail
    go_ret
    exact ⟨rfl, rest_restore HV1.out s⟩
  · have he := emptyNo h0
    have hlt := letH_take s S hSl h0
    have HA := Lib.hid (fun W => samong_any (S.extract 0 1) ⟨letSet.toArray⟩ letSet_ascii (by decide) (fun c => isLet c.toNat) let_set W)
    rw [hlt] at HA
    have hs1 : (1 : Int) ≤ (S.size : Int) := by omega
    by_cases hl : letH s.data.toList = true
    · rw [hl] at HA hn
      rw [Bool.true_and, ← hRd] at hn
      have HN := Lib.hid hn
      clear hn hS hR hRd hRl hSl h h0 hlt hl
      go_enter Tryz.func34, Tryz.ntmps34
      go_wp2_with fail
      refine HT.out.mono ?_
      rintro e w1 ⟨rfl, hv1⟩
      have HV1 := Lib.hid hv1
      clear hv1
      go_wp2_with fail
      refine (HA.out _).mono ?_
      rintro e w2 ⟨rfl, hb2⟩
      have HV2 := Lib.hid (rest_below HV1.out hb2)
      have hrow := HV2.out.1
      rw [strL_data] at hrow
      have HX := Lib.hid (snext_no R m hrow HN.out)
      clear hb2 hrow
      go_wp2_with fail
      refine HX.out.mono ?_
      rintro e w3 ⟨rfl, hv3⟩
      have HV3 := Lib.hid (rest_trans HV2.out hv3)
      have f1 := Rw.free hv3.1 0
      have c1 := Rw.cell hv3.1 (j := 0) rfl
      clear hv3
      go_wp2_with fail
      go_ret
      exact ⟨rfl, rest_restore HV3.out s⟩
    · have hl' : letH s.data.toList = false := by simpa using hl
      rw [hl'] at HA
      clear hn hS hR hRd hRl hSl h h0 hlt hl hl'
      go_enter Tryz.func34, Tryz.ntmps34
      go_wp2_with fail
      refine HT.out.mono ?_
      rintro e w1 ⟨rfl, hv1⟩
      have HV1 := Lib.hid hv1
      clear hv1
      go_wp2_with fail
      refine (HA.out _).mono ?_
      rintro e w2 ⟨rfl, hb2⟩
      have HV2 := Lib.hid (rest_below HV1.out hb2)
      have f1 := Rw.free HV2.out.1 0
      have c1 := Rw.cell HV2.out.1 (j := 0) rfl
      clear hb2
      go_wp2_with fail
      go_ret
      exact ⟨rfl, rest_restore HV2.out s⟩

set_option maxHeartbeats 2000000 in
theorem sscheme_yes {w : World} {g : Nat} {k v2 v3 v4 v5 : Value} (s m : ByteArray) (hs : s.size ≤ 1048576) (h : Rw w 0 g 52 [.string s, k, v2, v3, v4, v5])
    (hn : (letH s.data.toList && m.data.toList.isPrefixOf (s.data.toList.drop (schT s.data.toList))) = true) :
    Calls Tryz.prog 34 #[.pointer (some ⟨g, 0, none⟩), .string m] w fun e w' => e = .returned (.bool true) ∧ RestV w w' g 52 [k, strL (lowL (s.data.toList.take (schT s.data.toList))), v3, v4, v5] (s.data.toList.drop (schT s.data.toList + m.size)) := by
  have HT := Lib.hid (stake_any s ⟨schSet.toArray⟩ (by omega) schSet_ascii (by decide) schB sch_set h)
  obtain ⟨S, hS⟩ : ∃ S : ByteArray, S = ⟨(s.data.toList.takeWhile schB).toArray⟩ := ⟨_, rfl⟩
  have hSl : S.data.toList = s.data.toList.takeWhile schB := by rw [hS]
  obtain ⟨R, hR⟩ : ∃ R : ByteArray, R = ⟨(s.data.toList.dropWhile schB).toArray⟩ := ⟨_, rfl⟩
  have hRl : R.data.toList = s.data.toList.dropWhile schB := by rw [hR]
  rw [← hSl, ← hRl, strL_data] at HT
  have hRd : R.data.toList = s.data.toList.drop (schT s.data.toList) := by rw [hRl]; exact (tw_len_drop _ _).symm
  have hSt : S.data.toList = s.data.toList.take (schT s.data.toList) := by rw [hSl]; exact (tw_len_take _ _).symm
  have c0 := Rw.cell h (j := 0) rfl
  rw [Bool.and_eq_true] at hn
  obtain ⟨hl, hm⟩ := hn
  have h0 : S.size ≠ 0 := by
    intro e
    rw [letH_none (by rw [← hSl]; exact List.eq_nil_of_length_eq_zero (by rw [size_data]; exact e))] at hl
    cases hl
  have he := emptyNo h0
  have hlt := letH_take s S hSl h0
  have HA := Lib.hid (fun W => samong_any (S.extract 0 1) ⟨letSet.toArray⟩ letSet_ascii (by decide) (fun c => isLet c.toNat) let_set W)
  rw [hlt, hl] at HA
  have hs1 : (1 : Int) ≤ (S.size : Int) := by omega
  have hSs : S.size ≤ 1048576 := by
    rw [← size_data, hSl]
    exact Nat.le_trans (List.takeWhile_prefix _).length_le (by rw [size_data]; exact hs)
  have HL := Lib.hid (fun W => lower_str_any S (by omega) W)
  obtain ⟨x, hx⟩ : ∃ x : ByteArray, x = ⟨(lowL S.data.toList).toArray⟩ := ⟨_, rfl⟩
  rw [← hx] at HL
  have HXL : Hid (Value.string x = strL (lowL (s.data.toList.take (schT s.data.toList)))) := Lib.hid (by rw [hx, ← hSt]; rfl)
  rw [← hRd] at hm
  have HM := Lib.hid hm
  have HRD : Hid (R.data.toList.drop m.size = s.data.toList.drop (schT s.data.toList + m.size)) := Lib.hid (by rw [hRd, List.drop_drop])
  clear hm hS hR hRd hRl hSl hSt h h0 hlt hl hSs hx
  go_enter Tryz.func34, Tryz.ntmps34
  go_wp2_with fail
  refine HT.out.mono ?_
  rintro e w1 ⟨rfl, hv1⟩
  have HV1 := Lib.hid hv1
  clear hv1
  go_wp2_with fail
  refine (HA.out _).mono ?_
  rintro e w2 ⟨rfl, hb2⟩
  have HV2 := Lib.hid (rest_below HV1.out hb2)
  have hrow := HV2.out.1
  rw [strL_data] at hrow
  have HX := Lib.hid (snext_yes R m hrow HM.out)
  clear hb2 hrow
  go_wp2_with fail
  refine HX.out.mono ?_
  rintro e w3 ⟨rfl, hv3⟩
  have HV3 := Lib.hid (rest_trans HV2.out hv3)
  clear hv3
  go_wp2_with fail
  refine (HL.out _).mono ?_
  rintro e w4 ⟨rfl, hb4⟩
  have HV4 := Lib.hid (rest_below HV3.out hb4)
  have f1 := Rw.free HV4.out.1 2
  have c1 := Rw.cell HV4.out.1 (j := 2) rfl
  clear hb4
  go_wp2_with fail
  go_ret
  have hp := rest_put HV4.out 1 (.string x)
  rw [HRD.out] at hp
  refine ⟨rfl, ?_⟩
  rw [← HXL.out]
  exact hp

theorem good_step {ls : List (List UInt8)} {k : Nat} {x : List UInt8} (h : ls[k]? = some x) (hk : (ls.take k).all (fun p => decide (p ≠ []) && p.all labB) = true) :
    (ls.take (k + 1)).all (fun p => decide (p ≠ []) && p.all labB) = (decide (x ≠ []) && x.all labB) := by
  rw [take_succ_of h, List.all_append, hk, Bool.true_and, List.all_cons, List.all_nil, Bool.and_true]

theorem good_bad {ls : List (List UInt8)} {k : Nat} {x : List UInt8} (h : ls[k]? = some x) (hb : (decide (x ≠ []) && x.all labB) = false) : ls.all (fun p => decide (p ≠ []) && p.all labB) = false := by
  rw [← Bool.not_eq_true, List.all_eq_true]
  intro ha
  have := ha x (List.mem_of_getElem? h)
  rw [hb] at this
  cases this

set_option maxHeartbeats 2000000 in
theorem slabels_any (s : ByteArray) (hs : s.size ≤ 1048576) (w : World) :
    Calls Tryz.prog 74 #[.string s] w fun e w' => e = .returned (.bool (goodH s.data.toList)) ∧ Below w.heap.size w w' := by
  have HS := Lib.hid (fun W => split_any s 46 (by omega) W)
  obtain ⟨ls, hls⟩ : ∃ ls, ls = splitL s.data.toList 46 := ⟨_, rfl⟩
  have hll : ls.length ≤ 1048577 := by rw [hls]; exact Nat.le_trans (splitL_len _ _) (by rw [size_data]; omega)
  obtain ⟨R, hR⟩ : ∃ R, R = goodH s.data.toList := ⟨_, rfl⟩
  have HR : Hid (R = ls.all (fun p => decide (p ≠ []) && p.all labB)) := Lib.hid (by rw [hR, hls]; rfl)
  rw [← hR]
  rw [← hls] at HS
  clear hls hR hs
  obtain ⟨n, hn⟩ : ∃ n, n = ls.length := ⟨_, rfl⟩
  have HNN := Lib.hid hn
  have HNB := Lib.hid hll
  go_enter Tryz.func74, Tryz.ntmps74
  go_wp2_with fail
  refine (HS.out _).mono ?_
  rintro e w1 ⟨⟨pv, rfl, hown⟩, hb1⟩
  have hps0 := strSl_own hown
  obtain ⟨pa, pc, rfl⟩ := own_len hown
  rw [← hn] at hps0 ⊢
  have HO := Lib.hid hps0
  have HB1 := Lib.hid hb1
  clear hown hb1 hn hps0 hll
  go_wp2_with fail
  go_loopw [8] (fun j wr => ∃ k : Nat, k ≤ n ∧ j = .int .i64 k ∧ Hid ((ls.take k).all (fun p => decide (p ≠ []) && p.all labB) = true) ∧ Hid (Below w.heap.size w wr) ∧ Hid (StrSl wr (.slice pa n pc) ls)) (fun j _ => n - (intOf j).toNat)
  case atStart => exact ⟨0, Nat.zero_le _, rfl, Lib.hid rfl, HB1, HO⟩
  case round =>
    obtain ⟨k, hk, rfl, HG9, HB9, HC9⟩ := hrel
    obtain ⟨w2, hw2⟩ : ∃ w2 : World, w2 = wr := ⟨_, rfl⟩
    subst hw2
    by_cases hlt : k < n
    · obtain ⟨P, hPk⟩ : ∃ P : ByteArray, ls[k]? = some P.data.toList := by
        obtain ⟨x, hx⟩ : ∃ x, ls[k]? = some x := ⟨_, List.getElem?_eq_getElem (by rw [← HNN.out]; exact hlt)⟩
        exact ⟨⟨x.toArray⟩, hx⟩
      obtain ⟨a, c, he, hcs⟩ := strSl_at HC9.out
      rcases hcs with hnil | ⟨b, o, hb, hat⟩
      · exact absurd (show ls.length = 0 by rw [List.map_eq_nil_iff.1 hnil]; rfl) (by have := HNN.out; omega)
      subst hb
      injection he with e1 e2 e3
      subst e1 e3
      clear e2
      have c0 : w2.cell? ⟨b, o + k, none⟩ = some (.string P) := hat k (.string P) (by rw [List.getElem?_map, hPk]; show some (strL _) = _; rw [strL_data])
      have hki : (k : Int) < (n : Int) := by omega
      have hk6 : (k : Int) < 1048578 := by have h1 := HNB.out; have h2 := HNN.out; omega
      have HS1 := Lib.hid (good_step hPk HG9.out)
      by_cases h0 : P.size = 0
      · have hy := emptyYes h0
        have HF : Hid (R = false) := Lib.hid (by
          rw [HR.out]
          refine good_bad hPk ?_
          have : P.data.toList = [] := List.eq_nil_of_length_eq_zero (by rw [size_data]; exact h0)
          rw [this]
          rfl)
        clear hat hPk h0 HS1
        go_wp2_with fail
        go_ret
        rw [HF.out]
        exact ⟨rfl, HB9.out⟩
      · have hy := emptyNo h0
        have hne : P.data.toList ≠ [] := ne_of_size h0
        have HA := Lib.hid (fun W => samong_any P ⟨labSet.toArray⟩ labSet_ascii (by decide) labB lab_set W)
        cases hq : P.data.toList.all labB
        · have HF : Hid (R = false) := Lib.hid (by
            rw [HR.out]
            refine good_bad hPk ?_
            rw [hq, Bool.and_false])
          rw [hq] at HA
          clear hat hPk h0 HS1 hne hq
          go_wp2_with fail
          refine (HA.out _).mono ?_
          rintro e w3 ⟨rfl, hb3⟩
          have HB3 := Lib.hid (below_then HB9.out hb3)
          clear hb3
          go_wp2_with fail
          go_ret
          rw [HF.out]
          exact ⟨rfl, HB3.out⟩
        · have HT : Hid ((ls.take (k + 1)).all (fun p => decide (p ≠ []) && p.all labB) = true) := Lib.hid (by
            rw [HS1.out, hq, decide_eq_true hne]
            rfl)
          rw [hq] at HA
          clear hat hPk h0 HS1 hne hq
          go_wp2_with fail
          refine (HA.out _).mono ?_
          rintro e w3 ⟨rfl, hb3⟩
          have HB3 := Lib.hid (below_then HB9.out hb3)
          have HC3 := Lib.hid (strSl_below HC9.out hb3)
          clear hb3
          go_wp2_with fail
          go_roundw
          case rel => exact ⟨k + 1, by omega, by go_num, HT, HB3, HC3⟩
          case measure => simp [intOf]; omega
    · have hkn : k = n := by omega
      have HT : Hid (R = true) := Lib.hid (by
        rw [HR.out]
        have h1 := HG9.out
        rw [List.take_of_length_le (by rw [← HNN.out]; omega)] at h1
        exact h1)
      have hge : ¬ (k : Int) < (n : Int) := by omega
      clear hlt hkn
      go_wp2_with fail
      go_ret
      rw [HT.out]
      exact ⟨rfl, HB9.out⟩

theorem trim_star (h : List UInt8) : Lib.trimPrefix h [42, 46] = trimS h := by
  unfold Lib.trimPrefix Lib.hasPrefix trimS
  rw [take_pre]
  by_cases e : h.take 2 = [42, 46]
  · rw [if_pos e, if_pos (by simp [e])]
    rfl
  · rw [if_neg e, if_neg (by simp [e])]

set_option maxHeartbeats 2000000 in
theorem shost_any {w : World} {g : Nat} {k v2 v3 v4 v5 : Value} (t : ByteArray) (hs : t.size ≤ 1048576) (h : Rw w 0 g 52 [.string t, k, v2, v3, v4, v5]) :
    Calls Tryz.prog 37 #[.pointer (some ⟨g, 0, none⟩)] w fun e w' => e = .returned (.bool (okH (t.data.toList.take (hosK t.data.toList)))) ∧ RestV w w' g 52 [k, v2, strL (lowL (t.data.toList.take (hosK t.data.toList))), v4, v5] (t.data.toList.drop (hosK t.data.toList)) := by
  have HT := Lib.hid (stake_any t ⟨hosSet.toArray⟩ (by omega) hosSet_ascii (by decide) hosB hos_set h)
  obtain ⟨S, hS⟩ : ∃ S : ByteArray, S = ⟨(t.data.toList.takeWhile hosB).toArray⟩ := ⟨_, rfl⟩
  have hSl : S.data.toList = t.data.toList.takeWhile hosB := by rw [hS]
  obtain ⟨R, hR⟩ : ∃ R : ByteArray, R = ⟨(t.data.toList.dropWhile hosB).toArray⟩ := ⟨_, rfl⟩
  have hRl : R.data.toList = t.data.toList.dropWhile hosB := by rw [hR]
  rw [← hSl, ← hRl, strL_data] at HT
  have hRd : R.data.toList = t.data.toList.drop (hosK t.data.toList) := by rw [hRl]; exact (tw_len_drop _ _).symm
  have hSt : S.data.toList = t.data.toList.take (hosK t.data.toList) := by rw [hSl]; exact (tw_len_take _ _).symm
  have hSs : S.size ≤ 1048576 := by
    rw [← size_data, hSl]
    exact Nat.le_trans (List.takeWhile_prefix _).length_le (by rw [size_data]; exact hs)
  have HL := Lib.hid (fun W => lower_str_any S (by omega) W)
  obtain ⟨x, hx⟩ : ∃ x : ByteArray, x = ⟨(lowL S.data.toList).toArray⟩ := ⟨_, rfl⟩
  rw [← hx] at HL
  rw [← hSt, ← hRd]
  have HXL : Hid (Value.string x = strL (lowL S.data.toList)) := Lib.hid (by rw [hx]; rfl)
  have HTP := Lib.hid (fun W => Tryz.strings_TrimPrefix S ⟨#[42, 46]⟩ W)
  rw [show (⟨#[42, 46]⟩ : ByteArray).data.toList = [42, 46] from rfl, trim_star] at HTP
  obtain ⟨q, hq⟩ : ∃ q : ByteArray, q = ⟨(trimS S.data.toList).toArray⟩ := ⟨_, rfl⟩
  have hql : q.data.toList = trimS S.data.toList := by rw [hq]
  rw [← hq] at HTP
  have hqs : q.size ≤ 1048576 := by
    rw [← size_data, hql]
    unfold trimS
    split
    · rw [List.length_drop, size_data]; omega
    · rw [size_data]; exact hSs
  have HLB := Lib.hid (fun W => slabels_any q hqs W)
  rw [hql] at HLB
  obtain ⟨B, hB⟩ : ∃ B, B = goodH (trimS S.data.toList) := ⟨_, rfl⟩
  rw [← hB] at HLB
  by_cases h42 : S.data.toList = [42]
  · have y := lit_yes h42
    have HK : Hid (okH S.data.toList = true) := Lib.hid (by unfold okH; rw [decide_eq_true h42]; rfl)
    clear HTP HLB hB hq hql hqs h42 hSt hRd hRl hSl hS hR hSs h hx
    go_enter Tryz.func37, Tryz.ntmps37
    go_wp2_with fail
    refine HT.out.mono ?_
    rintro e w1 ⟨rfl, hv1⟩
    have HV1 := Lib.hid hv1
    clear hv1
    go_wp2_with fail
    refine (HL.out _).mono ?_
    rintro e w2 ⟨rfl, hb2⟩
    have HV2 := Lib.hid (rest_below HV1.out hb2)
    have f1 := Rw.free HV2.out.1 3
    have c1 := Rw.cell HV2.out.1 (j := 3) rfl
    clear hb2
    go_wp2_with fail
    go_ret
    rw [HK.out, ← HXL.out]
    exact ⟨rfl, rest_put HV2.out 2 (.string x)⟩
  · have y := lit_no h42
    have HK : Hid (okH S.data.toList = B) := Lib.hid (by unfold okH; rw [decide_eq_false h42, hB, Bool.false_or])
    clear hB hq hql hqs h42 hSt hRd hRl hSl hS hR hSs h hx
    go_enter Tryz.func37, Tryz.ntmps37
    go_wp2_with fail
    refine HT.out.mono ?_
    rintro e w1 ⟨rfl, hv1⟩
    have HV1 := Lib.hid hv1
    clear hv1
    go_wp2_with fail
    refine (HL.out _).mono ?_
    rintro e w2 ⟨rfl, hb2⟩
    have HV2 := Lib.hid (rest_below HV1.out hb2)
    have f1 := Rw.free HV2.out.1 3
    have c1 := Rw.cell HV2.out.1 (j := 3) rfl
    have HV3 := Lib.hid (rest_put HV2.out 2 (.string x))
    clear hb2
    go_wp2_with fail
    refine (HTP.out _).mono ?_
    rintro e w3 ⟨rfl, rfl⟩
    go_wp2_with fail
    refine (HLB.out _).mono ?_
    rintro e w4 ⟨rfl, hb4⟩
    have HV4 := Lib.hid (rest_below HV3.out hb4)
    clear hb4
    go_wp2_with fail
    go_ret
    rw [HK.out, ← HXL.out]
    exact ⟨rfl, HV4.out⟩

/-- What a port has left, if it is one. -/
def PortV (w w' : World) (g : Nat) (k v2 v3 v5 : Value) (e : Ending) (s : List UInt8) : Prop :=
  e = .returned (.bool (prtN s).isSome) ∧ ∃ r p, RestV w w' g 52 [k, v2, v3, strL p, v5] r ∧ (∀ m, prtN s = some m → r = s.drop m ∧ p = (s.take m).drop 1)

theorem pre_one (c : UInt8) (l : List UInt8) : ([c] : List UInt8).isPrefixOf l = decide (l.head? = some c) := by
  cases l with
  | nil => rfl
  | cons d r =>
    by_cases h : d = c
    · subst h
      simp [List.isPrefixOf]
    · simp [List.isPrefixOf, h, Ne.symm h]

set_option maxHeartbeats 2000000 in
theorem sport_any {w : World} {g : Nat} {k v2 v3 v5 : Value} (s : ByteArray) (hs : s.size ≤ 1048576) (h : Rw w 0 g 52 [.string s, k, v2, v3, .string ⟨#[]⟩, v5]) :
    Calls Tryz.prog 38 #[.pointer (some ⟨g, 0, none⟩)] w fun e w' => PortV w w' g k v2 v3 v5 e s.data.toList := by
  have hmk : (⟨#[58]⟩ : ByteArray).data.toList = [58] := rfl
  have hmk2 : (⟨#[42]⟩ : ByteArray).data.toList = [42] := rfl
  by_cases h58 : s.data.toList.head? = some 58
  · have HN := Lib.hid (snext_yes s ⟨#[58]⟩ h (by rw [hmk, pre_one, decide_eq_true h58]))
    rw [show (⟨#[58]⟩ : ByteArray).size = 1 from rfl] at HN
    obtain ⟨t, ht⟩ : ∃ t : ByteArray, t = ⟨(s.data.toList.drop 1).toArray⟩ := ⟨_, rfl⟩
    have htl : t.data.toList = s.data.toList.drop 1 := by rw [ht]
    have hts : t.size ≤ 1048576 := by rw [← size_data, htl, List.length_drop, size_data]; omega
    rw [← htl] at HN
    by_cases h42 : t.data.toList.head? = some 42
    · have HP : Hid (prtN s.data.toList = some 2) := Lib.hid (prt_star h58 (by rw [← htl]; exact h42))
      have HH : Hid (([42] : List UInt8).isPrefixOf t.data.toList = true) := Lib.hid (by rw [pre_one, decide_eq_true h42])
      have HD : Hid (t.data.toList.drop 1 = s.data.toList.drop 2 ∧ (s.data.toList.take 2).drop 1 = [42]) := Lib.hid (by
        refine ⟨by rw [htl, List.drop_drop], ?_⟩
        cases hl : s.data.toList with
        | nil => rw [hl] at h58; cases h58
        | cons c r =>
          rw [htl, hl] at h42
          cases r with
          | nil => cases h42
          | cons d u =>
            have : d = 42 := by simpa using h42
            subst this
            rfl)
      clear h58 h42 ht htl hts h hs
      go_enter Tryz.func38, Tryz.ntmps38
      go_wp2_with fail
      refine HN.out.mono ?_
      rintro e w1 ⟨rfl, hv1⟩
      have HV1 := Lib.hid hv1
      have hrow := hv1.1
      rw [strL_data] at hrow
      have HX := Lib.hid (snext_yes t ⟨#[42]⟩ hrow HH.out)
      rw [show (⟨#[42]⟩ : ByteArray).size = 1 from rfl] at HX
      clear hv1 hrow
      go_wp2_with fail
      refine HX.out.mono ?_
      rintro e w2 ⟨rfl, hv2⟩
      have HV2 := Lib.hid (rest_trans HV1.out hv2)
      have f1 := Rw.free HV2.out.1 4
      have c1 := Rw.cell HV2.out.1 (j := 4) rfl
      clear hv2
      go_wp2_with fail
      go_ret
      refine ⟨by rw [HP.out]; rfl, _, [42], rest_put HV2.out 3 (.string ⟨#[42]⟩), ?_⟩
      intro m hm
      rw [HP.out] at hm
      injection hm with hm
      subst hm
      exact ⟨HD.out.1, HD.out.2.symm⟩
    · have HP := Lib.hid (prt_digs h58 (by rw [← htl]; exact h42))
      rw [← htl] at HP
      have HH : Hid (([42] : List UInt8).isPrefixOf t.data.toList = false) := Lib.hid (by rw [pre_one, decide_eq_false h42])
      obtain ⟨D, hD⟩ : ∃ D : ByteArray, D = ⟨(t.data.toList.takeWhile (fun c => isDig c.toNat)).toArray⟩ := ⟨_, rfl⟩
      have hDl : D.data.toList = t.data.toList.takeWhile (fun c => isDig c.toNat) := by rw [hD]
      have HDS : Hid (strL (t.data.toList.takeWhile (fun c => isDig c.toNat)) = .string D) := Lib.hid (by rw [hD]; rfl)
      have hDn : D.size = digN t.data.toList := by rw [← size_data, hDl]; rfl
      rw [← hDn] at HP
      have hDs : D.size ≤ 1048576 := by
        rw [← size_data, hDl]
        exact Nat.le_trans (List.takeWhile_prefix _).length_le (by rw [size_data]; exact hts)
      have HD : Hid (t.data.toList.dropWhile (fun c => isDig c.toNat) = s.data.toList.drop (1 + D.size) ∧ (s.data.toList.take (1 + D.size)).drop 1 = D.data.toList) := Lib.hid (by
        constructor
        · rw [← List.drop_drop, ← htl, hDn]
          exact (tw_len_drop _ _).symm
        · rw [List.drop_take, ← htl, show 1 + D.size - 1 = D.size from by omega, hDn, hDl]
          exact tw_len_take _ _)
      have HTS := Lib.hid hts
      clear h58 h42 ht htl hts h hs hD hDl hDn
      go_enter Tryz.func38, Tryz.ntmps38
      go_wp2_with fail
      refine HN.out.mono ?_
      rintro e w1 ⟨rfl, hv1⟩
      have HV1 := Lib.hid hv1
      have hrow := hv1.1
      rw [strL_data] at hrow
      have HX := Lib.hid (snext_no t ⟨#[42]⟩ hrow HH.out)
      clear hv1 hrow
      go_wp2_with fail
      refine HX.out.mono ?_
      rintro e w2 ⟨rfl, hv2⟩
      have HV2 := Lib.hid (rest_trans HV1.out hv2)
      have hrow := HV2.out.1
      rw [strL_data] at hrow
      have HT := Lib.hid (stake_any t ⟨digSet.toArray⟩ (by have := HTS.out; omega) digSet_ascii (by decide) (fun c => isDig c.toNat) dig_set hrow)
      rw [HDS.out] at HT
      clear hv2 hrow
      go_wp2_with fail
      refine HT.out.mono ?_
      rintro e w3 ⟨rfl, hv3⟩
      have HV3 := Lib.hid (rest_trans HV2.out hv3)
      have f1 := Rw.free HV3.out.1 4
      have c1 := Rw.cell HV3.out.1 (j := 4) rfl
      have HV4 := Lib.hid (rest_put HV3.out 3 (.string D))
      obtain ⟨w4, hw4⟩ : ∃ w4, w4 = w3.setCell ⟨g, 3 + 1, none⟩ (.string D) := ⟨_, rfl⟩
      rw [← hw4] at HV4
      have hw4' : w3.setCell ⟨g, 4, none⟩ (.string D) = w4 := hw4.symm
      have c4 := Rw.cell HV4.out.1 (j := 4) rfl
      clear hv3 hw4
      by_cases h0 : D.size = 0
      · have hy := emptyYes h0
        have HQ : Hid (prtN s.data.toList = none) := Lib.hid (by rw [HP.out, if_pos (.inl h0)])
        clear h0
        go_wp2_with fail
        go_ret
        refine ⟨by rw [HQ.out]; rfl, _, D.data.toList, by rw [strL_data]; exact HV4.out, ?_⟩
        intro m hm
        rw [HQ.out] at hm
        cases hm
      · have hy := emptyNo h0
        by_cases h5 : 5 < D.size
        · have HQ : Hid (prtN s.data.toList = none) := Lib.hid (by rw [HP.out, if_pos (.inr h5)])
          have hle : ¬ (D.size : Int) ≤ 5 := by omega
          have hq5 : decide ((D.size : Int) ≤ 5) = false := decide_eq_false hle
          clear h0 h5
          go_wp2_with fail
          go_ret
          refine ⟨by rw [HQ.out]; first | exact ret_bool hq5 | rfl, _, D.data.toList, by rw [strL_data]; exact HV4.out, ?_⟩
          intro m hm
          rw [HQ.out] at hm
          cases hm
        · have HQ : Hid (prtN s.data.toList = some (1 + D.size)) := Lib.hid (by rw [HP.out, if_neg (by omega)])
          have hle : (D.size : Int) ≤ 5 := by omega
          have hq5 : decide ((D.size : Int) ≤ 5) = true := decide_eq_true hle
          clear h0 h5
          go_wp2_with fail
          go_ret
          refine ⟨by rw [HQ.out]; first | exact ret_bool hq5 | rfl, _, D.data.toList, by rw [strL_data]; exact HV4.out, ?_⟩
          intro m hm
          rw [HQ.out] at hm
          injection hm with hm
          subst hm
          exact ⟨HD.out.1, HD.out.2.symm⟩
  · have HN := Lib.hid (snext_no s ⟨#[58]⟩ h (by rw [hmk, pre_one, decide_eq_false h58]))
    have HP := Lib.hid (prt_no h58)
    clear h58 h hs
    go_enter Tryz.func38, Tryz.ntmps38
    go_wp2_with fail
    refine HN.out.mono ?_
    rintro e w1 ⟨rfl, hv1⟩
    have HV1 := Lib.hid hv1
    clear hv1
    go_wp2_with fail
    go_ret
    refine ⟨by rw [HP.out]; rfl, _, [], HV1.out, ?_⟩
    intro m hm
    rw [HP.out] at hm
    injection hm with hm
    subst hm
    exact ⟨rfl, rfl⟩

theorem pc_at (s : ByteArray) (k : Nat) (h : k < s.size) (hn : pcB s[k] = false) : s.data.toList.all pcB = false := by
  rw [← Bool.not_eq_true, List.all_eq_true]
  intro ha
  have := ha s[k] (by show s.data.toList[k]'(by rw [size_data]; exact h) ∈ _; exact List.getElem_mem _)
  rw [hn] at this
  cases this

theorem sinpath_any (s : ByteArray) (hs : s.size ≤ 1073741824) (w : World) :
    Calls Tryz.prog 76 #[.string s] w fun e w' => e = .returned (.bool (s.data.toList.all pcB)) ∧ w' = w := by
  obtain ⟨R, hR⟩ : ∃ R, R = s.data.toList.all pcB := ⟨_, rfl⟩
  have HR := Lib.hid hR
  rw [← hR]
  clear hR
  go_enter Tryz.func76, Tryz.ntmps76
  go_wp2
  go_loop [7] (fun i => ∃ k : Nat, k ≤ s.size ∧ i = .int .i64 k ∧ (s.data.toList.take k).all pcB = true) (fun i => s.size - (intOf i).toNat)
  case atStart => exact ⟨0, Nat.zero_le _, rfl, rfl⟩
  case round =>
    obtain ⟨k, hk, rfl, hno⟩ := hrel
    have HN := Lib.hid hno
    clear hno
    by_cases hlt : k < s.size
    · have HT : Hid (pcB s[k] = false → R = false) := Lib.hid (fun h => HR.out.trans (pc_at s k hlt h))
      have HF := Lib.hid (fun h => all_next (p := pcB) hlt HN.out h)
      have hf : pcB s[k] = (decide (33 ≤ s[k].toNat ∧ s[k].toNat ≤ 126) && !hasB [63, 35, 59, 44] s[k]) := rfl
      have HIX := Lib.hid (Tryz.strings_IndexByte ⟨#[63, 35, 59, 44]⟩ (s[k].toNat : Int) w)
      rw [show ((s[k].toNat : Int)).toNat.toUInt8 = s[k] from by simp] at HIX
      have HX := Lib.hid (index_has [63, 35, 59, 44] s[k])
      by_cases c1 : (s[k].toNat : Int) < 33
      · have HQ := Lib.hid (HT.out (by rw [hf, decide_eq_false (by omega)]; rfl))
        clear hf
        go_wp2
        go_ret
        exact ⟨ret_bool HQ.out.symm, rfl⟩
      · by_cases c2 : 126 < (s[k].toNat : Int)
        · have HQ := Lib.hid (HT.out (by rw [hf, decide_eq_false (by omega)]; rfl))
          clear hf
          go_wp2
          go_ret
          exact ⟨ret_bool HQ.out.symm, rfl⟩
        · rw [decide_eq_true (by omega)] at hf
          obtain ⟨I, hI⟩ : ∃ I, I = Lib.indexByte [63, 35, 59, 44] s[k] := ⟨_, rfl⟩
          have hI2 : Lib.indexByte (⟨#[63, 35, 59, 44]⟩ : ByteArray).data.toList s[k] = I := hI.symm
          rw [hI2] at HIX
          rw [← hI] at HX
          by_cases c3 : 0 ≤ I
          · have HQ := Lib.hid (HT.out (by rw [hf, ← HX.out, decide_eq_true c3]; rfl))
            clear hf hI hI2
            go_wp2_with fail
            refine HIX.out.mono ?_
            rintro e w' ⟨rfl, rfl⟩
            go_wp2
            go_ret
            exact ⟨ret_bool HQ.out.symm, rfl⟩
          · have HQ := Lib.hid (HF.out (by rw [hf, ← HX.out, decide_eq_false c3]; rfl))
            have c5 : decide (0 ≤ I) = false := decide_eq_false c3
            clear hf hI hI2 c3
            go_wp2_with fail
            refine HIX.out.mono ?_
            rintro e w' ⟨rfl, rfl⟩
            go_wp2
            go_round
            case rel => exact ⟨k + 1, by omega, by go_num, HQ.out⟩
            case measure => simp [intOf]; omega
    · have hfin := HN.out
      rw [List.take_of_length_le (by simp; omega)] at hfin
      have HF : Hid (R = true) := Lib.hid (HR.out.trans hfin)
      clear hfin
      go_wp2
      go_ret
      exact ⟨ret_bool HF.out.symm, rfl⟩

/-- What a path has left, if it is one. -/
def PathV (w w' : World) (g : Nat) (k v2 v3 v4 : Value) (e : Ending) (s : List UInt8) : Prop :=
  e = .returned (.bool (spathB s)) ∧ ∃ r p, RestV w w' g 52 [k, v2, v3, v4, strL p] r ∧ (spathB s = true → p = s)

theorem spath_any {w : World} {g : Nat} {k v2 v3 v4 : Value} (s : ByteArray) (hs : s.size ≤ 1048576) (h : Rw w 0 g 52 [.string s, k, v2, v3, v4, .string ⟨#[]⟩]) :
    Calls Tryz.prog 39 #[.pointer (some ⟨g, 0, none⟩)] w fun e w' => PathV w w' g k v2 v3 v4 e s.data.toList := by
  have HE := Lib.hid (send_any s h)
  have HR := Lib.hid h
  by_cases h0 : s.data.toList = []
  · rw [decide_eq_true h0] at HE
    have HS : Hid (spathB s.data.toList = true ∧ ([] : List UInt8) = s.data.toList) := Lib.hid ⟨by rw [h0]; rfl, h0.symm⟩
    clear h h0 hs
    go_enter Tryz.func39, Tryz.ntmps39
    go_wp2_with fail
    refine HE.out.mono ?_
    rintro e w1 ⟨rfl, rfl⟩
    go_wp2_with fail
    go_ret
    refine ⟨by rw [HS.out.1]; rfl, s.data.toList, [], ⟨?_, kept_refl _ _⟩, fun _ => HS.out.2⟩
    rw [strL_data]
    exact HR.out
  · rw [decide_eq_false h0] at HE
    have c0 := Rw.cell h (j := 0) rfl
    have f5 := Rw.free h 5
    have c5 := Rw.cell h (j := 5) rfl
    obtain ⟨w1, hw1⟩ : ∃ w1, w1 = w.setCell ⟨g, 5, none⟩ (.string s) := ⟨_, rfl⟩
    obtain ⟨r1, r2⟩ := rw_store h 5 (.string s) (kept_refl (fun k => k = g) w) rfl
    rw [← hw1] at r1 r2
    have hr1 : Rw w1 0 g 52 [.string s, k, v2, v3, v4, .string s] := r1
    have HV1 : Hid (RestV w w1 g 52 [k, v2, v3, v4, .string s] s.data.toList) := Lib.hid ⟨by rw [strL_data]; exact hr1, r2⟩
    have hps := path_step h0
    have hw1' : w.setCell ⟨g, 5, none⟩ (.string s) = w1 := hw1.symm
    by_cases h47 : s.data.toList.head? = some 47
    · have HN := Lib.hid (snext_yes s ⟨#[47]⟩ hr1 (by rw [show (⟨#[47]⟩ : ByteArray).data.toList = [47] from rfl, pre_one, decide_eq_true h47]))
      rw [show (⟨#[47]⟩ : ByteArray).size = 1 from rfl] at HN
      obtain ⟨t, ht⟩ : ∃ t : ByteArray, t = ⟨(s.data.toList.drop 1).toArray⟩ := ⟨_, rfl⟩
      have htl : t.data.toList = s.data.toList.drop 1 := by rw [ht]
      have hts : t.size ≤ 1048576 := by rw [← size_data, htl, List.length_drop, size_data]; omega
      rw [← htl] at HN hps
      have HI := Lib.hid (fun W => sinpath_any t (by omega) W)
      rw [decide_eq_true h47, Bool.true_and] at hps
      have HPS := Lib.hid hps
      obtain ⟨B, hB⟩ : ∃ B, B = t.data.toList.all pcB := ⟨_, rfl⟩
      rw [← hB] at HI HPS
      clear h h0 hs h47 ht htl hts hps hB hw1 r1 r2 hr1
      go_enter Tryz.func39, Tryz.ntmps39
      go_wp2_with fail
      refine HE.out.mono ?_
      rintro e w2 ⟨rfl, rfl⟩
      go_wp2_with fail
      refine HN.out.mono ?_
      rintro e w3 ⟨rfl, hv3⟩
      have HV3 := Lib.hid (rest_trans HV1.out hv3)
      have hrow := hv3.1
      rw [strL_data] at hrow
      have d0 := Rw.cell hrow (j := 0) rfl
      clear hv3 hrow
      go_wp2_with fail
      refine (HI.out _).mono ?_
      rintro e w4 ⟨rfl, rfl⟩
      go_wp2_with fail
      go_ret
      exact ⟨by rw [HPS.out]; rfl, t.data.toList, s.data.toList, by rw [strL_data]; exact HV3.out, fun _ => rfl⟩
    · have HN := Lib.hid (snext_no s ⟨#[47]⟩ hr1 (by rw [show (⟨#[47]⟩ : ByteArray).data.toList = [47] from rfl, pre_one, decide_eq_false h47]))
      rw [decide_eq_false h47, Bool.false_and] at hps
      have HPS := Lib.hid hps
      clear h h0 hs h47 hps hw1 r1 r2 hr1
      go_enter Tryz.func39, Tryz.ntmps39
      go_wp2_with fail
      refine HE.out.mono ?_
      rintro e w2 ⟨rfl, rfl⟩
      go_wp2_with fail
      refine HN.out.mono ?_
      rintro e w3 ⟨rfl, hv3⟩
      have HV3 := Lib.hid (rest_trans HV1.out hv3)
      clear hv3
      go_wp2_with fail
      go_ret
      exact ⟨by rw [HPS.out]; rfl, s.data.toList, s.data.toList, by rw [strL_data]; exact HV3.out, fun h => absurd (HPS.out.symm.trans h) (by decide)⟩

theorem snew_any (s : ByteArray) (w : World) :
    Calls Tryz.prog 33 #[.string s] w fun e w' => e = .returned (.pointer (some ⟨w.heap.size, 0, none⟩)) ∧ Rw w' 0 w.heap.size 52 [.string s, .int .i64 0, .string ⟨#[]⟩, .string ⟨#[]⟩, .string ⟨#[]⟩, .string ⟨#[]⟩] ∧ Below w.heap.size w w' := by
  have hz := zero_cells Tryz.infoSrd
  have HR := Lib.hid (Rw.alloc w 52 #[.string s, .int .i64 0, .string ⟨#[]⟩, .string ⟨#[]⟩, .string ⟨#[]⟩, .string ⟨#[]⟩] (Nat.zero_le w.heap.size))
  have HB := Lib.hid (below_more (Below.refl _ w) (.cells #[.string s, .int .i64 0, .string ⟨#[]⟩, .string ⟨#[]⟩, .string ⟨#[]⟩, .string ⟨#[]⟩] 52))
  go_enter Tryz.func33, Tryz.ntmps33
  go_wp2_with fail
  go_ret
  exact ⟨rfl, HR.out, HB.out⟩

theorem sexpr_any {w : World} {g : Nat} {s0 : Value} {k0 kind : Int} {v2 v3 v4 v5 : ByteArray} (h : Rw w 0 g 52 [s0, .int .i64 k0, .string v2, .string v3, .string v4, .string v5]) :
    Calls Tryz.prog 36 #[.pointer (some ⟨g, 0, none⟩), .int .i64 kind] w fun e w' => e = .returned (.agg #[.int .i64 kind, .string v2, .string v3, .string v4, .string v5]) ∧ Below w.heap.size w w' := by
  have hz := zero_cells Tryz.infoExp
  have HR := Lib.hid h
  have HR1 := Lib.hid (Rw.more h (.cells #[.int .i64 0, .string ⟨#[]⟩, .string ⟨#[]⟩, .string ⟨#[]⟩, .string ⟨#[]⟩] 24))
  have c1 := Rw.cell HR1.out (j := 1) rfl
  have c2 := Rw.cell HR1.out (j := 2) rfl
  have c3 := Rw.cell HR1.out (j := 3) rfl
  have c4 := Rw.cell HR1.out (j := 4) rfl
  have c5 := Rw.cell HR1.out (j := 5) rfl
  clear h
  go_enter Tryz.func36, Tryz.ntmps36
  go_wp2_with fail
  have HX : Rw ((w.alloc (.cells #[.int .i64 kind, .string v2, .string v3, .string v4, .string v5] 24)).alloc (.cells #[.int .i64 kind, .string v2, .string v3, .string v4, .string v5] 24)) 0 w.heap.size 24 [.int .i64 kind, .string v2, .string v3, .string v4, .string v5] := Rw.more (Rw.alloc w _ _ (Nat.zero_le _)) _
  refine bodyPost_ret (v := .agg #[.int .i64 kind, .string v2, .string v3, .string v4, .string v5]) ?_ rfl ⟨rfl, below_more (below_more (Below.refl _ _) _) _⟩
  exact results_row1 rfl _ _ w.heap.size 0 24 [.int .i64 kind, .string v2, .string v3, .string v4, .string v5] _ rfl HX Tryz.underlying24 rfl Tryz.sizeExp

end Go.Proofs.YtnecjofgjbfheaaGreatDoor
