/- The schemes' ports; digits as a port; dot segments. -/
import Derived.Test.YtdgmcpdphifmbaaGreatDoorShelf
import Derived.BigQuiet
import Derived.Test.YtdgmcpdphifmbaaGreatDoorProg
import Derived.Test.YtdgmcpdphifmbaaGreatDoorKit
import Derived.Test.YtdgmcpdphifmbaaGreatDoorInfo
import Derived.Test.YtdgmcpdphifmbaaGreatDoorAsc1
import Derived.Test.YtdgmcpdphifmbaaGreatDoorAsc4
import Derived.Test.YtdgmcpdphifmbaaGreatDoorRow
import Derived.Test.YtdgmcpdphifmbaaGreatDoorPct0
import Derived.Test.YtdgmcpdphifmbaaGreatDoorPct3
import Derived.Test.YtdgmcpdphifmbaaGreatDoorHst0
import Derived.Test.YtdgmcpdphifmbaaGreatDoorHst1
import Derived.Test.YtdgmcpdphifmbaaGreatDoorHst4
import Derived.Test.YtdgmcpdphifmbaaGreatDoorUrl0
namespace Go.Proofs.YtdgmcpdphifmbaaGreatDoor
open Go.RowKit Go.Proofs
set_option maxRecDepth 100000

theorem lit_yes {s : ByteArray} {l : List UInt8} (h : s.data.toList = l) : (s.toList == l) = true := by rw [ByteArray.toList_eq, h, beq_iff_eq]

theorem lit_no {s : ByteArray} {l : List UInt8} (h : s.data.toList ≠ l) : (s.toList == l) = false := by rw [ByteArray.toList_eq, beq_eq_false_iff_ne]; exact h

theorem udef_any (s : ByteArray) (w : World) :
    Calls Tryz.prog 47 #[.string s] w fun e w' => e = .returned (.tuple #[.int .i64 (defP s.data.toList).1, .bool (defP s.data.toList).2]) ∧ w' = w := by
  obtain ⟨D, hD⟩ : ∃ D, D = defP s.data.toList := ⟨_, rfl⟩
  rw [← hD]
  by_cases h0 : s.data.toList = httpL
  · have q0 := lit_yes h0
    have HQ : Hid (D = (80, true)) := Lib.hid (by rw [hD, h0]; decide)
    unfold httpL at q0
    clear hD h0
    go_enter Tryz.func47, Tryz.ntmps47
    go_wp2_with fail
    go_ret2
    exact ⟨by rw [HQ.out]; rfl, rfl⟩
  have q0 := lit_no h0
  unfold httpL at q0
  by_cases h1 : s.data.toList = wsL
  · have q1 := lit_yes h1
    have HQ : Hid (D = (80, true)) := Lib.hid (by rw [hD, h1]; decide)
    unfold wsL at q1
    clear hD h1
    go_enter Tryz.func47, Tryz.ntmps47
    go_wp2_with fail
    go_ret2
    exact ⟨by rw [HQ.out]; rfl, rfl⟩
  have q1 := lit_no h1
  unfold wsL at q1
  by_cases h2 : s.data.toList = httpsL
  · have q2 := lit_yes h2
    have HQ : Hid (D = (443, true)) := Lib.hid (by rw [hD, h2]; decide)
    unfold httpsL at q2
    clear hD h2
    go_enter Tryz.func47, Tryz.ntmps47
    go_wp2_with fail
    go_ret2
    exact ⟨by rw [HQ.out]; rfl, rfl⟩
  have q2 := lit_no h2
  unfold httpsL at q2
  by_cases h3 : s.data.toList = wssL
  · have q3 := lit_yes h3
    have HQ : Hid (D = (443, true)) := Lib.hid (by rw [hD, h3]; decide)
    unfold wssL at q3
    clear hD h3
    go_enter Tryz.func47, Tryz.ntmps47
    go_wp2_with fail
    go_ret2
    exact ⟨by rw [HQ.out]; rfl, rfl⟩
  have q3 := lit_no h3
  unfold wssL at q3
  by_cases h4 : s.data.toList = ftpL
  · have q4 := lit_yes h4
    have HQ : Hid (D = (21, true)) := Lib.hid (by rw [hD, h4]; decide)
    unfold ftpL at q4
    clear hD h4
    go_enter Tryz.func47, Tryz.ntmps47
    go_wp2_with fail
    go_ret2
    exact ⟨by rw [HQ.out]; rfl, rfl⟩
  have q4 := lit_no h4
  unfold ftpL at q4
  have HQ : Hid (D = (0, false)) := Lib.hid (by rw [hD]; unfold defP; rw [if_neg (by rintro (h | h); exact h0 h; exact h1 h), if_neg (by rintro (h | h); exact h2 h; exact h3 h), if_neg h4])
  clear hD h0 h1 h2 h3 h4
  go_enter Tryz.func47, Tryz.ntmps47
  go_wp2_with fail
  go_ret2
  exact ⟨by rw [HQ.out]; rfl, rfl⟩

theorem rdef_any (s : ByteArray) (w : World) :
    Calls Tryz.prog 27 #[.string s] w fun e w' => e = .returned (.tuple #[.int .i64 (defP s.data.toList).1, .bool (defP s.data.toList).2]) ∧ w' = w := by
  obtain ⟨D, hD⟩ : ∃ D, D = defP s.data.toList := ⟨_, rfl⟩
  rw [← hD]
  by_cases h0 : s.data.toList = httpL
  · have q0 := lit_yes h0
    have HQ : Hid (D = (80, true)) := Lib.hid (by rw [hD, h0]; decide)
    unfold httpL at q0
    clear hD h0
    go_enter Tryz.func27, Tryz.ntmps27
    go_wp2_with fail
    go_ret2
    exact ⟨by rw [HQ.out]; rfl, rfl⟩
  have q0 := lit_no h0
  unfold httpL at q0
  by_cases h1 : s.data.toList = wsL
  · have q1 := lit_yes h1
    have HQ : Hid (D = (80, true)) := Lib.hid (by rw [hD, h1]; decide)
    unfold wsL at q1
    clear hD h1
    go_enter Tryz.func27, Tryz.ntmps27
    go_wp2_with fail
    go_ret2
    exact ⟨by rw [HQ.out]; rfl, rfl⟩
  have q1 := lit_no h1
  unfold wsL at q1
  by_cases h2 : s.data.toList = httpsL
  · have q2 := lit_yes h2
    have HQ : Hid (D = (443, true)) := Lib.hid (by rw [hD, h2]; decide)
    unfold httpsL at q2
    clear hD h2
    go_enter Tryz.func27, Tryz.ntmps27
    go_wp2_with fail
    go_ret2
    exact ⟨by rw [HQ.out]; rfl, rfl⟩
  have q2 := lit_no h2
  unfold httpsL at q2
  by_cases h3 : s.data.toList = wssL
  · have q3 := lit_yes h3
    have HQ : Hid (D = (443, true)) := Lib.hid (by rw [hD, h3]; decide)
    unfold wssL at q3
    clear hD h3
    go_enter Tryz.func27, Tryz.ntmps27
    go_wp2_with fail
    go_ret2
    exact ⟨by rw [HQ.out]; rfl, rfl⟩
  have q3 := lit_no h3
  unfold wssL at q3
  by_cases h4 : s.data.toList = ftpL
  · have q4 := lit_yes h4
    have HQ : Hid (D = (21, true)) := Lib.hid (by rw [hD, h4]; decide)
    unfold ftpL at q4
    clear hD h4
    go_enter Tryz.func27, Tryz.ntmps27
    go_wp2_with fail
    go_ret2
    exact ⟨by rw [HQ.out]; rfl, rfl⟩
  have q4 := lit_no h4
  unfold ftpL at q4
  have HQ : Hid (D = (0, false)) := Lib.hid (by rw [hD]; unfold defP; rw [if_neg (by rintro (h | h); exact h0 h; exact h1 h), if_neg (by rintro (h | h); exact h2 h; exact h3 h), if_neg h4])
  clear hD h0 h1 h2 h3 h4
  go_enter Tryz.func27, Tryz.ntmps27
  go_wp2_with fail
  go_ret2
  exact ⟨by rw [HQ.out]; rfl, rfl⟩

/-! digits -/
theorem isD_dig (c : UInt8) : isD 10 c = isDig c.toNat := byte_all (p := fun c => isD 10 c = isDig c.toNat) (by decide +kernel) c

theorem allD_dig (l : List UInt8) : allD 10 l = l.all (fun c => isDig c.toNat) := by
  unfold allD
  congr 1
  funext c
  exact isD_dig c

theorem dig_val {c : UInt8} (h : isDig c.toNat = true) : (((hexI c.toNat).toNat : Nat) : Int) = (c.toNat : Int) - 48 := by
  have h1 := isDig_bd h
  unfold hexI
  rw [if_pos (by omega)]
  omega

theorem valD_num (l : List UInt8) (h : l.all (fun c => isDig c.toNat) = true) : ((valD 10 l : Nat) : Int) = numVal l := by
  have key : ∀ (l : List UInt8) (a : Nat) (b : Int), (a : Int) = b → l.all (fun c => isDig c.toNat) = true → ((l.foldl (fun n c => n * 10 + (hexI c.toNat).toNat) a : Nat) : Int) = l.foldl (fun n c => 10 * n + ((c.toNat : Int) - 48)) b := by
    intro l
    induction l with
    | nil => intro a b h _; exact h
    | cons c l ih =>
      intro a b hab hl
      rw [List.all_cons, Bool.and_eq_true] at hl
      refine ih _ _ ?_ hl.2
      have := dig_val hl.1
      show ((a * 10 + (hexI c.toNat).toNat : Nat) : Int) = 10 * b + ((c.toNat : Int) - 48)
      omega
  exact key l 0 0 rfl h

theorem valD_fold (b : Nat) : ∀ (l : List UInt8) (a : Nat), l.foldl (fun n c => n * b + (hexI c.toNat).toNat) a = a * b ^ l.length + valD b l
  | [], a => by simp [valD]
  | c :: l, a => by
    have e : valD b (c :: l) = l.foldl (fun n c => n * b + (hexI c.toNat).toNat) (0 * b + (hexI c.toNat).toNat) := rfl
    rw [List.foldl_cons, valD_fold b l, e, valD_fold b l, List.length_cons, Nat.pow_succ, Nat.zero_mul, Nat.zero_add]
    have h1 : (a * b + (hexI c.toNat).toNat) * b ^ l.length = a * (b ^ l.length * b) + (hexI c.toNat).toNat * b ^ l.length := by
      rw [Nat.add_mul, Nat.mul_assoc, Nat.mul_comm b]
    rw [h1]
    omega

theorem valD_cons (b : Nat) (c : UInt8) (l : List UInt8) : valD b (c :: l) = (hexI c.toNat).toNat * b ^ l.length + valD b l := by
  have e : valD b (c :: l) = l.foldl (fun n c => n * b + (hexI c.toNat).toNat) (0 * b + (hexI c.toNat).toNat) := rfl
  rw [e, valD_fold, Nat.zero_mul, Nat.zero_add]

def zerosL (l : List UInt8) : List UInt8 := l.dropWhile (fun c => c == 48)

theorem zeros_val : ∀ l : List UInt8, valD 10 l = valD 10 (zerosL l) ∧ allD 10 l = allD 10 (zerosL l)
  | [] => ⟨rfl, rfl⟩
  | c :: l => by
    unfold zerosL
    rw [List.dropWhile_cons]
    split
    · rename_i hc
      have hc := beq_iff_eq.1 hc
      subst hc
      obtain ⟨h1, h2⟩ := zeros_val l
      refine ⟨?_, ?_⟩
      · rw [valD_cons, show (hexI (48 : UInt8).toNat).toNat = 0 by decide, Nat.zero_mul, Nat.zero_add]
        exact h1
      · unfold allD at h2 ⊢
        rw [List.all_cons, show isD 10 48 = true by decide, Bool.true_and]
        exact h2
    · exact ⟨rfl, rfl⟩

theorem zeros_head (l : List UInt8) : (zerosL l).head? ≠ some 48 := by
  induction l with
  | nil => simp [zerosL]
  | cons c l ih =>
    unfold zerosL at ih ⊢
    rw [List.dropWhile_cons]
    split
    · exact ih
    · rename_i hc
      intro h
      apply hc
      simp at h
      rw [h]
      rfl

theorem zeros_len (l : List UInt8) : (zerosL l).length ≤ l.length := (List.dropWhile_sublist _).length_le

/-- What the digits without their zeros tell. -/
theorem port_none {sch d : List UInt8} (hd : d ≠ []) (hz : zerosL d ≠ []) (hn : numOk (zerosL d) 5 = false ∨ 65535 < numVal (zerosL d)) : portP sch d = none := by
  unfold portP
  rw [if_neg hd, if_neg]
  rintro ⟨h1, h2⟩
  obtain ⟨e1, e2⟩ := zeros_val d
  rw [e2, allD_dig] at h1
  rw [e1] at h2
  have hv := valD_num _ h1
  rcases hn with hn | hn
  · have hlen : 5 < (zerosL d).length := by
      rcases Nat.lt_or_ge 5 (zerosL d).length with h | h
      · exact h
      · exfalso
        unfold numOk at hn
        rw [h1, Bool.and_true, decide_eq_false_iff_not] at hn
        exact hn ⟨hz, by omega, by omega, fun h3 => absurd h3 (zeros_head d)⟩
    obtain ⟨c, r, he⟩ := List.exists_cons_of_ne_nil hz
    rw [he] at h1 h2 hlen
    rw [valD_cons] at h2
    rw [List.all_cons, Bool.and_eq_true] at h1
    have hc : c ≠ 48 := by
      intro e
      have := zeros_head d
      rw [he, e] at this
      exact this rfl
    have h3 : 1 ≤ (hexI c.toNat).toNat := by
      have h4 := dig_val h1.1
      have h5 := isDig_bd h1.1
      have h6 : (c.toNat : Int) ≠ 48 := fun e => hc (UInt8.toNat_inj.1 (by simpa using (by omega : c.toNat = 48)))
      omega
    have h7 : 10 ^ 5 ≤ 10 ^ r.length := Nat.pow_le_pow_right (by decide) (by simp at hlen; omega)
    have h8 : 1 * 10 ^ r.length ≤ (hexI c.toNat).toNat * 10 ^ r.length := Nat.mul_le_mul_right _ h3
    omega
  · omega

theorem port_some {sch d : List UInt8} (hd : d ≠ []) {v : Int} (h1 : allD 10 d = true) (h2 : ((valD 10 d : Nat) : Int) = v) (h3 : v ≤ 65535) : portP sch d = some (if v = (defP sch).1 then -1 else v) := by
  unfold portP
  rw [if_neg hd, if_pos ⟨h1, by omega⟩, h2]

def portE (o : Option Int) : Value := .tuple #[.int .i64 (o.getD 0), .bool o.isSome]

theorem def_bd (s : List UInt8) : 0 ≤ (defP s).1 ∧ (defP s).1 ≤ 443 := by
  unfold defP
  repeat' split
  all_goals exact ⟨by decide, by decide⟩

set_option maxHeartbeats 1000000 in
theorem uport_any (sch d : ByteArray) (hs : d.size ≤ 1073741824) (w : World) :
    Calls Tryz.prog 54 #[.string sch, .string d] w fun e w' => e = .returned (portE (portP sch.data.toList d.data.toList)) ∧ w' = w := by
  have HD := Lib.hid (fun W => udef_any sch W)
  have hdb := def_bd sch.data.toList
  obtain ⟨D, hD⟩ : ∃ D, D = defP sch.data.toList := ⟨_, rfl⟩
  obtain ⟨R, hR⟩ : ∃ R, R = portP sch.data.toList d.data.toList := ⟨_, rfl⟩
  obtain ⟨U, hU⟩ : ∃ U, U = D.1 := ⟨_, rfl⟩
  rw [← hD] at HD hdb
  rw [← hR]
  rw [← hU] at HD hdb
  obtain ⟨B, hB⟩ : ∃ B, B = D.2 := ⟨_, rfl⟩
  rw [← hB] at HD
  by_cases h0 : d.size = 0
  · have hy := emptyYes h0
    have HQ : Hid (R = some (-1)) := Lib.hid (by rw [hR, nil_size h0]; rfl)
    clear h0 hR hD hU hB hdb
    go_enter Tryz.func54, Tryz.ntmps54
    go_wp2_with fail
    go_ret2
    exact ⟨by rw [HQ.out]; rfl, rfl⟩
  · have hy := emptyNo h0
    have hne : d.data.toList ≠ [] := ne_of_size h0
    obtain ⟨t, ht⟩ : ∃ t : ByteArray, t = ⟨(zerosL d.data.toList).toArray⟩ := ⟨_, rfl⟩
    have htl : t.data.toList = zerosL d.data.toList := by rw [ht]
    have hts : t.size ≤ 1073741824 := by rw [ht, mk_size]; exact Nat.le_trans (zeros_len _) (by rw [size_data]; exact hs)
    have HT := Lib.hid (fun W => Tryz.strings_TrimLeft_one d 48 (by decide) W)
    have HT2 : Hid (∀ W, Calls Tryz.prog 90 #[.string d, .string ⟨#[48]⟩] W fun e w' => e = .returned (.string t) ∧ w' = W) := by
      rw [ht]
      exact HT
    have HN := Lib.hid (fun W => number_any t 5 hts (by decide) W)
    clear HT ht
    have hsome : ∀ {v : Int}, R = some (if v = U then -1 else v) → ∀ {k : Int}, v = k → (k == U) = true → portE R = .tuple #[.int .i64 (-1), .bool true] := by
      intro v hv k hk hku
      rw [hv, if_pos (by rw [hk]; exact beq_iff_eq.1 hku)]
      rfl
    have hsome2 : ∀ {v : Int}, R = some (if v = U then -1 else v) → ∀ {k : Int}, v = k → (k == U) = false → portE R = .tuple #[.int .i64 k, .bool true] := by
      intro v hv k hk hku
      rw [hv, if_neg (by rw [hk]; exact beq_eq_false_iff_ne.1 hku), hk]
      rfl
    by_cases h1 : t.size = 0
    · have hz := emptyYes h1
      have hv : R = some (if (0 : Int) = U then -1 else 0) := by
        rw [hR, hU, hD]
        obtain ⟨e1, e2⟩ := zeros_val d.data.toList
        have e3 : zerosL d.data.toList = [] := by rw [← htl]; exact nil_size h1
        rw [e3] at e1 e2
        exact port_some hne e2 (by rw [e1]; rfl) (by decide)
      cases hq : ((0 : Int) == U)
      · have HQ := Lib.hid (hsome2 hv rfl hq)
        clear hsome hsome2 hv hR hD hU hB h0 hne htl HN h1
        go_enter Tryz.func54, Tryz.ntmps54
        go_wp2_with fail
        refine (HT2.out _).mono ?_
        rintro e w1 ⟨rfl, rfl⟩
        go_wp2_with fail
        refine (HD.out _).mono ?_
        rintro e w2 ⟨rfl, rfl⟩
        go_wp2_with fail
        go_ret2
        exact ⟨by rw [HQ.out]; rfl, rfl⟩
      · have HQ := Lib.hid (hsome hv rfl hq)
        clear hsome hsome2 hv hR hD hU hB h0 hne htl HN h1
        go_enter Tryz.func54, Tryz.ntmps54
        go_wp2_with fail
        refine (HT2.out _).mono ?_
        rintro e w1 ⟨rfl, rfl⟩
        go_wp2_with fail
        refine (HD.out _).mono ?_
        rintro e w2 ⟨rfl, rfl⟩
        go_wp2_with fail
        go_ret2
        exact ⟨by rw [HQ.out]; rfl, rfl⟩
    · have hz := emptyNo h1
      have hzne : zerosL d.data.toList ≠ [] := by rw [← htl]; exact ne_of_size h1
      obtain ⟨N, hN⟩ : ∃ N, N = numN t.data.toList 5 := ⟨_, rfl⟩
      rw [← hN] at HN
      cases ho : numOk t.data.toList 5
      · rw [ho] at HN
        have HQ : Hid (R = none) := Lib.hid (by rw [hR]; exact port_none hne hzne (.inl (by rw [← htl]; exact ho)))
        clear hsome hsome2 hR hD hU hB h0 hne htl h1 ho hzne hN
        go_enter Tryz.func54, Tryz.ntmps54
        go_wp2_with fail
        refine (HT2.out _).mono ?_
        rintro e w1 ⟨rfl, rfl⟩
        go_wp2_with fail
        refine (HN.out _).mono ?_
        rintro e w2 ⟨rfl, rfl⟩
        go_wp2_with fail
        go_ret2
        exact ⟨by rw [HQ.out]; rfl, rfl⟩
      · rw [ho] at HN
        have hNv : N = numVal (zerosL d.data.toList) := by rw [hN, htl]; unfold numN; rw [if_pos (by rw [← htl]; exact ho)]
        have hall : (zerosL d.data.toList).all (fun c => isDig c.toNat) = true := by
          rw [htl] at ho
          unfold numOk at ho
          rw [Bool.and_eq_true] at ho
          exact ho.2
        by_cases hbig : 65535 < N
        · have HQ : Hid (R = none) := Lib.hid (by rw [hR]; exact port_none hne hzne (.inr (by rw [← hNv]; exact hbig)))
          clear hsome hsome2 hR hD hU hB h0 hne htl h1 ho hzne hN hNv hall
          go_enter Tryz.func54, Tryz.ntmps54
          go_wp2_with fail
          refine (HT2.out _).mono ?_
          rintro e w1 ⟨rfl, rfl⟩
          go_wp2_with fail
          refine (HN.out _).mono ?_
          rintro e w2 ⟨rfl, rfl⟩
          go_wp2_with fail
          go_ret2
          exact ⟨by rw [HQ.out]; rfl, rfl⟩
        · have hv : R = some (if N = U then -1 else N) := by
            rw [hR, hU, hD]
            obtain ⟨e1, e2⟩ := zeros_val d.data.toList
            exact port_some hne (by rw [e2, allD_dig]; exact hall) (by rw [e1, valD_num _ hall, hNv]) (by omega)
          cases hq : (N == U)
          · have HQ := Lib.hid (hsome2 hv rfl hq)
            clear hsome hsome2 hv hR hD hU hB h0 hne htl h1 ho hzne hN hNv hall
            go_enter Tryz.func54, Tryz.ntmps54
            go_wp2_with fail
            refine (HT2.out _).mono ?_
            rintro e w1 ⟨rfl, rfl⟩
            go_wp2_with fail
            refine (HN.out _).mono ?_
            rintro e w2 ⟨rfl, rfl⟩
            go_wp2_with fail
            refine (HD.out _).mono ?_
            rintro e w3 ⟨rfl, rfl⟩
            go_wp2_with fail
            go_ret2
            exact ⟨by rw [HQ.out]; rfl, rfl⟩
          · have HQ := Lib.hid (hsome hv rfl hq)
            clear hsome hsome2 hv hR hD hU hB h0 hne htl h1 ho hzne hN hNv hall
            go_enter Tryz.func54, Tryz.ntmps54
            go_wp2_with fail
            refine (HT2.out _).mono ?_
            rintro e w1 ⟨rfl, rfl⟩
            go_wp2_with fail
            refine (HN.out _).mono ?_
            rintro e w2 ⟨rfl, rfl⟩
            go_wp2_with fail
            refine (HD.out _).mono ?_
            rintro e w3 ⟨rfl, rfl⟩
            go_wp2_with fail
            go_ret2
            exact ⟨by rw [HQ.out]; rfl, rfl⟩

theorem udots_any (s : ByteArray) (hs : s.size ≤ 1073741824) (w : World) :
    Calls Tryz.prog 101 #[.string s] w fun e w' => e = .returned (.int .i64 (dotsP s.data.toList)) ∧ Below w.heap.size w w' := by
  have HP := Lib.hid (pdecode_any s hs w)
  obtain ⟨t, ht⟩ : ∃ t : ByteArray, t = ⟨(decL s.data.toList).toArray⟩ := ⟨_, rfl⟩
  rw [← ht] at HP
  have htl : t.data.toList = decL s.data.toList := by rw [ht]
  obtain ⟨R, hR⟩ : ∃ R, R = dotsP s.data.toList := ⟨_, rfl⟩
  rw [← hR]
  unfold dotsP at hR
  rw [← htl] at hR
  clear ht htl
  by_cases h1 : t.data.toList = [46]
  · have q1 := lit_yes h1
    have HQ : Hid (R = 1) := Lib.hid (by rw [hR, if_pos h1])
    clear hR h1
    go_enter Tryz.func101, Tryz.ntmps101
    go_wp2_with fail
    refine HP.out.mono ?_
    rintro e w1 ⟨rfl, hb⟩
    have HB := Lib.hid hb
    clear hb
    go_wp2_with fail
    go_ret
    exact ⟨by rw [HQ.out]; rfl, HB.out⟩
  · have q1 := lit_no h1
    by_cases h2 : t.data.toList = [46, 46]
    · have q2 := lit_yes h2
      have HQ : Hid (R = 2) := Lib.hid (by rw [hR, if_neg h1, if_pos h2])
      clear hR h1 h2
      go_enter Tryz.func101, Tryz.ntmps101
      go_wp2_with fail
      refine HP.out.mono ?_
      rintro e w1 ⟨rfl, hb⟩
      have HB := Lib.hid hb
      clear hb
      go_wp2_with fail
      go_ret
      exact ⟨by rw [HQ.out]; rfl, HB.out⟩
    · have q2 := lit_no h2
      have HQ : Hid (R = 0) := Lib.hid (by rw [hR, if_neg h1, if_neg h2])
      clear hR h1 h2
      go_enter Tryz.func101, Tryz.ntmps101
      go_wp2_with fail
      refine HP.out.mono ?_
      rintro e w1 ⟨rfl, hb⟩
      have HB := Lib.hid hb
      clear hb
      go_wp2_with fail
      go_ret
      exact ⟨by rw [HQ.out]; rfl, HB.out⟩

theorem own_trunc {w : World} {base : Nat} {e : TypeId} {g m c : Nat} {xs : List Value} (h : w.ownsRow base e 1 (.slice (some ⟨g, 0, none⟩) (m + 1) c) (m + 1) xs) :
    w.ownsRow base e 1 (.slice (some ⟨g, 0, none⟩) m c) m (xs.take m) ∧ m + 1 ≤ c := by
  obtain ⟨hl, h⟩ := h
  rcases h with ⟨hv, _⟩ | ⟨g2, cap, cur, hv, hb, hh, hn, hm, hcs, ht⟩
  · cases hv
  · injection hv with e1 e2 e3
    injection e1 with e1
    injection e1 with e1
    subst e1 e3
    refine ⟨⟨by rw [List.length_take]; omega, .inr ⟨_, _, cur, rfl, hb, hh, by omega, hm, hcs, ?_⟩⟩, hn⟩
    rw [← ht, List.take_take]
    congr 1
    omega

theorem res_no {s : List UInt8} (h : dotsP s = 0) (acc r : List (List UInt8)) : resGo acc (s :: r) = resGo (acc ++ [encL 3 s]) r := by rw [resGo, if_pos h]

theorem res_dot {s : List UInt8} (h : dotsP s ≠ 0) (acc r : List (List UInt8)) : resGo acc (s :: r) = resGo ((if dotsP s = 2 then acc.dropLast else acc) ++ (if r = [] then [[]] else [])) r := by rw [resGo, if_neg h]

theorem dots_three (s : List UInt8) : dotsP s = 0 ∨ dotsP s = 1 ∨ dotsP s = 2 := by
  unfold dotsP
  split
  · exact .inr (.inl rfl)
  · split
    · exact .inr (.inr rfl)
    · exact .inl rfl

theorem enc_size {s : ByteArray} {N : Nat} (h : s.size ≤ N) (k : Int) : (encL k s.data.toList).length ≤ 3 * N := by
  have := encL_len k s.data.toList
  rw [size_data] at this
  omega

set_option maxHeartbeats 4000000 in
theorem uresolve_any (v : Value) (xs : List (List UInt8)) (M : Nat) (hM : xs.length = M + 1) (hMb : M ≤ 65536) (hxs : ∀ p ∈ xs, p.length ≤ 65536) (w : World) (hv : SliceAt w v (xs.map strL)) :
    Calls Tryz.prog 56 #[v] w fun e w' => (∃ v', e = .returned v' ∧ w'.ownsRow w.heap.size 9 1 v' (resGo [] xs).length ((resGo [] xs).map strL)) ∧ Below w.heap.size w w' ∧ (resGo [] xs).length ≤ M + 2 ∧ ∀ p ∈ resGo [] xs, p.length ≤ 196608 := by
  obtain ⟨i0, hi, hz0, hz1, hz2⟩ := info_parts Tryz.infoStr
  obtain ⟨b, off, c, rfl, hc⟩ := hv.at (by intro h; have := congrArg List.length h; rw [List.length_map, hM] at this; simp at this)
  rw [List.length_map, hM]
  have hbw : b < w.heap.size := by
    have h0 : (xs.map strL)[0]? = some (strL (xs[0]'(by omega))) := by rw [List.getElem?_map, List.getElem?_eq_getElem (by omega)]; rfl
    exact block_of_cell (hc 0 _ h0)
  have HC := Lib.hid hc
  have HXS := Lib.hid hxs
  have HM := Lib.hid hM
  clear hc hv hxs hM
  go_enter Tryz.func56, Tryz.ntmps56
  go_wp2
  go_loopw [2, 12] (fun v i wr => ∃ (k : Nat) (ps : List (List UInt8)), i = .int .i64 k ∧ k ≤ M + 1 ∧ ps.length ≤ k ∧ wr.ownsRow w.heap.size 9 1 v ps.length (ps.map strL) ∧ Hid (Below w.heap.size w wr) ∧ Hid (resGo ps (xs.drop k) = resGo [] xs) ∧ Hid (∀ p ∈ ps, p.length ≤ 196608)) (fun _ i _ => M + 1 - (intOf i).toNat)
  case atStart => exact ⟨0, [], rfl, by omega, by simp, World.ownsRow_nil _ _ _ _, Lib.hid (Below.refl _ _), Lib.hid rfl, Lib.hid (by simp)⟩
  case round =>
    obtain ⟨k, ps, rfl, hk, hps, hown, HB, HR, HP⟩ := hrel
    obtain ⟨wo, hwo⟩ : ∃ wo : World, wo = wr := ⟨_, rfl⟩
    subst hwo
    by_cases hlt : k < M + 1
    · obtain ⟨sg, hsg⟩ : ∃ sg, xs[k]? = some sg := ⟨_, List.getElem?_eq_getElem (by have := HM.out; omega)⟩
      have hsl := HXS.out sg (List.mem_of_getElem? hsg)
      have hcell : wo.cell? ⟨b, off + k, none⟩ = some (strL sg) := by
        rw [HB.out.cell hbw]
        exact HC.out k _ (by rw [List.getElem?_map, hsg]; rfl)
      obtain ⟨st, hst⟩ : ∃ st : ByteArray, st = ⟨sg.toArray⟩ := ⟨_, rfl⟩
      have hstl : st.data.toList = sg := by rw [hst]
      rw [strL_mk, ← hst] at hcell
      have hss : st.size ≤ 65536 := by rw [hst, mk_size]; exact hsl
      have HDR : Hid (xs.drop k = sg :: xs.drop (k + 1)) := Lib.hid (by
        obtain ⟨h1, h2⟩ := List.getElem?_eq_some_iff.1 hsg
        rw [List.drop_eq_getElem_cons h1, h2])
      have HD := Lib.hid (fun W => udots_any st (by omega) W)
      rw [hstl] at HD
      have hkz : (k : Int) < (M : Int) + 1 := by omega
      have hk0 : (0 : Int) ≤ (k : Int) := by omega
      clear hst hsl hsg
      rcases dots_three sg with hd | hd | hd
      · rw [hd] at HD
        have HD2 : Hid (∀ W, Calls Tryz.prog 101 #[.string st] W fun e w' => e = .returned (.int .i64 0) ∧ Below W.heap.size W w') := HD
        have HE := Lib.hid (fun W => pencode_any st (by omega) 3 W)
        rw [hstl] at HE
        obtain ⟨et, het⟩ : ∃ et : ByteArray, et = ⟨(encL 3 sg).toArray⟩ := ⟨_, rfl⟩
        rw [← het] at HE
        have HR2 : Hid (resGo (ps ++ [encL 3 sg]) (xs.drop (k + 1)) = resGo [] xs) := Lib.hid (by rw [← res_no hd, ← HDR.out]; exact HR.out)
        have HP2 : Hid (∀ p ∈ ps ++ [encL 3 sg], p.length ≤ 196608) := Lib.hid (by
          intro p hp
          rcases List.mem_append.1 hp with h | h
          · exact HP.out p h
          · rw [List.mem_singleton.1 h, ← hstl]; exact enc_size hss 3)
        have HET : Hid (Value.string et = strL (encL 3 sg)) := Lib.hid (by rw [het]; rfl)
        clear HD het hd
        go_wp2_with fail
        refine (HD2.out _).mono ?_
        rintro e w1 ⟨rfl, hb1⟩
        have HB1 := Lib.hid (HB.out.trans (hb1.mono HB.out.size))
        have hown1 := own_below hown hb1
        clear hb1
        go_wp2_with fail
        refine (HE.out _).mono ?_
        rintro e w2 ⟨rfl, hb2⟩
        have HB2 := Lib.hid (HB1.out.trans (hb2.mono HB1.out.size))
        have hown2 := own_below hown1 hb2
        clear hb2 hown1
        go_wp2_with (at_builtin; refine wpList_append1 rfl _ _ 73 rfl w.heap.size 9 rfl i0 (.string ByteArray.empty) 16 Tryz.underlying73 hi hz0 hz1 hz2 rfl _ ps.length _ rfl hown2 rfl rfl (by omega) (by omega) (Nat.le_trans HB2.out.size (Nat.le_refl _)) ?_; intro v' w3 hown' hb3)
        go_roundw
        case rel => exact ⟨k + 1, ps ++ [encL 3 sg], by go_num, by omega, by simp; omega, by rw [List.length_append, List.map_append, List.map_singleton, ← HET.out]; exact hown', Lib.hid (HB2.out.trans hb3), HR2, HP2⟩
        case measure => simp [intOf] <;> omega
      · rw [hd] at HD
        have HD2 : Hid (∀ W, Calls Tryz.prog 101 #[.string st] W fun e w' => e = .returned (.int .i64 1) ∧ Below W.heap.size W w') := HD
        clear HD
        by_cases hlast : k = M
        · obtain rfl : k = M := hlast
          have HDL : Hid (xs.drop (k + 1) = []) := Lib.hid (List.drop_of_length_le (by have := HM.out; omega))
          have HR2 : Hid (resGo (ps ++ [[]]) (xs.drop (k + 1)) = resGo [] xs) := Lib.hid (by
            have h := HR.out
            rw [HDR.out, res_dot (by rw [hd]; decide), hd] at h
            rw [if_neg (by decide), if_pos HDL.out] at h
            exact h)
          have HP2 : Hid (∀ p ∈ (ps ++ [[]]), p.length ≤ 196608) := Lib.hid (by
            intro p hp
            rcases List.mem_append.1 hp with h | h
            · exact HP.out p h
            · rw [List.mem_singleton.1 h]; simp)
          go_wp2_with fail
          refine (HD2.out _).mono ?_
          rintro e w1 ⟨rfl, hb1⟩
          have HB1 := Lib.hid (HB.out.trans (hb1.mono HB.out.size))
          have hown1 := own_below hown hb1
          clear hb1
          go_wp2_with (at_builtin; refine wpList_append1 rfl _ _ 73 rfl w.heap.size 9 rfl i0 (.string ByteArray.empty) 16 Tryz.underlying73 hi hz0 hz1 hz2 rfl _ ps.length _ rfl hown1 rfl rfl (by omega) (by omega) (Nat.le_trans HB1.out.size (Nat.le_refl _)) ?_; intro v' w3 hown' hb3)
          go_roundw
          case rel => exact ⟨k + 1, ps ++ [[]], by go_num, by omega, by simp; omega, by rw [List.length_append, List.map_append]; exact hown', Lib.hid (HB1.out.trans hb3), HR2, HP2⟩
          case measure => simp [intOf] <;> omega
        · have HDL : Hid (xs.drop (k + 1) ≠ []) := Lib.hid (by intro h; have h2 := congrArg List.length h; rw [List.length_drop, HM.out] at h2; simp at h2; omega)
          have hlz : ((k : Int) == (M : Int)) = false := beq_eq_false_iff_ne.2 (by omega)
          have HR2 : Hid (resGo ps (xs.drop (k + 1)) = resGo [] xs) := Lib.hid (by
            have h := HR.out
            rw [HDR.out, res_dot (by rw [hd]; decide), hd] at h
            rw [if_neg (by decide), if_neg HDL.out] at h
            rw [List.append_nil] at h
            exact h)
          have HP2 : Hid (∀ p ∈ ps, p.length ≤ 196608) := Lib.hid (by
            intro p hp
            exact HP.out p hp)
          go_wp2_with fail
          refine (HD2.out _).mono ?_
          rintro e w1 ⟨rfl, hb1⟩
          have HB1 := Lib.hid (HB.out.trans (hb1.mono HB.out.size))
          have hown1 := own_below hown hb1
          clear hb1
          go_wp2_with fail
          go_roundw
          case rel => exact ⟨k + 1, ps, by go_num, by omega, by first | omega | simp, hown1, HB1, HR2, HP2⟩
          case measure => simp [intOf] <;> omega
      · rw [hd] at HD
        have HD2 : Hid (∀ W, Calls Tryz.prog 101 #[.string st] W fun e w' => e = .returned (.int .i64 2) ∧ Below W.heap.size W w') := HD
        clear HD
        by_cases hlast : k = M
        · obtain rfl : k = M := hlast
          have HDL : Hid (xs.drop (k + 1) = []) := Lib.hid (List.drop_of_length_le (by have := HM.out; omega))
          by_cases hp0 : ps = []
          · subst hp0
            simp only [List.length_nil, List.map_nil] at hown
            obtain ⟨va, vc, rfl⟩ := own_len hown
            have HR2 : Hid (resGo (([] : List (List UInt8)) ++ [[]]) (xs.drop (k + 1)) = resGo [] xs) := Lib.hid (by
              have h := HR.out
              rw [HDR.out, res_dot (by rw [hd]; decide), hd] at h
              rw [if_pos rfl, if_pos HDL.out] at h
              exact h)
            have HP2 : Hid (∀ p ∈ (([] : List (List UInt8)) ++ [[]]), p.length ≤ 196608) := Lib.hid (by
              intro p hp
              rcases List.mem_append.1 hp with h | h
              · exact HP.out p h
              · rw [List.mem_singleton.1 h]; simp)
            go_wp2_with fail
            refine (HD2.out _).mono ?_
            rintro e w1 ⟨rfl, hb1⟩
            have HB1 := Lib.hid (HB.out.trans (hb1.mono HB.out.size))
            have hown1 := own_below hown hb1
            clear hb1
            go_wp2_with (at_builtin; refine wpList_append1 rfl _ _ 73 rfl w.heap.size 9 rfl i0 (.string ByteArray.empty) 16 Tryz.underlying73 hi hz0 hz1 hz2 rfl _ 0 _ rfl hown1 rfl rfl (by omega) (by omega) (Nat.le_trans HB1.out.size (Nat.le_refl _)) ?_; intro v' w3 hown' hb3)
            go_roundw
            case rel => exact ⟨k + 1, [[]], by go_num, by omega, by simp, hown', Lib.hid (HB1.out.trans hb3), HR2, HP2⟩
            case measure => simp [intOf] <;> omega
          · obtain ⟨m, hm⟩ : ∃ m, ps.length = m + 1 := ⟨ps.length - 1, by have := List.length_pos_iff.2 hp0; omega⟩
            obtain ⟨vg, vc, rfl, _⟩ := own_some hown (by omega)
            rw [hm] at hown
            have hpz : (0 : Int) < (m : Int) + 1 := by omega
            have hm0 : (0 : Int) ≤ (m : Int) := by omega
            rw [hm]
            have HR2 : Hid (resGo (ps.take m ++ [[]]) (xs.drop (k + 1)) = resGo [] xs) := Lib.hid (by
              have h := HR.out
              rw [HDR.out, res_dot (by rw [hd]; decide), hd] at h
              rw [if_pos rfl, if_pos HDL.out] at h
              rw [List.dropLast_eq_take, hm, Nat.add_sub_cancel] at h
              exact h)
            have HP2 : Hid (∀ p ∈ (ps.take m ++ [[]]), p.length ≤ 196608) := Lib.hid (by
              intro p hp
              rcases List.mem_append.1 hp with h | h
              · exact HP.out p (List.take_subset _ _ h)
              · rw [List.mem_singleton.1 h]; simp)
            go_wp2_with fail
            refine (HD2.out _).mono ?_
            rintro e w1 ⟨rfl, hb1⟩
            have HB1 := Lib.hid (HB.out.trans (hb1.mono HB.out.size))
            have hown1 := own_below hown hb1
            clear hb1
            obtain ⟨hown2, hmc⟩ := own_trunc hown1
            rw [← List.map_take] at hown2
            have hc0 : ¬ vc = 0 := by omega
            have hmcz : (m : Int) ≤ (vc : Int) := by omega
            clear hown1
            go_wp2_with (at_builtin; refine wpList_append1 rfl _ _ 73 rfl w.heap.size 9 rfl i0 (.string ByteArray.empty) 16 Tryz.underlying73 hi hz0 hz1 hz2 rfl _ m _ rfl hown2 rfl rfl (by omega) (by omega) (Nat.le_trans HB1.out.size (Nat.le_refl _)) ?_; intro v' w3 hown' hb3)
            go_roundw
            case rel => exact ⟨k + 1, ps.take m ++ [[]], by go_num, by omega, by simp; omega, by rw [List.length_append, List.length_take, hm, Nat.min_eq_left (by omega), List.map_append]; exact hown', Lib.hid (HB1.out.trans hb3), HR2, HP2⟩
            case measure => simp [intOf] <;> omega
        · have HDL : Hid (xs.drop (k + 1) ≠ []) := Lib.hid (by intro h; have h2 := congrArg List.length h; rw [List.length_drop, HM.out] at h2; simp at h2; omega)
          have hlz : ((k : Int) == (M : Int)) = false := beq_eq_false_iff_ne.2 (by omega)
          by_cases hp0 : ps = []
          · subst hp0
            simp only [List.length_nil, List.map_nil] at hown
            obtain ⟨va, vc, rfl⟩ := own_len hown
            have HR2 : Hid (resGo (([] : List (List UInt8))) (xs.drop (k + 1)) = resGo [] xs) := Lib.hid (by
              have h := HR.out
              rw [HDR.out, res_dot (by rw [hd]; decide), hd] at h
              rw [if_pos rfl, if_neg HDL.out] at h
              rw [List.append_nil] at h
              exact h)
            have HP2 : Hid (∀ p ∈ (([] : List (List UInt8))), p.length ≤ 196608) := Lib.hid (by
              intro p hp
              exact HP.out p hp)
            go_wp2_with fail
            refine (HD2.out _).mono ?_
            rintro e w1 ⟨rfl, hb1⟩
            have HB1 := Lib.hid (HB.out.trans (hb1.mono HB.out.size))
            have hown1 := own_below hown hb1
            clear hb1
            go_wp2_with fail
            go_roundw
            case rel => exact ⟨k + 1, [], by go_num, by omega, by first | omega | simp, hown1, HB1, HR2, HP2⟩
            case measure => simp [intOf] <;> omega
          · obtain ⟨m, hm⟩ : ∃ m, ps.length = m + 1 := ⟨ps.length - 1, by have := List.length_pos_iff.2 hp0; omega⟩
            obtain ⟨vg, vc, rfl, _⟩ := own_some hown (by omega)
            rw [hm] at hown
            have hpz : (0 : Int) < (m : Int) + 1 := by omega
            have hm0 : (0 : Int) ≤ (m : Int) := by omega
            rw [hm]
            have HR2 : Hid (resGo (ps.take m) (xs.drop (k + 1)) = resGo [] xs) := Lib.hid (by
              have h := HR.out
              rw [HDR.out, res_dot (by rw [hd]; decide), hd] at h
              rw [if_pos rfl, if_neg HDL.out] at h
              rw [List.dropLast_eq_take, hm, Nat.add_sub_cancel] at h
              rw [List.append_nil] at h
              exact h)
            have HP2 : Hid (∀ p ∈ (ps.take m), p.length ≤ 196608) := Lib.hid (by
              intro p hp
              exact HP.out p (List.take_subset _ _ hp))
            go_wp2_with fail
            refine (HD2.out _).mono ?_
            rintro e w1 ⟨rfl, hb1⟩
            have HB1 := Lib.hid (HB.out.trans (hb1.mono HB.out.size))
            have hown1 := own_below hown hb1
            clear hb1
            obtain ⟨hown2, hmc⟩ := own_trunc hown1
            rw [← List.map_take] at hown2
            have hc0 : ¬ vc = 0 := by omega
            have hmcz : (m : Int) ≤ (vc : Int) := by omega
            clear hown1
            go_wp2_with fail
            go_roundw
            case rel => exact ⟨k + 1, ps.take m, by go_num, by omega, by rw [List.length_take]; omega, by rw [List.length_take, hm, Nat.min_eq_left (by omega)]; exact hown2, HB1, HR2, HP2⟩
            case measure => simp [intOf] <;> omega
    · obtain rfl : k = M + 1 := by omega
      have hkz : ¬ ((M : Int) + 1 < (M : Int) + 1) := by omega
      have HF : Hid (ps = resGo [] xs) := Lib.hid (by rw [← HR.out, List.drop_of_length_le (by have := HM.out; omega)]; rfl)
      go_wp2
      go_ret
      rw [← HF.out]
      exact ⟨⟨_, rfl, hown⟩, HB.out, by omega, HP.out⟩

end Go.Proofs.YtdgmcpdphifmbaaGreatDoor
