/- The schemes' ports; digits as a port; dot segments. -/
import Derived.Test.YtnecjofgjbfheaaGreatDoorShelf
import Derived.BigQuiet
import Derived.Test.YtnecjofgjbfheaaGreatDoorProg
import Derived.Test.YtnecjofgjbfheaaGreatDoorKit
import Derived.Test.YtnecjofgjbfheaaGreatDoorAsc1
import Derived.Test.YtnecjofgjbfheaaGreatDoorAsc4
import Derived.Test.YtnecjofgjbfheaaGreatDoorRow
import Derived.Test.YtnecjofgjbfheaaGreatDoorPct0
import Derived.Test.YtnecjofgjbfheaaGreatDoorHst0
import Derived.Test.YtnecjofgjbfheaaGreatDoorUrl0
namespace Go.Proofs.YtnecjofgjbfheaaGreatDoor
open Go.RowKit Go.Proofs
set_option maxRecDepth 100000

theorem lit_yes {s : ByteArray} {l : List UInt8} (h : s.data.toList = l) : (s.toList == l) = true := by rw [ByteArray.toList_eq, h, beq_iff_eq]

theorem lit_no {s : ByteArray} {l : List UInt8} (h : s.data.toList ≠ l) : (s.toList == l) = false := by rw [ByteArray.toList_eq, beq_eq_false_iff_ne]; exact h

theorem udef_any (s : ByteArray) (w : World) :
    Calls Tryz.prog 95 #[.string s] w fun e w' => e = .returned (.tuple #[.int .i64 (defP s.data.toList).1, .bool (defP s.data.toList).2]) ∧ w' = w := by
  obtain ⟨D, hD⟩ : ∃ D, D = defP s.data.toList := ⟨_, rfl⟩
  rw [← hD]
  by_cases h0 : s.data.toList = httpL
  · have q0 := lit_yes h0
    have HQ : Hid (D = (80, true)) := Lib.hid (by rw [hD, h0]; decide)
    unfold httpL at q0
    clear hD h0
    go_enter Tryz.func95, Tryz.ntmps95
    go_wp2_with fail
    go_ret2
    exact ⟨by rw [HQ.out]; rfl, rfl⟩
  have q0 := lit_no h0
  unfold httpL at q0
  by_cases h1 : s.data.toList = wsL
  · have q1 := lit_yes h1
    have HQ : Hid (D = (80, true)) := Lib.hid (by rw [hD, h1]; decide)
    unfold wsL at q1
    clear hD h1
    go_enter Tryz.func95, Tryz.ntmps95
    go_wp2_with fail
    go_ret2
    exact ⟨by rw [HQ.out]; rfl, rfl⟩
  have q1 := lit_no h1
  unfold wsL at q1
  by_cases h2 : s.data.toList = httpsL
  · have q2 := lit_yes h2
    have HQ : Hid (D = (443, true)) := Lib.hid (by rw [hD, h2]; decide)
    unfold httpsL at q2
    clear hD h2
    go_enter Tryz.func95, Tryz.ntmps95
    go_wp2_with fail
    go_ret2
    exact ⟨by rw [HQ.out]; rfl, rfl⟩
  have q2 := lit_no h2
  unfold httpsL at q2
  by_cases h3 : s.data.toList = wssL
  · have q3 := lit_yes h3
    have HQ : Hid (D = (443, true)) := Lib.hid (by rw [hD, h3]; decide)
    unfold wssL at q3
    clear hD h3
    go_enter Tryz.func95, Tryz.ntmps95
    go_wp2_with fail
    go_ret2
    exact ⟨by rw [HQ.out]; rfl, rfl⟩
  have q3 := lit_no h3
  unfold wssL at q3
  by_cases h4 : s.data.toList = ftpL
  · have q4 := lit_yes h4
    have HQ : Hid (D = (21, true)) := Lib.hid (by rw [hD, h4]; decide)
    unfold ftpL at q4
    clear hD h4
    go_enter Tryz.func95, Tryz.ntmps95
    go_wp2_with fail
    go_ret2
    exact ⟨by rw [HQ.out]; rfl, rfl⟩
  have q4 := lit_no h4
  unfold ftpL at q4
  have HQ : Hid (D = (0, false)) := Lib.hid (by rw [hD]; unfold defP; rw [if_neg (by rintro (h | h); exact h0 h; exact h1 h), if_neg (by rintro (h | h); exact h2 h; exact h3 h), if_neg h4])
  clear hD h0 h1 h2 h3 h4
  go_enter Tryz.func95, Tryz.ntmps95
  go_wp2_with fail
  go_ret2
  exact ⟨by rw [HQ.out]; rfl, rfl⟩

theorem rdef_any (s : ByteArray) (w : World) :
    Calls Tryz.prog 60 #[.string s] w fun e w' => e = .returned (.tuple #[.int .i64 (defP s.data.toList).1, .bool (defP s.data.toList).2]) ∧ w' = w := by
  obtain ⟨D, hD⟩ : ∃ D, D = defP s.data.toList := ⟨_, rfl⟩
  rw [← hD]
  by_cases h0 : s.data.toList = httpL
  · have q0 := lit_yes h0
    have HQ : Hid (D = (80, true)) := Lib.hid (by rw [hD, h0]; decide)
    unfold httpL at q0
    clear hD h0
    go_enter Tryz.func60, Tryz.ntmps60
    go_wp2_with fail
    go_ret2
    exact ⟨by rw [HQ.out]; rfl, rfl⟩
  have q0 := lit_no h0
  unfold httpL at q0
  by_cases h1 : s.data.toList = wsL
  · have q1 := lit_yes h1
    have HQ : Hid (D = (80, true)) := Lib.hid (by rw [hD, h1]; decide)
    unfold wsL at q1
    clear hD h1
    go_enter Tryz.func60, Tryz.ntmps60
    go_wp2_with fail
    go_ret2
    exact ⟨by rw [HQ.out]; rfl, rfl⟩
  have q1 := lit_no h1
  unfold wsL at q1
  by_cases h2 : s.data.toList = httpsL
  · have q2 := lit_yes h2
    have HQ : Hid (D = (443, true)) := Lib.hid (by rw [hD, h2]; decide)
    unfold httpsL at q2
    clear hD h2
    go_enter Tryz.func60, Tryz.ntmps60
    go_wp2_with fail
    go_ret2
    exact ⟨by rw [HQ.out]; rfl, rfl⟩
  have q2 := lit_no h2
  unfold httpsL at q2
  by_cases h3 : s.data.toList = wssL
  · have q3 := lit_yes h3
    have HQ : Hid (D = (443, true)) := Lib.hid (by rw [hD, h3]; decide)
    unfold wssL at q3
    clear hD h3
    go_enter Tryz.func60, Tryz.ntmps60
    go_wp2_with fail
    go_ret2
    exact ⟨by rw [HQ.out]; rfl, rfl⟩
  have q3 := lit_no h3
  unfold wssL at q3
  by_cases h4 : s.data.toList = ftpL
  · have q4 := lit_yes h4
    have HQ : Hid (D = (21, true)) := Lib.hid (by rw [hD, h4]; decide)
    unfold ftpL at q4
    clear hD h4
    go_enter Tryz.func60, Tryz.ntmps60
    go_wp2_with fail
    go_ret2
    exact ⟨by rw [HQ.out]; rfl, rfl⟩
  have q4 := lit_no h4
  unfold ftpL at q4
  have HQ : Hid (D = (0, false)) := Lib.hid (by rw [hD]; unfold defP; rw [if_neg (by rintro (h | h); exact h0 h; exact h1 h), if_neg (by rintro (h | h); exact h2 h; exact h3 h), if_neg h4])
  clear hD h0 h1 h2 h3 h4
  go_enter Tryz.func60, Tryz.ntmps60
  go_wp2_with fail
  go_ret2
  exact ⟨by rw [HQ.out]; rfl, rfl⟩

/-! digits -/
theorem isD_dig (c : UInt8) : isD 10 c = isDig c.toNat := byte_all (p := fun c => isD 10 c = isDig c.toNat) (by decide +kernel) c

theorem allD_dig (l : List UInt8) : allD 10 l = l.all (fun c => isDig c.toNat) := by
  unfold allD
  congr 1
  funext c
  exact isD_dig c

theorem dig_val {c : UInt8} (h : isDig c.toNat = true) : (((hexI c.toNat).toNat : Nat) : Int) = (c.toNat : Int) - 48 := by
  have h1 := isDig_bd h
  unfold hexI
  rw [if_pos (by omega)]
  omega

theorem valD_num (l : List UInt8) (h : l.all (fun c => isDig c.toNat) = true) : ((valD 10 l : Nat) : Int) = numVal l := by
  have key : ∀ (l : List UInt8) (a : Nat) (b : Int), (a : Int) = b → l.all (fun c => isDig c.toNat) = true → ((l.foldl (fun n c => n * 10 + (hexI c.toNat).toNat) a : Nat) : Int) = l.foldl (fun n c => 10 * n + ((c.toNat : Int) - 48)) b := by
    intro l
    induction l with
    | nil => intro a b h _; exact h
    | cons c l ih =>
      intro a b hab hl
      rw [List.all_cons, Bool.and_eq_true] at hl
      refine ih _ _ ?_ hl.2
      have := dig_val hl.1
      show ((a * 10 + (hexI c.toNat).toNat : Nat) : Int) = 10 * b + ((c.toNat : Int) - 48)
      omega
  exact key l 0 0 rfl h

theorem valD_fold (b : Nat) : ∀ (l : List UInt8) (a : Nat), l.foldl (fun n c => n * b + (hexI c.toNat).toNat) a = a * b ^ l.length + valD b l
  | [], a => by simp [valD]
  | c :: l, a => by
    have e : valD b (c :: l) = l.foldl (fun n c => n * b + (hexI c.toNat).toNat) (0 * b + (hexI c.toNat).toNat) := rfl
    rw [List.foldl_cons, valD_fold b l, e, valD_fold b l, List.length_cons, Nat.pow_succ, Nat.zero_mul, Nat.zero_add]
    have h1 : (a * b + (hexI c.toNat).toNat) * b ^ l.length = a * (b ^ l.length * b) + (hexI c.toNat).toNat * b ^ l.length := by
      rw [Nat.add_mul, Nat.mul_assoc, Nat.mul_comm b]
    rw [h1]
    omega

def zerosL (l : List UInt8) : List UInt8 := l.dropWhile (fun c => c == 48)

theorem zeros_head (l : List UInt8) : (zerosL l).head? ≠ some 48 := by
  induction l with
  | nil => simp [zerosL]
  | cons c l ih =>
    unfold zerosL at ih ⊢
    rw [List.dropWhile_cons]
    split
    · exact ih
    · rename_i hc
      intro h
      apply hc
      simp at h
      rw [h]
      rfl

theorem zeros_len (l : List UInt8) : (zerosL l).length ≤ l.length := (List.dropWhile_sublist _).length_le

theorem port_some {sch d : List UInt8} (hd : d ≠ []) {v : Int} (h1 : allD 10 d = true) (h2 : ((valD 10 d : Nat) : Int) = v) (h3 : v ≤ 65535) : portP sch d = some (if v = (defP sch).1 then -1 else v) := by
  unfold portP
  rw [if_neg hd, if_pos ⟨h1, by omega⟩, h2]

theorem own_trunc {w : World} {base : Nat} {e : TypeId} {g m c : Nat} {xs : List Value} (h : w.ownsRow base e 1 (.slice (some ⟨g, 0, none⟩) (m + 1) c) (m + 1) xs) :
    w.ownsRow base e 1 (.slice (some ⟨g, 0, none⟩) m c) m (xs.take m) ∧ m + 1 ≤ c := by
  obtain ⟨hl, h⟩ := h
  rcases h with ⟨hv, _⟩ | ⟨g2, cap, cur, hv, hb, hh, hn, hm, hcs, ht⟩
  · cases hv
  · injection hv with e1 e2 e3
    injection e1 with e1
    injection e1 with e1
    subst e1 e3
    refine ⟨⟨by rw [List.length_take]; omega, .inr ⟨_, _, cur, rfl, hb, hh, by omega, hm, hcs, ?_⟩⟩, hn⟩
    rw [← ht, List.take_take]
    congr 1
    omega

theorem res_nil (acc : List (List UInt8)) : resGo acc [] = acc := rfl

theorem res_no {s : List UInt8} (h : dotsP s = 0) (acc r : List (List UInt8)) : resGo acc (s :: r) = resGo (acc ++ [encL 3 s]) r := by rw [resGo, if_pos h]

theorem res_dot {s : List UInt8} (h : dotsP s ≠ 0) (acc r : List (List UInt8)) : resGo acc (s :: r) = resGo ((if dotsP s = 2 then acc.dropLast else acc) ++ (if r = [] then [[]] else [])) r := by rw [resGo, if_neg h]

theorem dots_three (s : List UInt8) : dotsP s = 0 ∨ dotsP s = 1 ∨ dotsP s = 2 := by
  unfold dotsP
  split
  · exact .inr (.inl rfl)
  · split
    · exact .inr (.inr rfl)
    · exact .inl rfl

theorem enc_size {s : ByteArray} {N : Nat} (h : s.size ≤ N) (k : Int) : (encL k s.data.toList).length ≤ 3 * N := by
  have := encL_len k s.data.toList
  rw [size_data] at this
  omega

end Go.Proofs.YtnecjofgjbfheaaGreatDoor
