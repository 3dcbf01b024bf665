/- The code's parts, compose and Number. -/
import Derived.Test.YtlhdafinfgdlkaaGreatDoorShelf
import Derived.Lib.Strings
import Derived.BigQuiet
import Derived.Test.YtlhdafinfgdlkaaGreatDoorProg
import Derived.Test.YtlhdafinfgdlkaaGreatDoorKit
import Derived.Test.YtlhdafinfgdlkaaGreatDoorPlain
import Derived.Test.YtlhdafinfgdlkaaGreatDoorStr
import Derived.Test.YtlhdafinfgdlkaaGreatDoorAsc4
import Derived.Test.YtlhdafinfgdlkaaGreatDoorAsc5
import Derived.Test.YtlhdafinfgdlkaaGreatDoorRow
import Derived.Test.YtlhdafinfgdlkaaGreatDoorU32
import Derived.Test.YtlhdafinfgdlkaaGreatDoorHst0
import Derived.Test.YtlhdafinfgdlkaaGreatDoorHst1
namespace Go.Proofs.YtlhdafinfgdlkaaGreatDoor
open Go.RowKit Go.Proofs
set_option maxRecDepth 100000

theorem strL_mk (p : List UInt8) : strL p = .string ⟨p.toArray⟩ := rfl

theorem split_at_last (l : List UInt8) (m : Nat) (h : (splitL l 46).length = m + 1) : ∃ p, (splitL l 46)[m]? = some p ∧ (splitL l 46).getLast? = some p := by
  obtain ⟨xs, hxs⟩ : ∃ xs, xs = splitL l 46 := ⟨_, rfl⟩
  rw [← hxs] at h ⊢
  clear hxs
  refine ⟨xs[m]'(by omega), List.getElem?_eq_getElem (by omega), ?_⟩
  have e : xs.length - 1 = m := by omega
  rw [List.getLast?_eq_getElem?, e]
  exact List.getElem?_eq_getElem (by omega)

theorem sliceAt_less {w : World} {b off c m : Nat} {xs : List Value} (h : SliceAt w (.slice (some ⟨b, off, none⟩) xs.length c) xs) (hm : m ≤ xs.length) :
    SliceAt w (.slice (if c = 0 then some ⟨b, off, none⟩ else some ⟨b, off, none⟩) m c) (xs.take m) := by
  obtain ⟨a, c2, e, h2⟩ := h
  injection e with e1 e2 e3
  subst e1 e3
  refine ⟨some ⟨b, off, none⟩, c, by rw [List.length_take, Nat.min_eq_left hm]; simp, ?_⟩
  rcases h2 with rfl | ⟨b2, o2, e, h2⟩
  · left; simp
  · right
    injection e with e
    injection e with e1 e2
    subst e1 e2
    refine ⟨_, _, rfl, fun j x hj => h2 j x ?_⟩
    rw [List.getElem?_take] at hj
    split at hj
    · exact hj
    · exact absurd hj (by simp)

theorem hparts_any (s : ByteArray) (hs : s.size ≤ 1073741824) (w : World) :
    Calls Tryz.prog 90 #[.string s] w fun e w' => (∃ a c, e = .returned (.slice a (partsL s.data.toList).length c) ∧ (partsL s.data.toList).length ≤ c ∧ SliceAt w' (.slice a (partsL s.data.toList).length c) ((partsL s.data.toList).map strL)) ∧ Below w.heap.size w w' := by
  have HS := Lib.hid (split_any s 46 hs w)
  have hlen := splitL_len s.data.toList 46
  rw [size_data] at hlen
  have hpos := split_len s.data.toList 46
  obtain ⟨m, hm⟩ : ∃ m, (splitL s.data.toList 46).length = m + 1 := ⟨(splitL s.data.toList 46).length - 1, by omega⟩
  obtain ⟨p, hp, hlast⟩ := split_at_last _ m hm
  have hmz : m ≤ 1073741824 := by omega
  have HP : Hid (partsL s.data.toList = if 1 < m + 1 ∧ some p = some [] then (splitL s.data.toList 46).dropLast else splitL s.data.toList 46) := Lib.hid (by unfold partsL; rw [hm, hlast])
  rw [hm] at HS
  have HL := Lib.hid hm
  obtain ⟨xs, hxs⟩ : ∃ xs, xs = splitL s.data.toList 46 := ⟨_, rfl⟩
  rw [← hxs] at HS HP HL hp
  have HPP := Lib.hid hp
  clear hxs hm hlen hpos hlast hp
  go_enter Tryz.func90, Tryz.ntmps90
  go_wp2_with fail
  refine HS.out.mono ?_
  rintro e w1 ⟨⟨v, rfl, hown⟩, hb⟩
  have hsl := SliceAt.own hown
  have HB := Lib.hid hb
  obtain ⟨a, c, rfl⟩ := own_len hown
  have hcap : m + 1 ≤ c := by
    rcases hown.2 with ⟨_, h⟩ | ⟨g, cap, cur, e, _, _, hnc, _⟩
    · omega
    · injection e with _ _ e
      omega
  have hc0 : ¬ c = 0 := by omega
  have hmc : (m : Int) ≤ (c : Int) := by omega
  have hne : xs.map strL ≠ [] := by
    intro h
    have := congrArg List.length h
    rw [List.length_map, HL.out] at this
    simp at this
  obtain ⟨b, off, c2, e, hcell⟩ := SliceAt.at hsl hne
  injection e with e1 e2 e3
  subst e1 e3
  have hx := hcell m (strL p) (by rw [List.getElem?_map, HPP.out]; rfl)
  rw [strL_mk] at hx
  have HSL := Lib.hid hsl
  clear hsl hcell hne e2 hb hown
  obtain ⟨pt, hpt⟩ : ∃ pt : ByteArray, pt = ⟨p.toArray⟩ := ⟨_, rfl⟩
  rw [← hpt] at hx
  by_cases hm0 : 0 < m
  · have hz0 : (0 : Int) < (m : Int) := by omega
    by_cases he : p = []
    · have hpe := emptyYes (t := pt) (by rw [hpt, he]; rfl)
      clear hpt
      go_wp2
      go_ret
      have hl := HL.out
      have hh := sliceAt_less (m := m) (xs := xs.map strL) (by rw [List.length_map, hl]; exact HSL.out) (by rw [List.length_map]; omega)
      rw [if_neg hc0] at hh
      have e1 : partsL s.data.toList = xs.take m := by rw [HP.out, if_pos ⟨by omega, by rw [he]⟩, List.dropLast_eq_take, hl, Nat.add_sub_cancel]
      have e2 : (xs.take m).length = m := by rw [List.length_take, hl]; omega
      rw [e1, e2, List.map_take]
      exact ⟨⟨_, _, rfl, by omega, hh⟩, HB.out⟩
    · have hpe := emptyNo (t := pt) (by rw [hpt, mk_size]; exact fun h => he (List.eq_nil_of_length_eq_zero h))
      clear hpt
      go_wp2
      go_ret
      have e1 : partsL s.data.toList = xs := by rw [HP.out, if_neg (by rintro ⟨_, h⟩; injection h with h; exact he h)]
      rw [e1, HL.out]
      exact ⟨⟨_, _, rfl, hcap, HSL.out⟩, HB.out⟩
  · have hz0 : ¬ (0 : Int) < (m : Int) := by omega
    clear hpt
    go_wp2
    go_ret
    have e1 : partsL s.data.toList = xs := by rw [HP.out, if_neg (by rintro ⟨h, _⟩; omega)]
    rw [e1, HL.out]
    exact ⟨⟨_, _, rfl, hcap, HSL.out⟩, HB.out⟩

theorem drew_drew {w w1 w2 : World} (h : Drew w w1) (h2 : Drew w1 w2) : Drew w w2 := by
  obtain ⟨m, rfl⟩ := h2
  exact Drew.more h m

def optN (o : Option Nat) : Nat := o.getD 0

theorem or_u32 (a b : Nat) (ha : a < 4294967296) (hb : b < 4294967296) : bits .or .u32 (a : Int) (b : Int) = ((a ||| b : Nat) : Int) := by
  have h := iw_or (UInt32.ofNat a) (UInt32.ofNat b)
  unfold iw at h
  rw [UInt32.toNat_ofNat_of_lt' ha, UInt32.toNat_ofNat_of_lt' hb, UInt32.toNat_or, UInt32.toNat_ofNat_of_lt' ha, UInt32.toNat_ofNat_of_lt' hb] at h
  exact h

theorem or_add (s h n l : Nat) (hn : n < 256) (hl : l < 2 ^ s) : (h * 2 ^ (s + 8) + l) ||| (n * 2 ^ s) = h * 2 ^ (s + 8) + l + n * 2 ^ s := by
  have e1 : l < 2 ^ (s + 8) := Nat.lt_of_lt_of_le hl (Nat.pow_le_pow_right (by decide) (by omega))
  have e2 : 2 ^ s * n + l < 2 ^ (s + 8) := by
    have h1 : 2 ^ s * n ≤ 2 ^ s * 255 := Nat.mul_le_mul_left _ (by omega)
    have h2 : 2 ^ (s + 8) = 2 ^ s * 256 := by rw [Nat.pow_add]
    rw [h2]
    omega
  rw [Nat.mul_comm h, Nat.mul_comm n]
  conv => lhs; rw [Nat.two_pow_add_eq_or_of_lt e1, Nat.or_assoc, Nat.or_comm l, ← Nat.two_pow_add_eq_or_of_lt hl, ← Nat.two_pow_add_eq_or_of_lt e2]
  omega

theorem sumP_head (m : Nat) (p : List UInt8) {r : List (List UInt8)} (hr : r ≠ []) : sumP m (p :: r) = match numP p with | none => none | some n => if n ≤ 255 then (sumP (m - 1) r).map (n * 256 ^ (m - 1) + ·) else none := by
  match r, hr with
  | q :: r, _ => exact sumP_more m p q r

theorem sum_bad (last : List UInt8) : ∀ (ps : List (List UInt8)) (m : Nat), sumP (m - ps.length) [last] = none → sumP m (ps ++ [last]) = none
  | [], m, h => h
  | p :: r, m, h => by
    rw [List.cons_append, sumP_head m p (by simp)]
    cases numP p with
    | none => rfl
    | some n =>
      simp only
      rw [sum_bad last r (m - 1) (by rw [List.length_cons] at h; rw [← h]; congr 1; omega)]
      split <;> rfl

theorem pow_wrap : ∀ k ≤ 3, IntKind.u64.wrap ((2 : Int) ^ (8 * (4 - k))) = ((256 ^ (4 - k) : Nat) : Int) := by decide

theorem pow_le4 (k : Nat) : 256 ^ (4 - k) ≤ 4294967296 := Nat.pow_le_pow_right (by decide : 256 > 0) (by omega : 4 - k ≤ 4)

theorem pow_two (k : Nat) : 256 ^ k = 2 ^ (8 * k) := by rw [Nat.pow_mul]

theorem part_next {ps : List (List UInt8)} {p last : List UInt8} {j h n : Nat} {T : Option Nat} (hj : j ≤ 2) (hp : ps[j]? = some p) (hn : numP p = some n) (hn2 : n < 256)
    (ht : T = (sumP (4 - j) (ps.drop j ++ [last])).map (h * 256 ^ (4 - j) + ·)) : T = (sumP (4 - (j + 1)) (ps.drop (j + 1) ++ [last])).map ((h * 256 + n) * 256 ^ (4 - (j + 1)) + ·) := by
  obtain ⟨hl, rfl⟩ := List.getElem?_eq_some_iff.1 hp
  rw [ht, List.drop_eq_getElem_cons hl, List.cons_append, sumP_head _ _ (by simp), hn]
  simp only
  rw [if_pos (by omega), Option.map_map]
  have e : 4 - j - 1 = 4 - (j + 1) := by omega
  have e2 : 256 ^ (4 - j) = 256 * 256 ^ (4 - (j + 1)) := by
    have : 4 - j = (4 - (j + 1)) + 1 := by omega
    rw [this, Nat.pow_succ, Nat.mul_comm]
  rw [e, e2]
  congr 1
  funext x
  simp only [Function.comp_apply, Nat.add_mul, Nat.mul_assoc]
  omega

theorem part_bad {ps : List (List UInt8)} {p last : List UInt8} {j h : Nat} {T : Option Nat} (hp : ps[j]? = some p) (hn : pvB (numP p) 256 = false)
    (ht : T = (sumP (4 - j) (ps.drop j ++ [last])).map (h * 256 ^ (4 - j) + ·)) : T = none := by
  obtain ⟨hl, rfl⟩ := List.getElem?_eq_some_iff.1 hp
  rw [ht, List.drop_eq_getElem_cons hl, List.cons_append, sumP_head _ _ (by simp)]
  cases h2 : numP ps[j] with
  | none => rfl
  | some n =>
    rw [h2] at hn
    simp only [pvB, decide_eq_false_iff_not] at hn
    simp only
    rw [if_neg (by omega)]
    rfl

theorem pvB_yes {o : Option Nat} {lim : Nat} (h : pvB o lim = true) : ∃ n, o = some n ∧ n < lim ∧ pvN o lim = n := by
  cases o with
  | none => simp [pvB] at h
  | some n =>
    simp only [pvB, decide_eq_true_eq] at h
    exact ⟨n, rfl, h, by simp only [pvN]; omega⟩

theorem strings_at {w w' : World} {a : Option Addr} {k c : Nat} {ps : List (List UInt8)} (h : SliceAt w (.slice a k c) (ps.map strL)) (hd : Drew w w') {j : Nat} {p : List UInt8} (hp : ps[j]? = some p) :
    ∃ b off, a = some ⟨b, off, none⟩ ∧ w'.cell? ⟨b, off + j, none⟩ = some (.string ⟨p.toArray⟩) := by
  obtain ⟨a2, c2, e, h2⟩ := h
  injection e with e1 e2 e3
  subst e1 e3
  rcases h2 with h2 | ⟨b, off, rfl, h2⟩
  · have := congrArg (fun l : List Value => l[j]?) h2
    simp [hp] at this
  · obtain ⟨m, rfl⟩ := hd
    exact ⟨b, off, rfl, h2 j _ (by rw [List.getElem?_map, hp]; rfl)⟩

theorem or_step (h n nl j k : Nat) (hj : j < k) (hk : k ≤ 3) (hh : h < 256 ^ j) (hn : n < 256) (hl : nl < 256 ^ (4 - k)) :
    bits .or .u32 ((h * 256 ^ (4 - j) + nl : Nat) : Int) ((n : Int) * 2 ^ (8 * (3 - j)) % 4294967296) = (((h * 256 + n) * 256 ^ (4 - (j + 1)) + nl : Nat) : Int) ∧ h * 256 + n < 256 ^ (j + 1) := by
  have e0 : 4 - (j + 1) = 3 - j := by omega
  have hp : 256 ^ (4 - k) ≤ 256 ^ (3 - j) := Nat.pow_le_pow_right (by decide) (by omega)
  have hl2 : nl < 2 ^ (8 * (3 - j)) := by rw [← pow_two]; omega
  have e1 : 256 ^ (4 - j) = 2 ^ (8 * (3 - j) + 8) := by rw [pow_two]; congr 1; omega
  have e2 : 2 ^ (8 * (3 - j) + 8) = 2 ^ (8 * (3 - j)) * 256 := by rw [Nat.pow_add]
  have hp3 : 2 ^ (8 * (3 - j)) ≤ 16777216 := Nat.pow_le_pow_right (n := 2) (by decide) (by omega : 8 * (3 - j) ≤ 24)
  have h3 : h + 1 ≤ 256 ^ j := hh
  have hall : 256 ^ j * 256 ^ (4 - j) = 4294967296 := by
    rw [← Nat.pow_add]
    have : j + (4 - j) = 4 := by omega
    rw [this]
  have hm : (h + 1) * 256 ^ (4 - j) ≤ 4294967296 := by rw [← hall]; exact Nat.mul_le_mul_right _ h3
  rw [Nat.add_mul, Nat.one_mul] at hm
  have hnl : nl < 256 ^ (4 - j) := by rw [e1, e2]; omega
  have hn2 : n * 2 ^ (8 * (3 - j)) ≤ 255 * 2 ^ (8 * (3 - j)) := Nat.mul_le_mul_right _ (by omega)
  have e3 : (n : Int) * 2 ^ (8 * (3 - j)) % 4294967296 = ((n * 2 ^ (8 * (3 - j)) : Nat) : Int) := by
    have : ((n * 2 ^ (8 * (3 - j)) : Nat) : Int) = (n : Int) * 2 ^ (8 * (3 - j)) := by simp
    rw [← this]
    omega
  refine ⟨?_, ?_⟩
  · rw [e3, or_u32 _ _ (by omega) (by omega), e1, or_add _ h n nl hn hl2, e0, pow_two, Nat.add_mul, Nat.mul_assoc h, e2, Nat.mul_comm 256]
    congr 1
    omega
  · rw [Nat.pow_succ]
    omega

theorem hcompose_any (last : ByteArray) (ps : List (List UInt8)) (k : Nat) (hk : ps.length = k) (hk3 : k ≤ 3) (a : Option Addr) (c : Nat) (w : World) (hs : last.size ≤ 1073741824) (hl : lowL last.data.toList = last.data.toList)
    (hps : ∀ p ∈ ps, lowL p = p ∧ p.length ≤ 1073741824) (hv : SliceAt w (.slice a k c) (ps.map strL)) :
    Calls Tryz.prog 123 #[.string last, .slice a k c] w fun e w' => e = .returned (.tuple #[.int .u32 ((optN (sumP 4 (ps ++ [last.data.toList])) : Nat) : Int), .bool (sumP 4 (ps ++ [last.data.toList])).isSome]) ∧ Drew w w' := by
  have HP := Lib.hid (hpart_any last hs hl (256 ^ (4 - k)) (pow_le4 k) w)
  rw [← pow_wrap k hk3] at HP
  obtain ⟨T, hT⟩ : ∃ T, T = sumP 4 (ps ++ [last.data.toList]) := ⟨_, rfl⟩
  rw [← hT]
  have HV := Lib.hid hv
  have HK := Lib.hid hk
  have HPS := Lib.hid hps
  cases hB : pvB (numP last.data.toList) (256 ^ (4 - k))
  · have hno : T = none := by
      rw [hT]
      apply sum_bad
      rw [hk, sumP_one]
      cases h2 : numP last.data.toList with
      | none => rfl
      | some n =>
        rw [h2] at hB
        simp only [pvB, decide_eq_false_iff_not] at hB
        simp only
        rw [if_neg hB]
    rw [hB] at HP
    obtain ⟨z0, hz0⟩ : ∃ z0 : Int, z0 = (pvN (numP last.data.toList) (256 ^ (4 - k)) : Nat) := ⟨_, rfl⟩
    rw [← hz0] at HP
    clear hv hk hps hT hB hz0 hs hl
    subst hno
    go_enter Tryz.func123, Tryz.ntmps123
    go_wp2_with fail
    refine HP.out.mono ?_
    rintro e w1 ⟨rfl, hd⟩
    go_wp2
    go_ret2
    exact ⟨rfl, hd⟩
  · obtain ⟨nl, hnl, hlt, hpv⟩ := pvB_yes hB
    rw [hB, hpv] at HP
    have hnl32 : nl < 4294967296 := Nat.lt_of_lt_of_le hlt (pow_le4 k)
    have HT0 : Hid (T = (sumP (4 - 0) (ps.drop 0 ++ [last.data.toList])).map (0 * 256 ^ (4 - 0) + ·)) := Lib.hid (by rw [hT]; simp)
    have HEND : Hid (sumP (4 - k) [last.data.toList] = some nl) := Lib.hid (by rw [sumP_one, hnl]; simp only; rw [if_pos hlt])
    have HLT := Lib.hid hlt
    have HNL := Lib.hid hnl32
    obtain ⟨z0, hz0⟩ : ∃ z0 : Int, z0 = (nl : Int) := ⟨_, rfl⟩
    rw [← hz0] at HP
    have hz : 0 ≤ z0 ∧ z0 < 4294967296 := by omega
    have HZ := Lib.hid hz0
    clear hv hk hps hT hB hz0 hs hl hpv hnl hlt hnl32
    go_enter Tryz.func123, Tryz.ntmps123
    go_wp2_with fail
    refine HP.out.mono ?_
    rintro e w1 ⟨rfl, hd⟩
    have HD := Lib.hid hd
    clear hd HP
    go_wp2_with fail
    go_loopw [8, 29] (fun A i wr => ∃ (j : Nat) (h : Nat) (z : Int), j ≤ k ∧ i = .int .i64 j ∧ A = .int .u32 z ∧ Hid (z = ((h * 256 ^ (4 - j) + nl : Nat) : Int)) ∧ Hid (h < 256 ^ j) ∧ Hid (T = (sumP (4 - j) (ps.drop j ++ [last.data.toList])).map (h * 256 ^ (4 - j) + ·)) ∧ Hid (Drew w wr)) (fun _ i _ => k - (intOf i).toNat)
    case atStart => exact ⟨0, 0, z0, Nat.zero_le _, rfl, rfl, Lib.hid (by rw [HZ.out]; simp), Lib.hid (by decide), HT0, HD⟩
    case round =>
      obtain ⟨j, h, z, hj, rfl, rfl, HZJ, HH, HTJ, HDJ⟩ := hrel
      by_cases hlt : j < k
      · have hlz : (j : Int) < (k : Int) := by omega
        obtain ⟨p, hp⟩ : ∃ p, ps[j]? = some p := ⟨_, List.getElem?_eq_getElem (by rw [HK.out]; exact hlt)⟩
        obtain ⟨b, off, rfl, hcell⟩ := strings_at HV.out HDJ.out hp
        have hpp := HPS.out p (List.mem_of_getElem? hp)
        obtain ⟨pt, hpt⟩ : ∃ pt : ByteArray, pt = ⟨p.toArray⟩ := ⟨_, rfl⟩
        have HPV := Lib.hid (fun W => hpart_any pt (by rw [hpt]; exact hpp.2) (by rw [hpt]; exact hpp.1) 256 (by decide) W)
        have e1 : pt.data.toList = p := by rw [hpt]
        rw [e1] at HPV
        rw [← hpt] at hcell
        cases hQ : pvB (numP p) 256
        · have HNO := Lib.hid (part_bad hp hQ HTJ.out)
          rw [hQ] at HPV
          obtain ⟨z1, hz1⟩ : ∃ z1 : Int, z1 = (pvN (numP p) 256 : Nat) := ⟨_, rfl⟩
          have HPV2 : Hid (∀ W, Calls Tryz.prog 146 #[.string pt, .int .u64 256] W fun e w' => e = .returned (.tuple #[.int .u64 z1, .bool false]) ∧ Drew W w') := Lib.hid (fun W => by rw [hz1]; exact HPV.out W)
          clear HPV hz1 hQ hp hpp hpt e1
          go_wp2_with fail
          refine (HPV2.out _).mono ?_
          rintro e w2 ⟨rfl, hd2⟩
          go_wp2
          go_ret2
          refine ⟨by rw [HNO.out]; rfl, ?_⟩
          exact drew_drew HDJ.out hd2
        · obtain ⟨n, hn, hn2, hpv⟩ := pvB_yes hQ
          have HNX := Lib.hid (part_next (by omega) hp hn hn2 HTJ.out)
          rw [hQ, hpv] at HPV
          obtain ⟨z1, hz1⟩ : ∃ z1 : Int, z1 = (n : Int) := ⟨_, rfl⟩
          have HPV2 : Hid (∀ W, Calls Tryz.prog 146 #[.string pt, .int .u64 256] W fun e w' => e = .returned (.tuple #[.int .u64 z1, .bool true]) ∧ Drew W w') := Lib.hid (fun W => by rw [hz1]; exact HPV.out W)
          have hzb : 0 ≤ z1 ∧ z1 < 256 := by omega
          have HOR := Lib.hid (or_step h n nl j k hlt hk3 HH.out hn2 HLT.out)
          rw [← HZJ.out, ← hz1] at HOR
          clear HPV hz1 hQ hp hpp hpt e1 hn hn2 hpv
          go_wp2_with fail
          refine (HPV2.out _).mono ?_
          rintro e w2 ⟨rfl, hd2⟩
          have HD2 := Lib.hid (drew_drew HDJ.out hd2)
          clear hd2
          go_wp2_with fail
          go_roundw
          case rel => exact ⟨j + 1, h * 256 + n, _, by omega, by go_num, rfl, Lib.hid HOR.out.1, Lib.hid HOR.out.2, HNX, HD2⟩
          case measure => simp [intOf]; omega
      · have hje : j = k := by omega
        subst hje
        have hfin := HTJ.out
        rw [List.drop_of_length_le (by rw [HK.out]; exact Nat.le_refl _), List.nil_append, HEND.out] at hfin
        have HF := Lib.hid hfin
        clear hfin
        go_wp2
        go_ret2
        refine ⟨?_, HDJ.out⟩
        rw [HF.out, HZJ.out]
        rfl

theorem splitGo_size (sep : UInt8) : ∀ (l cur p : List UInt8), p ∈ splitGo sep cur l → p.length ≤ cur.length + l.length
  | [], cur, p, h => by
    simp [splitGo] at h
    rw [h]
    simp
  | c :: l, cur, p, h => by
    rw [splitGo] at h
    split at h
    · rcases List.mem_cons.1 h with rfl | h
      · simp
      · have := splitGo_size sep l [] p h
        simp at this ⊢
        omega
    · have := splitGo_size sep l _ p h
      simp at this ⊢
      omega

theorem parts_size {l p : List UInt8} (h : p ∈ partsL l) : p.length ≤ l.length := by
  have h2 : p ∈ splitL l 46 := by
    unfold partsL at h
    split at h
    · exact List.dropLast_subset _ h
    · exact h
  have := splitGo_size 46 l [] p h2
  simpa using this

theorem parts_lowed {s p : List UInt8} (h : p ∈ partsL (lowL s)) : lowL p = p ∧ p.length ≤ s.length := by
  have h2 := parts_size h
  rw [low_length] at h2
  rw [parts_low] at h
  obtain ⟨q, _, rfl⟩ := List.mem_map.1 h
  exact ⟨lowL_low q, h2⟩

theorem take_last {ps : List (List UInt8)} {m : Nat} (h : ps.length = m + 1) : ∃ last, ps[m]? = some last ∧ ps = ps.take m ++ [last] := by
  refine ⟨ps[m]'(by omega), List.getElem?_eq_getElem (by omega), ?_⟩
  rw [← List.take_succ_eq_append_getElem (by omega), List.take_of_length_le (by omega)]

theorem hnumber_any (s : ByteArray) (hs : s.size ≤ 1073741824) (w : World) :
    Calls Tryz.prog 92 #[.string s] w fun e w' => e = .returned (.tuple #[.int .u32 ((optN (numberP s.data.toList) : Nat) : Int), .bool (numberP s.data.toList).isSome]) ∧ Below w.heap.size w w' := by
  obtain ⟨d, hd⟩ : ∃ d : ByteArray, d = ⟨(lowL s.data.toList).toArray⟩ := ⟨_, rfl⟩
  have hdl : d.data.toList = lowL s.data.toList := by rw [hd]
  have hds : d.size ≤ 1073741824 := by rw [← size_data, hdl, low_length, size_data]; exact hs
  have HL := Lib.hid (lower_str_any s hs w)
  rw [← hd] at HL
  have HPT := Lib.hid (fun W => hparts_any d hds W)
  obtain ⟨m, hm⟩ : ∃ m, (partsL d.data.toList).length = m + 1 := ⟨(partsL d.data.toList).length - 1, by have := parts_pos d.data.toList; omega⟩
  obtain ⟨last, hlast, hcut⟩ := take_last hm
  have hmz : m ≤ 1073741824 := by
    have h1 : (partsL d.data.toList).length ≤ (splitL d.data.toList 46).length := by
      unfold partsL
      split
      · rw [List.length_dropLast]; omega
      · exact Nat.le_refl _
    have h2 := splitL_len d.data.toList 46
    rw [size_data] at h2
    omega
  have hN : numberP s.data.toList = addrP (partsL d.data.toList) := by rw [← number_low, ← hdl]; rfl
  rw [hN]
  have HE : Hid (∀ p ∈ partsL d.data.toList, lowL p = p ∧ p.length ≤ 1073741824) := Lib.hid (fun p hp => by
    rw [hdl] at hp
    have := parts_lowed hp
    rw [size_data] at this
    exact ⟨this.1, by omega⟩)
  obtain ⟨ps, hps⟩ : ∃ ps, ps = partsL d.data.toList := ⟨_, rfl⟩
  rw [← hps] at HPT HE hm hlast hcut ⊢
  rw [hm] at HPT
  have HM := Lib.hid hm
  have HLA := Lib.hid hlast
  have HCUT := Lib.hid hcut
  clear hN hps hd hdl hds hs hm hlast hcut
  go_enter Tryz.func92, Tryz.ntmps92
  go_wp2_with fail
  refine HL.out.mono ?_
  rintro e w1 ⟨rfl, hb1⟩
  have HB1 := Lib.hid hb1
  clear hb1
  go_wp2_with fail
  refine (HPT.out _).mono ?_
  rintro e w2 ⟨⟨a, c, rfl, hc, hsl⟩, hb2⟩
  have HB2 := Lib.hid (below_then HB1.out hb2)
  have HSL := Lib.hid hsl
  clear hb2 hsl
  by_cases h4 : m ≤ 3
  · have hmz4 : ¬ (4 : Int) < (m : Int) + 1 := by omega
    obtain ⟨b, off, rfl, hcell⟩ := strings_at (w' := w2) HSL.out ⟨0, rfl⟩ HLA.out
    have hc0 : ¬ c = 0 := by omega
    have hmc : (m : Int) ≤ (c : Int) := by omega
    have hh := sliceAt_less (m := m) (xs := ps.map strL) (by rw [List.length_map, HM.out]; exact HSL.out) (by rw [List.length_map, HM.out]; omega)
    rw [if_neg hc0, ← List.map_take] at hh
    obtain ⟨lt, hlt⟩ : ∃ lt : ByteArray, lt = ⟨last.toArray⟩ := ⟨_, rfl⟩
    have hll := HE.out last (List.mem_of_getElem? HLA.out)
    have HCO := Lib.hid (fun n => hcompose_any lt (ps.take m) m (by rw [List.length_take, HM.out]; omega) h4 (some ⟨b, off, none⟩) c (w2.drewN n) (by rw [hlt, mk_size]; exact hll.2) (by rw [hlt]; exact hll.1)
      (fun p hp => HE.out p (List.take_subset _ _ hp)) (SliceAt.below hh (below_draws (Below.refl _ _) ⟨n, rfl⟩)))
    have e1 : lt.data.toList = last := by rw [hlt]
    rw [e1, ← HCUT.out] at HCO
    rw [← hlt] at hcell
    have HR : Hid (addrP ps = sumP 4 ps) := Lib.hid (by unfold addrP; rw [if_pos (by rw [HM.out]; omega)])
    obtain ⟨S, hS⟩ : ∃ S, S = sumP 4 ps := ⟨_, rfl⟩
    rw [← hS] at HCO HR
    have i1 : (0 : Int) ≤ (m : Int) := by omega
    clear hS hlt hll e1 hh
    go_wp2_with fail
    have i2 : (m : Int) < (m : Int) + 1 := by omega
    have i3 : (m : Int) < ((m + 1 : Nat) : Int) := by omega
    go_quiet ((go_at_call 123; exact Calls.quiet_of (HCO.out _)))
    go_wp2
    go_ret2
    refine ⟨by rw [HR.out]; rfl, ?_⟩
    exact below_draws HB2.out ⟨_, rfl⟩
  · have hmz4 : (4 : Int) < (m : Int) + 1 := by omega
    have HR : Hid (addrP ps = none) := Lib.hid (by unfold addrP; rw [if_neg (by rw [HM.out]; omega)])
    go_wp2
    go_ret2
    exact ⟨by rw [HR.out]; rfl, HB2.out⟩

end Go.Proofs.YtlhdafinfgdlkaaGreatDoor
