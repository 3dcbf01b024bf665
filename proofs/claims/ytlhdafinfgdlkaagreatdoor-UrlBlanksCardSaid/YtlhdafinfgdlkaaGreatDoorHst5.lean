/- The reference's part, Number and Address. -/
import Derived.Lib.Strings
import Derived.BigQuiet
import Derived.Test.YtlhdafinfgdlkaaGreatDoorProg
import Derived.Test.YtlhdafinfgdlkaaGreatDoorKit
import Derived.Test.YtlhdafinfgdlkaaGreatDoorAsc4
import Derived.Test.YtlhdafinfgdlkaaGreatDoorRow
import Derived.Test.YtlhdafinfgdlkaaGreatDoorHst0
import Derived.Test.YtlhdafinfgdlkaaGreatDoorHst1
import Derived.Test.YtlhdafinfgdlkaaGreatDoorHst2
import Derived.Test.YtlhdafinfgdlkaaGreatDoorHst3
import Derived.Test.YtlhdafinfgdlkaaGreatDoorHst4
namespace Go.Proofs.YtlhdafinfgdlkaaGreatDoor
open Go.RowKit Go.Proofs
set_option maxRecDepth 100000

theorem rpart_any (s : ByteArray) (hs : s.size ≤ 1073741824) (w : World) :
    Calls Tryz.prog 132 #[.string s] w fun e w' => e = .returned (.tuple #[.int .u64 ((optN (p32 (numP s.data.toList)) : Nat) : Int), .bool (p32 (numP s.data.toList)).isSome]) ∧ w' = w := by
  by_cases h2 : 2 ≤ s.size
  · have hne := ne_of_size (s := s) (by omega)
    have hx := xpre_at s h2
    have ho := opre_at s h2
    by_cases c0 : (s[0].toNat : Int) = 48
    · have b0 : ((s[0].toNat : Int) == 48) = true := beq_iff_eq.2 c0
      by_cases c1 : (s[1].toNat : Int) = 120 ∨ (s[1].toNat : Int) = 88
      · have hxt : xpre s.data.toList = true := by
          rw [hx, decide_eq_true c0]
          rcases c1 with c | c <;> simp [c]
        by_cases h3 : s.size = 2
        · have hT : p32 (numP s.data.toList) = some 0 := by
            rw [numP_x hxt, List.drop_of_length_le (by rw [size_data]; omega)]
            rfl
          rw [hT]
          have i0 : 0 < s.size := by omega
          have i0z : (0 : Int) < (s.size : Int) := by omega
          have i1 : 1 < s.size := by omega
          have i1z : (1 : Int) < (s.size : Int) := by omega
          have h2z : (2 : Int) ≤ (s.size : Int) := by omega
          obtain ⟨t, ht⟩ : ∃ t, s.extract 2 s.size = t := ⟨_, rfl⟩
          have hse := emptyYes (t := t) (by rw [← ht, ByteArray.size_extract]; omega)
          clear hx ho hxt hT h3 hne
          rcases c1 with c | c
          · have b1 : ((s[1].toNat : Int) == 120) = true := beq_iff_eq.2 c
            go_enter Tryz.func132, Tryz.ntmps132
            go_wp2
            go_ret2
            exact ⟨rfl, rfl⟩
          · have b1 : ((s[1].toNat : Int) == 120) = false := beq_eq_false_iff_ne.2 (by omega)
            have b2 : ((s[1].toNat : Int) == 88) = true := beq_iff_eq.2 c
            go_enter Tryz.func132, Tryz.ntmps132
            go_wp2
            go_ret2
            exact ⟨rfl, rfl⟩
        · have htd : (s.extract 2 s.size).data.toList = s.data.toList.drop 2 := extract_tail _ _
          have hne2 : (s.extract 2 s.size).data.toList ≠ [] := by rw [htd]; exact drop_ne (by rw [size_data]; omega)
          have hT : numP s.data.toList = valP 16 (s.extract 2 s.size).data.toList := by rw [htd]; exact numP_x hxt
          have hsz : (s.extract 2 s.size).size ≤ 1073741824 := by rw [ByteArray.size_extract]; omega
          rcases c1 with c | c
          · exact rpart_x s _ _ w hsz hne2 hT rfl h2 b0 (beq_iff_eq.2 c)
          · exact rpart_y s _ _ w hsz hne2 hT rfl h2 b0 (beq_eq_false_iff_ne.2 (by omega)) (beq_iff_eq.2 c)
      · have hxf : xpre s.data.toList = false := by
          rw [hx, decide_eq_false (fun h => c1 (.inl h)), decide_eq_false (fun h => c1 (.inr h))]
          simp
        have hot : opre s.data.toList = true := by rw [ho]; exact decide_eq_true c0
        obtain ⟨hT, hl⟩ := numP_oct hxf hot
        have htd : (s.extract 1 s.size).data.toList = s.data.toList.drop 1 := extract_tail _ _
        rw [← htd] at hT
        exact rpart_o s _ _ w (by rw [ByteArray.size_extract]; omega) (by rw [htd]; exact drop_ne hl) hT rfl h2 b0 (beq_eq_false_iff_ne.2 (fun h => c1 (.inl h))) (beq_eq_false_iff_ne.2 (fun h => c1 (.inr h)))
    · have hxf : xpre s.data.toList = false := by rw [hx, decide_eq_false c0]; rfl
      have hof : opre s.data.toList = false := by rw [ho]; exact decide_eq_false c0
      exact rpart_d s s _ w hs hne (numP_d hxf hof hne) rfl h2 (beq_eq_false_iff_ne.2 c0)
  · obtain ⟨hxf, hof⟩ := xpre_short s h2
    by_cases h0 : s.size = 0
    · have he := nil_size h0
      have hT : p32 (numP s.data.toList) = none := by rw [he]; rfl
      have HD := Lib.hid (rdigits_any s 10 (by decide) hs w)
      have hd : digP 10 s.data.toList = false := by rw [he]; rfl
      rw [show ((10 : Nat) : Int) = 10 from rfl, hd] at HD
      rw [hT]
      have h2z : ¬ (2 : Int) ≤ (s.size : Int) := by omega
      clear hxf hof he hT hd h0
      go_enter Tryz.func132, Tryz.ntmps132
      go_wp2_with fail
      refine HD.out.mono ?_
      rintro e w3 ⟨rfl, rfl⟩
      go_wp2
      go_ret2
      exact ⟨rfl, rfl⟩
    · have hne := ne_of_size h0
      exact rpart_d1 s s _ w hs hne (numP_d hxf hof hne) rfl h2

theorem pow_wrap5 : ∀ m ≤ 4, 1 ≤ m → IntKind.u64.wrap ((2 : Int) ^ (8 * (5 - m))) = ((256 ^ (5 - m) : Nat) : Int) := by decide

theorem shift_fits (n j : Nat) (hn : n ≤ 255) : IntKind.u64.wrap ((n : Int) * 2 ^ (8 * (3 - j))) = ((n * 256 ^ (3 - j) : Nat) : Int) ∧ n * 256 ^ (3 - j) < 4294967296 := by
  have h1 : 256 ^ (3 - j) ≤ 16777216 := Nat.pow_le_pow_right (by decide : 256 > 0) (by omega : 3 - j ≤ 3)
  have h2 : n * 256 ^ (3 - j) ≤ 255 * 16777216 := Nat.mul_le_mul hn h1
  refine ⟨?_, by omega⟩
  have e : ((n * 256 ^ (3 - j) : Nat) : Int) = (n : Int) * 2 ^ (8 * (3 - j)) := by rw [pow_two]; simp
  rw [← e, IntKind.wrap_u64]
  omega

theorem last_now {ps : List (List UInt8)} {p : List UInt8} {j h : Nat} {T : Option Nat} (hl : ps.length = j + 1) (hp : ps[j]? = some p) (ht : T = (sumP (4 - j) (ps.drop j)).map (h * 256 ^ (4 - j) + ·)) :
    T = (match numP p with | none => none | some n => if n < 256 ^ (4 - j) then some (h * 256 ^ (4 - j) + n) else none) := by
  obtain ⟨hj, rfl⟩ := List.getElem?_eq_some_iff.1 hp
  rw [ht, List.drop_eq_getElem_cons hj, List.drop_of_length_le (by omega), sumP_one]
  cases numP ps[j] with
  | none => rfl
  | some n =>
    simp only
    split <;> rfl

theorem drop_ne2 {l : List (List UInt8)} {n : Nat} (h : n < l.length) : l.drop n ≠ [] := by
  intro e
  have := congrArg List.length e
  rw [List.length_drop] at this
  simp at this
  omega

theorem more_now {ps : List (List UInt8)} {p : List UInt8} {j h : Nat} {T : Option Nat} (hl : j + 1 < ps.length) (hp : ps[j]? = some p) (ht : T = (sumP (4 - j) (ps.drop j)).map (h * 256 ^ (4 - j) + ·)) :
    T = (match numP p with | none => none | some n => if n ≤ 255 then ((sumP (4 - j - 1) (ps.drop (j + 1))).map (n * 256 ^ (4 - j - 1) + ·)).map (h * 256 ^ (4 - j) + ·) else none) := by
  obtain ⟨hj, rfl⟩ := List.getElem?_eq_some_iff.1 hp
  rw [ht, List.drop_eq_getElem_cons hj, sumP_head _ _ (drop_ne2 hl)]
  cases numP ps[j] with
  | none => rfl
  | some n =>
    simp only
    split <;> rfl

def NumI (ps : List (List UInt8)) (T : Option Nat) (m k N : Nat) : Prop :=
  (k < m → ∃ h, h < 256 ^ k ∧ N = h * 256 ^ (4 - k) ∧ T = (sumP (4 - k) (ps.drop k)).map (h * 256 ^ (4 - k) + ·)) ∧ (k = m → T = some N) ∧ N < 4294967296

theorem numI_bad {ps : List (List UInt8)} {T : Option Nat} {m k N : Nat} {p : List UInt8} (h : NumI ps T m k N) (hl : ps.length = m) (hk : k < m) (_hm : m ≤ 4) (hp : ps[k]? = some p) (hn : p32 (numP p) = none) : T = none := by
  obtain ⟨x, _, _, ht⟩ := h.1 hk
  have h4 : 256 ^ (4 - k) ≤ 4294967296 := pow_le4 k
  by_cases he : ps.length = k + 1
  · rw [last_now he hp ht]
    cases hc : numP p with
    | none => rfl
    | some n =>
      simp only
      rw [if_neg]
      intro hlt
      rw [hc, p32_ok (by omega)] at hn
      exact absurd hn (by simp)
  · rw [more_now (by omega) hp ht]
    cases hc : numP p with
    | none => rfl
    | some n =>
      simp only
      rw [if_neg]
      intro hlt
      rw [hc, p32_ok (by omega)] at hn
      exact absurd hn (by simp)

theorem p32_some {o : Option Nat} {n : Nat} (h : p32 o = some n) : o = some n ∧ n < 4294967296 := by
  cases o with
  | none => simp [p32] at h
  | some x =>
    simp only [p32] at h
    split at h
    · injection h with h
      subst h
      exact ⟨rfl, by assumption⟩
    · exact absurd h (by simp)

theorem numI_big {ps : List (List UInt8)} {T : Option Nat} {m k N n : Nat} {p : List UInt8} (h : NumI ps T m k N) (hl : ps.length = m) (hk : k + 1 < m) (hp : ps[k]? = some p) (hn : numP p = some n) (hb : ¬ n ≤ 255) : T = none := by
  obtain ⟨x, _, _, ht⟩ := h.1 (by omega)
  rw [more_now (by omega) hp ht, hn]
  simp only
  rw [if_neg hb]

theorem numI_last {ps : List (List UInt8)} {T : Option Nat} {m k N n : Nat} {p : List UInt8} (h : NumI ps T m k N) (hl : ps.length = m) (hk : k + 1 = m) (hp : ps[k]? = some p) (hn : numP p = some n) (hb : ¬ n < 256 ^ (5 - m)) : T = none := by
  obtain ⟨x, _, _, ht⟩ := h.1 (by omega)
  rw [last_now (by omega) hp ht, hn]
  simp only
  rw [if_neg]
  have : 4 - k = 5 - m := by omega
  rw [this]
  exact hb

theorem numI_end {ps : List (List UInt8)} {T : Option Nat} {m k N n : Nat} {p : List UInt8} (h : NumI ps T m k N) (hl : ps.length = m) (hk : k + 1 = m) (_hm : m ≤ 4) (hp : ps[k]? = some p) (hn : numP p = some n) (hb : n < 256 ^ (5 - m)) : NumI ps T m (k + 1) (N + n) := by
  obtain ⟨x, hx, hN, ht⟩ := h.1 (by omega)
  have e : 4 - k = 5 - m := by omega
  have hT := last_now (by omega) hp ht
  rw [hn] at hT
  simp only at hT
  rw [if_pos (by rw [e]; exact hb)] at hT
  refine ⟨fun h => by omega, fun _ => by rw [hT, hN], ?_⟩
  have hall : 256 ^ k * 256 ^ (4 - k) = 4294967296 := by
    rw [← Nat.pow_add]
    have : k + (4 - k) = 4 := by omega
    rw [this]
  have h1 : (x + 1) * 256 ^ (4 - k) ≤ 4294967296 := by rw [← hall]; exact Nat.mul_le_mul_right _ hx
  rw [Nat.add_mul, Nat.one_mul, e] at h1
  rw [e] at hN
  omega

theorem numI_next {ps : List (List UInt8)} {T : Option Nat} {m k N n : Nat} {p : List UInt8} (h : NumI ps T m k N) (hl : ps.length = m) (hk : k + 1 < m) (hm : m ≤ 4) (hp : ps[k]? = some p) (hn : numP p = some n) (hb : n ≤ 255) : NumI ps T m (k + 1) (N + n * 256 ^ (3 - k)) := by
  obtain ⟨x, hx, hN, ht⟩ := h.1 (by omega)
  have hT := more_now (by omega) hp ht
  rw [hn] at hT
  simp only at hT
  rw [if_pos hb, Option.map_map] at hT
  have e : 4 - k - 1 = 4 - (k + 1) := by omega
  have e3 : 3 - k = 4 - (k + 1) := by omega
  have e2 : 256 ^ (4 - k) = 256 * 256 ^ (4 - (k + 1)) := by
    have : 4 - k = (4 - (k + 1)) + 1 := by omega
    rw [this, Nat.pow_succ, Nat.mul_comm]
  have hV : N + n * 256 ^ (3 - k) = (x * 256 + n) * 256 ^ (4 - (k + 1)) := by rw [hN, e3, e2, Nat.add_mul, Nat.mul_assoc]
  have hx2 : x * 256 + n < 256 ^ (k + 1) := by rw [Nat.pow_succ]; omega
  refine ⟨fun _ => ⟨x * 256 + n, hx2, hV, ?_⟩, fun h => by omega, ?_⟩
  · rw [hT, e, e2]
    congr 1
    funext y
    simp only [Function.comp_apply, Nat.add_mul, Nat.mul_assoc]
    omega
  · have hall : 256 ^ (k + 1) * 256 ^ (4 - (k + 1)) = 4294967296 := by
      rw [← Nat.pow_add]
      have : k + 1 + (4 - (k + 1)) = 4 := by omega
      rw [this]
    have hp0 : 0 < 256 ^ (4 - (k + 1)) := Nat.pow_pos (by decide)
    have h1 : (x * 256 + n + 1) * 256 ^ (4 - (k + 1)) ≤ 4294967296 := by rw [← hall]; exact Nat.mul_le_mul_right _ hx2
    rw [Nat.add_mul, Nat.one_mul] at h1
    rw [hV]
    omega

set_option maxHeartbeats 1000000 in
theorem rnumber_any (s : ByteArray) (hs : s.size ≤ 1073741824) (w : World) :
    Calls Tryz.prog 102 #[.string s] w fun e w' => e = .returned (.tuple #[.int .u32 ((optN (numberP s.data.toList) : Nat) : Int), .bool (numberP s.data.toList).isSome]) ∧ Below w.heap.size w w' := by
  have HPT := Lib.hid (rparts_any s hs w)
  have hpos := parts_pos s.data.toList
  have hmz := parts_count s.data.toList
  rw [size_data] at hmz
  have HE : Hid (∀ p ∈ partsL s.data.toList, p.length ≤ 1073741824) := Lib.hid (fun p hp => by have := parts_size hp; rw [size_data] at this; omega)
  have hN : numberP s.data.toList = addrP (partsL s.data.toList) := rfl
  rw [hN]
  obtain ⟨ps, hps⟩ : ∃ ps, ps = partsL s.data.toList := ⟨_, rfl⟩
  rw [← hps] at HPT HE hpos hmz ⊢
  obtain ⟨m, hm⟩ : ∃ m, ps.length = m := ⟨_, rfl⟩
  rw [hm] at HPT hpos hmz
  have HM := Lib.hid hm
  have hmb : m ≤ 1073741825 := by omega
  clear hN hps hm hs hmz
  go_enter Tryz.func102, Tryz.ntmps102
  go_wp2_with fail
  refine HPT.out.mono ?_
  rintro e w2 ⟨⟨a, c, rfl, _, hsl⟩, hb2⟩
  have HB2 := Lib.hid hb2
  have HSL := Lib.hid hsl
  clear hb2 hsl HPT
  by_cases h4 : m ≤ 4
  · have h4z : ¬ (4 : Int) < (m : Int) := by omega
    obtain ⟨T, hT⟩ : ∃ T, T = sumP 4 ps := ⟨_, rfl⟩
    have HR : Hid (addrP ps = T) := Lib.hid (by unfold addrP; rw [if_pos (by rw [HM.out]; exact h4), hT])
    have HI0 : Hid (NumI ps T m 0 0) := Lib.hid ⟨fun _ => ⟨0, by decide, by simp, by rw [hT]; simp⟩, fun h => by omega, by decide⟩
    have HPW := Lib.hid (pow_wrap5 m h4 hpos)
    clear hT
    go_wp2_with fail
    go_loop [5, 6] (fun v i => ∃ (k N : Nat), k ≤ m ∧ i = .int .i64 k ∧ v = .int .u64 (N : Int) ∧ Hid (NumI ps T m k N)) (fun _ i => m - (intOf i).toNat)
    case atStart => exact ⟨0, 0, Nat.zero_le _, rfl, rfl, HI0⟩
    case round =>
      clear HI0
      obtain ⟨k, N, hk, rfl, rfl, HI⟩ := hrel
      have hN := HI.out.2.2
      obtain ⟨NZ, hNZ⟩ : ∃ NZ : Int, NZ = (N : Int) := ⟨_, rfl⟩
      have hNZ0 : 0 ≤ NZ ∧ NZ < 4294967296 := by omega
      rw [← hNZ]
      have HNZ := Lib.hid hNZ
      clear hN hNZ
      by_cases hlt : k < m
      · have hlz : (k : Int) < (m : Int) := by omega
        obtain ⟨p, hp⟩ : ∃ p, ps[k]? = some p := ⟨_, List.getElem?_eq_getElem (by rw [HM.out]; exact hlt)⟩
        obtain ⟨b, off, rfl, hcell⟩ := sl_at HSL.out (j := k) (x := strL p) (by rw [List.getElem?_map, hp]; rfl)
        have hpp := HE.out p (List.mem_of_getElem? hp)
        obtain ⟨pt, hpt⟩ : ∃ pt : ByteArray, pt = ⟨p.toArray⟩ := ⟨_, rfl⟩
        have HPV := Lib.hid (fun W => rpart_any pt (by rw [hpt]; exact hpp) W)
        have e1 : pt.data.toList = p := by rw [hpt]
        rw [e1] at HPV
        rw [strL_mk, ← hpt] at hcell
        have HPP := Lib.hid hp
        clear hpt e1 hp hpp
        cases hO : p32 (numP p) with
        | none =>
          rw [hO] at HPV
          have HNO := Lib.hid (numI_bad HI.out HM.out hlt h4 HPP.out hO)
          have HPV2 : Hid (∀ W, Calls Tryz.prog 132 #[.string pt] W fun e w' => e = .returned (.tuple #[.int .u64 0, .bool false]) ∧ w' = W) := HPV
          clear HPV hO
          go_wp2_with fail
          refine (HPV2.out _).mono ?_
          rintro e w3 ⟨rfl, rfl⟩
          go_wp2
          go_ret2
          exact ⟨by rw [HR.out, HNO.out]; rfl, HB2.out⟩
        | some n =>
          rw [hO] at HPV
          obtain ⟨hn, hn32⟩ := p32_some hO
          obtain ⟨z, hz⟩ : ∃ z : Int, z = (n : Int) := ⟨_, rfl⟩
          have HPV2 : Hid (∀ W, Calls Tryz.prog 132 #[.string pt] W fun e w' => e = .returned (.tuple #[.int .u64 z, .bool true]) ∧ w' = W) := Lib.hid (by rw [hz]; exact HPV.out)
          have hz0 : 0 ≤ z ∧ z < 4294967296 := by omega
          have HZ := Lib.hid hz
          have HNP := Lib.hid hn
          clear HPV hO hn hn32 hz
          by_cases hk1 : k + 1 < m
          · have hk1z : (k : Int) + 1 < (m : Int) := by omega
            have hk1q : ((k : Int) + 1 == (m : Int)) = false := beq_eq_false_iff_ne.2 (by omega)
            by_cases h255 : z ≤ 255
            · have h255z : ¬ (255 : Int) < z := by omega
              have hn255 : n ≤ 255 := by have := HZ.out; omega
              have HNX := Lib.hid (numI_next HI.out HM.out hk1 h4 HPP.out HNP.out hn255)
              obtain ⟨hsh1, hsh2⟩ := shift_fits n k hn255
              rw [← HZ.out] at hsh1
              obtain ⟨S, hS⟩ : ∃ S : Int, S = ((n * 256 ^ (3 - k) : Nat) : Int) := ⟨_, rfl⟩
              rw [← hS] at hsh1
              have hS0 : 0 ≤ S ∧ S < 4294967296 := by omega
              have HS := Lib.hid hS
              clear hS hsh2
              go_wp2_with fail
              refine (HPV2.out _).mono ?_
              rintro e w3 ⟨rfl, rfl⟩
              go_wp2
              go_round
              case rel => exact ⟨k + 1, N + n * 256 ^ (3 - k), by omega, by go_num, by first | (congr 1; have := HS.out; have := HNZ.out; omega) | (simp; have := HS.out; have := HNZ.out; omega), HNX⟩
              case measure => simp [intOf]; omega
            · have h255z : (255 : Int) < z := by omega
              have HNO := Lib.hid (numI_big HI.out HM.out hk1 HPP.out HNP.out (by have := HZ.out; omega))
              go_wp2_with fail
              refine (HPV2.out _).mono ?_
              rintro e w3 ⟨rfl, rfl⟩
              go_wp2
              go_ret2
              exact ⟨by rw [HR.out, HNO.out]; rfl, HB2.out⟩
          · have hk1z : ¬ (k : Int) + 1 < (m : Int) := by omega
            have hk1e : k + 1 = m := by omega
            have hk1q : ((k : Int) + 1 == (m : Int)) = true := beq_iff_eq.2 (by omega)
            have hpw := HPW.out
            obtain ⟨L, hL⟩ : ∃ L : Int, L = ((256 ^ (5 - m) : Nat) : Int) := ⟨_, rfl⟩
            rw [← hL] at hpw
            have HL := Lib.hid hL
            clear hL
            by_cases hbig : L ≤ z
            · have HNO := Lib.hid (numI_last HI.out HM.out hk1e HPP.out HNP.out (by have := HZ.out; have := HL.out; omega))
              go_wp2_with fail
              refine (HPV2.out _).mono ?_
              rintro e w3 ⟨rfl, rfl⟩
              go_wp2
              go_ret2
              exact ⟨by rw [HR.out, HNO.out]; rfl, HB2.out⟩
            · have HNX := Lib.hid (numI_end HI.out HM.out hk1e h4 HPP.out HNP.out (by have := HZ.out; have := HL.out; omega))
              go_wp2_with fail
              refine (HPV2.out _).mono ?_
              rintro e w3 ⟨rfl, rfl⟩
              go_wp2
              go_round
              case rel => exact ⟨k + 1, N + n, by omega, by go_num, by first | (congr 1; have := HZ.out; have := HNZ.out; omega) | (simp; have := HZ.out; have := HNZ.out; omega), HNX⟩
              case measure => simp [intOf]; omega
      · have hlz : ¬ (k : Int) < (m : Int) := by omega
        have hke : k = m := by omega
        have HF := Lib.hid (HI.out.2.1 hke)
        clear hke
        go_wp2
        go_ret2
        refine ⟨?_, HB2.out⟩
        rw [HR.out, HF.out, HNZ.out]
        rfl
  · have h4z : (4 : Int) < (m : Int) := by omega
    have HR : Hid (addrP ps = none) := Lib.hid (by unfold addrP; rw [if_neg (by rw [HM.out]; exact h4)])
    go_wp2
    go_ret2
    exact ⟨by rw [HR.out]; rfl, HB2.out⟩

end Go.Proofs.YtlhdafinfgdlkaaGreatDoor
