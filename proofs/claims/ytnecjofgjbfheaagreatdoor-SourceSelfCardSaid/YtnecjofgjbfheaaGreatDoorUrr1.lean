/- The reference's reader of URLs in plain words. -/
import Derived.Lib.OthersKept
import Derived.Test.YtnecjofgjbfheaaGreatDoorProg
import Derived.Test.YtnecjofgjbfheaaGreatDoorKit
import Derived.Test.YtnecjofgjbfheaaGreatDoorInfo
import Derived.Test.YtnecjofgjbfheaaGreatDoorPlain
import Derived.Test.YtnecjofgjbfheaaGreatDoorStr
import Derived.Test.YtnecjofgjbfheaaGreatDoorAsc1
import Derived.Test.YtnecjofgjbfheaaGreatDoorAsc4
import Derived.Test.YtnecjofgjbfheaaGreatDoorRow
import Derived.Test.YtnecjofgjbfheaaGreatDoorPct0
import Derived.Test.YtnecjofgjbfheaaGreatDoorHst0
import Derived.Test.YtnecjofgjbfheaaGreatDoorHst1
import Derived.Test.YtnecjofgjbfheaaGreatDoorUrl0
import Derived.Test.YtnecjofgjbfheaaGreatDoorUrl4
import Derived.Test.YtnecjofgjbfheaaGreatDoorUrl12
namespace Go.Proofs.YtnecjofgjbfheaaGreatDoor
open Go.RowKit Go.Proofs
set_option maxRecDepth 100000

/-! the scheme -/
def schB (c : UInt8) : Bool := isLet c.toNat || isDig c.toNat || c == 43 || c == 45 || c == 46

def schK (l : List UInt8) : Nat := ((l.drop 1).takeWhile schB).length + 1

def schN (l : List UInt8) : Nat := if l ≠ [] ∧ isLet (l.getD 0 0).toNat = true ∧ l[schK l]? = some 58 then schK l else 0

theorem schB_free {c : UInt8} (h : schB c = true) : hasB [58] c = false := by
  rw [has_one, beq_eq_false_iff_ne]
  rintro rfl
  exact absurd h (by decide)

theorem let_sch {c : UInt8} (h : isLet c.toNat = true) : schB c = true := by unfold schB; rw [h]; rfl

theorem low_let (c : UInt8) (h : 97 ≤ (lowB c).toNat ∧ (lowB c).toNat ≤ 122) : isLet c.toNat = true :=
  byte_all (p := fun c => (97 ≤ (lowB c).toNat ∧ (lowB c).toNat ≤ 122) → isLet c.toNat = true) (by decide +kernel) c h

theorem tw_all {p : UInt8 → Bool} : ∀ {a r : List UInt8}, (∀ c ∈ a, p c = true) → (r = [] ∨ ∃ c t, r = c :: t ∧ p c = false) → (a ++ r).takeWhile p = a
  | [], r, _, hr => by
    rcases hr with rfl | ⟨c, t, rfl, hc⟩
    · rfl
    · rw [List.nil_append, List.takeWhile_cons, if_neg (by rw [hc]; decide)]
  | c :: a, r, h, hr => by
    rw [List.cons_append, List.takeWhile_cons, if_pos (h c (by simp)), tw_all (fun x hx => h x (by simp [hx])) hr]

theorem tw_mem {p : UInt8 → Bool} : ∀ {l : List UInt8} {c : UInt8}, c ∈ l.takeWhile p → p c = true
  | [], c, h => by simp at h
  | x :: l, c, h => by
    rw [List.takeWhile_cons] at h
    split at h
    · rename_i hx
      rcases List.mem_cons.1 h with rfl | h
      · exact hx
      · exact tw_mem h
    · simp at h

theorem def_lets {s : List UInt8} (h : (defP s).2 = true) : s ≠ [] ∧ ∀ c ∈ s, 97 ≤ c.toNat ∧ c.toNat ≤ 122 := by
  unfold defP at h
  split at h
  · rename_i hc
    rcases hc with rfl | rfl
    · exact ⟨by decide, by decide⟩
    · exact ⟨by decide, by decide⟩
  · split at h
    · rename_i hc
      rcases hc with rfl | rfl
      · exact ⟨by decide, by decide⟩
      · exact ⟨by decide, by decide⟩
    · split at h
      · rename_i hc
        subst hc
        exact ⟨by decide, by decide⟩
      · exact absurd h (by decide)

theorem scheme_sch (t : List UInt8) : schemeP t = if (defP (lowL (t.take (schN t)))).2 = true then some (lowL (t.take (schN t)), skipL (t.drop (schN t + 1))) else none := by
  by_cases hk : t ≠ [] ∧ isLet (t.getD 0 0).toNat = true ∧ t[schK t]? = some 58
  · obtain ⟨h0, h1, h2⟩ := hk
    have e : schN t = schK t := by unfold schN; rw [if_pos ⟨h0, h1, h2⟩]
    rw [e]
    have hd : t.drop (schK t) = 58 :: t.drop (schK t + 1) := by
      obtain ⟨hl, hx⟩ := List.getElem?_eq_some_iff.1 h2
      rw [List.drop_eq_getElem_cons hl, hx]
    have hfree : ∀ c ∈ t.take (schK t), hasB [58] c = false := by
      intro c hc
      cases t with
      | nil => exact absurd rfl h0
      | cons x r =>
        unfold schK at hc
        rw [List.take_succ_cons] at hc
        rcases List.mem_cons.1 hc with rfl | hc
        · exact schB_free (let_sch h1)
        · have e2 : r.take (r.takeWhile schB).length = r.takeWhile schB := by
            have h3 := List.takeWhile_append_dropWhile (p := schB) (l := r)
            conv => lhs; rw [← h3]
            rw [List.take_left' (by rw [h3])]
          rw [show ((x :: r).drop 1) = r from rfl, e2] at hc
          exact schB_free (tw_mem hc)
    have hs : t = t.take (schK t) ++ 58 :: t.drop (schK t + 1) := by rw [← hd, List.take_append_drop]
    obtain ⟨u1, u2⟩ := up_stop (r := 58 :: t.drop (schK t + 1)) hfree (.inr ⟨58, _, rfl, by decide⟩)
    rw [← hs] at u1 u2
    unfold schemeP
    rw [u1, u2]
    simp
  · have e : schN t = 0 := by unfold schN; rw [if_neg hk]
    rw [e, List.take_zero, if_neg (by decide)]
    unfold schemeP
    rw [if_neg]
    rintro ⟨h1, h2⟩
    apply hk
    obtain ⟨g1, g2⟩ := def_lets h1
    obtain ⟨u, hu⟩ : ∃ u, u = upL [58] t := ⟨_, rfl⟩
    rw [← hu] at g1 g2
    have hne : u ≠ [] := by rintro rfl; exact g1 rfl
    have hlet : ∀ c ∈ u, isLet c.toNat = true := fun c hc => low_let c (g2 (lowB c) (List.mem_map_of_mem hc))
    rcases from_head [58] t with hf | ⟨c, r, hf, hc⟩
    · exact absurd hf h2
    · rw [has_one, beq_iff_eq] at hc
      subst hc
      have ht : t = u ++ 58 :: r := by rw [hu, ← hf, up_from]
      cases hu2 : u with
      | nil => exact absurd hu2 hne
      | cons x a =>
        rw [hu2] at ht hlet
        have hk2 : schK t = a.length + 1 := by
          unfold schK
          rw [ht, List.cons_append, List.drop_succ_cons, List.drop_zero, tw_all (fun c hc => let_sch (hlet c (by simp [hc]))) (.inr ⟨58, r, rfl, by decide⟩)]
        refine ⟨by rw [ht]; simp, by rw [ht]; exact hlet x (by simp), ?_⟩
        rw [hk2, ht, List.cons_append, List.getElem?_cons_succ, List.getElem?_append_right (Nat.le_refl _), Nat.sub_self]
        rfl

/-! dots -/
def eatD : List UInt8 → Option Nat
  | [] => some 0
  | 46 :: r => (eatD r).map (· + 1)
  | 37 :: 50 :: 101 :: r => (eatD r).map (· + 1)
  | _ :: _ => none

def dotN (o : Option Nat) : Nat := match o with | none => 0 | some n => if 2 < n then 0 else n

theorem low46 (c : UInt8) : lowB c = 46 ↔ c = 46 := byte_all (p := fun c => lowB c = 46 ↔ c = 46) (by decide +kernel) c

theorem low37 (c : UInt8) : lowB c = 37 ↔ c = 37 := byte_all (p := fun c => lowB c = 37 ↔ c = 37) (by decide +kernel) c

theorem low50 (c : UInt8) : lowB c = 50 ↔ hexI c.toNat = 2 := byte_all (p := fun c => lowB c = 50 ↔ hexI c.toNat = 2) (by decide +kernel) c

theorem low101 (c : UInt8) : lowB c = 101 ↔ hexI c.toNat = 14 := byte_all (p := fun c => lowB c = 101 ↔ hexI c.toNat = 14) (by decide +kernel) c

theorem eat_dec : ∀ (n : Nat) (l : List UInt8), l.length ≤ n → (∀ m, eatD (lowL l) = some m ↔ decL l = List.replicate m 46)
  | 0, l, h, m => by
    have : l = [] := List.eq_nil_of_length_eq_zero (by omega)
    subst this
    show some 0 = some m ↔ [] = List.replicate m 46
    cases m <;> simp [List.replicate_succ]
  | n + 1, [], _, m => by
    show some 0 = some m ↔ [] = List.replicate m 46
    cases m <;> simp [List.replicate_succ]
  | n + 1, c :: r, h, m => by
    rw [List.length_cons] at h
    by_cases h46 : c = 46
    · subst h46
      have he : escB (46 :: r) = false := by unfold escB; rfl
      have e1 : eatD (lowL (46 :: r)) = (eatD (lowL r)).map (· + 1) := rfl
      rw [decL_raw (by simp) he, e1]
      show _ ↔ (46 : UInt8) :: decL r = _
      have ih := fun m => eat_dec n r (by omega) m
      cases m with
      | zero => cases eatD (lowL r) <;> simp
      | succ m => rw [List.replicate_succ, List.cons_inj_right, ← ih m]; cases eatD (lowL r) <;> simp
    · have hl46 : lowB c ≠ 46 := fun e => h46 ((low46 c).1 e)
      cases he : escB (c :: r)
      · have hnone : eatD (lowL (c :: r)) = none := by
          show eatD (lowB c :: lowL r) = none
          unfold eatD
          split
          · rename_i hh; simp at hh
          · rename_i hh; injection hh with hh _; exact absurd hh hl46
          · rename_i r2 hh
            injection hh with h1 h2
            rw [low37] at h1
            exfalso
            match r, h2 with
            | a :: b :: t, h2 =>
              have h3 : lowB a = 50 ∧ lowB b = 101 := by
                have h4 : lowL (a :: b :: t) = lowB a :: lowB b :: lowL t := rfl
                rw [h4] at h2
                injection h2 with x1 x2
                injection x2 with x3 _
                exact ⟨x1, x3⟩
              rw [low50, low101] at h3
              have : escB (c :: a :: b :: t) = true := (escB_iff _).2 ⟨by subst h1; rfl, by show 0 ≤ hexI a.toNat; omega, by show 0 ≤ hexI b.toNat; omega⟩
              rw [he] at this
              exact absurd this (by decide)
            | [a], h2 => simp [lowL] at h2
            | [], h2 => simp [lowL] at h2
          · rfl
        rw [hnone, decL_raw (by simp) he]
        show _ ↔ c :: decL r = _
        cases m with
        | zero => simp
        | succ m => rw [List.replicate_succ]; simp [h46]
      · have hlen := escB_len he
        obtain ⟨e1, e2, e3⟩ := (escB_iff _).1 he
        match r, hlen with
        | a :: b :: t, _ =>
          have c37 : c = 37 := by
            apply UInt8.toNat_inj.1
            have : ((c.toNat : Nat) : Int) = 37 := e1
            show c.toNat = 37
            omega
          subst c37
          have e2' : 0 ≤ hexI a.toNat := e2
          have e3' : 0 ≤ hexI b.toNat := e3
          have ba := hexI_bd a.toNat
          have bb := hexI_bd b.toNat
          have hv : valB (37 :: a :: b :: t) = 46 ↔ hexI a.toNat = 2 ∧ hexI b.toNat = 14 := by
            have hvv : valB (37 :: a :: b :: t) = UInt8.ofNat (16 * hexI a.toNat + hexI b.toNat).toNat := rfl
            rw [hvv]
            constructor
            · intro hh
              have h5 := congrArg UInt8.toNat hh
              rw [UInt8.toNat_ofNat', Nat.mod_eq_of_lt (by omega)] at h5
              have h6 : (16 * hexI a.toNat + hexI b.toNat).toNat = 46 := h5
              omega
            · rintro ⟨h5, h6⟩
              rw [h5, h6]
              decide
          rw [decL_esc he]
          show _ ↔ valB (37 :: a :: b :: t) :: decL t = _
          have ih := fun m => eat_dec n t (by simp at h; omega) m
          by_cases hd : hexI a.toNat = 2 ∧ hexI b.toNat = 14
          · have h1 := (low50 a).2 hd.1
            have h2 := (low101 b).2 hd.2
            have h3 : eatD (lowL (37 :: a :: b :: t)) = (eatD (lowL t)).map (· + 1) := by
              show eatD (lowB 37 :: lowB a :: lowB b :: lowL t) = _
              rw [h1, h2]
              rfl
            rw [h3, hv.2 hd]
            cases m with
            | zero => cases eatD (lowL t) <;> simp
            | succ m => rw [List.replicate_succ, List.cons_inj_right, ← ih m]; cases eatD (lowL t) <;> simp
          · have h3 : eatD (lowL (37 :: a :: b :: t)) = none := by
              show eatD (37 :: lowB a :: lowB b :: lowL t) = none
              unfold eatD
              split
              · rename_i hh; simp at hh
              · rename_i hh; injection hh with hh _; exact absurd hh (by decide)
              · rename_i r2 hh
                exfalso
                injection hh with _ h2
                injection h2 with h3 h4
                injection h4 with h5 _
                exact hd ⟨(low50 a).1 h3, (low101 b).1 h5⟩
              · rfl
            rw [h3]
            cases m with
            | zero => simp
            | succ m => rw [List.replicate_succ]; simp [mt hv.1 hd]

theorem dots_eat (l : List UInt8) : dotsP l = dotN (eatD (lowL l)) := by
  have ih := eat_dec l.length l (Nat.le_refl _)
  unfold dotsP
  cases he : eatD (lowL l) with
  | none =>
    have h1 : decL l ≠ [46] := fun h => by have := (ih 1).2 h; rw [he] at this; simp at this
    have h2 : decL l ≠ [46, 46] := fun h => by have := (ih 2).2 h; rw [he] at this; simp at this
    rw [if_neg h1, if_neg h2]
    rfl
  | some m =>
    have hm := (ih m).1 he
    rw [hm]
    unfold dotN
    rcases m with _ | _ | _ | m
    · rfl
    · rfl
    · rfl
    · simp [List.replicate_succ]

/-! the path -/
def sepB (c : UInt8) : Bool := c == 47 || c == 92

def segsGo (cur : List UInt8) : List UInt8 → List (List UInt8)
  | [] => [cur]
  | c :: r => if sepB c then cur :: segsGo [] r else segsGo (cur ++ [c]) r

theorem sl_sep (c : UInt8) : slB c = 47 ↔ sepB c = true := byte_all (p := fun c => slB c = 47 ↔ sepB c = true) (by decide +kernel) c

theorem sl_no (c : UInt8) (h : sepB c = false) : slB c = c := byte_all (p := fun c => sepB c = false → slB c = c) (by decide +kernel) c h

theorem segs_go : ∀ (l cur : List UInt8), segsGo cur l = splitGo 47 cur (l.map slB)
  | [], cur => rfl
  | c :: r, cur => by
    rw [List.map_cons]
    unfold segsGo splitGo
    cases h : sepB c
    · have h1 : slB c ≠ 47 := fun e => by rw [sl_sep, h] at e; exact absurd e (by decide)
      rw [if_neg (by decide), if_neg h1, sl_no c h]
      exact segs_go r _
    · rw [if_pos rfl, if_pos ((sl_sep c).2 h)]
      rw [segs_go r []]

theorem segs_eq {p : List UInt8} (h : ∃ c r, p = c :: r ∧ sepB c = true) : segsL p = segsGo [] (p.drop 1) := by
  obtain ⟨c, r, rfl, hc⟩ := h
  unfold segsL splitL
  rw [segs_go]
  congr 1
  rw [List.map_cons, (sl_sep c).2 hc]
  rfl

/-! the tail -/
theorem up_two (r : List UInt8) : upL pathE r = upL [63] (upL [35] r) := by
  induction r with
  | nil => rfl
  | cons c r ih =>
    cases h1 : hasB [35] c
    · cases h2 : hasB [63] c
      · have h3 : hasB pathE c = false := by
          rw [has_one, beq_eq_false_iff_ne] at h1 h2
          unfold pathE hasB
          simp [h1, h2]
        rw [up_miss h3, up_miss h1, up_miss h2, ih]
      · have h3 : hasB pathE c = true := by
          rw [has_one, beq_iff_eq] at h2
          subst h2
          decide
        rw [up_hit h3, up_miss h1, up_hit h2]
    · have h3 : hasB pathE c = true := by
        rw [has_one, beq_iff_eq] at h1
        subst h1
        decide
      rw [up_hit h3, up_hit h1, up_nil]

theorem tail_two (r : List UInt8) : (queryP (fromL pathE r)).1 = decide (fromL [63] (upL [35] r) ≠ []) ∧ (queryP (fromL pathE r)).2.1 = encL 2 ((fromL [63] (upL [35] r)).drop 1) ∧ (queryP (fromL pathE r)).2.2 = fromL [35] r := by
  induction r with
  | nil => exact ⟨rfl, rfl, rfl⟩
  | cons c r ih =>
    cases h1 : hasB [35] c
    · cases h2 : hasB [63] c
      · have h3 : hasB pathE c = false := by
          rw [has_one, beq_eq_false_iff_ne] at h1 h2
          unfold pathE hasB
          simp [h1, h2]
        rw [from_miss h3, up_miss h1, from_miss h2, from_miss h1]
        exact ih
      · rw [has_one, beq_iff_eq] at h2
        subst h2
        rw [from_hit (by decide : hasB pathE 63 = true), up_miss h1, from_hit (by decide : hasB [63] 63 = true), from_miss h1]
        unfold queryP
        have hh : (63 :: r).head? = some (63 : UInt8) := rfl
        rw [if_pos hh]
        exact ⟨by simp, rfl, rfl⟩
    · rw [has_one, beq_iff_eq] at h1
      subst h1
      rw [from_hit (by decide : hasB pathE 35 = true), up_hit (by decide : hasB [35] 35 = true), from_hit (by decide : hasB [35] 35 = true)]
      unfold queryP
      have hh : (35 :: r).head? ≠ some (63 : UInt8) := by simp
      rw [if_neg hh]
      exact ⟨by rw [from_nil]; simp, rfl, rfl⟩

theorem frag_two (r : List UInt8) : fragP (fromL [35] r) = (decide (fromL [35] r ≠ []), encL 1 ((fromL [35] r).drop 1)) := by
  rcases from_head [35] r with h | ⟨c, t, h, hc⟩
  · rw [h]; rfl
  · rw [has_one, beq_iff_eq] at hc
    subst hc
    rw [h]
    unfold fragP
    have hh : (35 :: t).head? = some (35 : UInt8) := rfl
    rw [if_pos hh]
    simp

theorem up_at (of : List UInt8) (s : ByteArray) (k : Nat) (h : k < s.size) : (hasB of s[k] = true → (upL of (s.data.toList.drop k)).length = 0) ∧ (hasB of s[k] = false → (upL of (s.data.toList.drop k)).length = (upL of (s.data.toList.drop (k + 1))).length + 1) := by
  have hl : k < s.data.toList.length := by rw [size_data]; exact h
  have e : s.data.toList.drop k = s[k] :: s.data.toList.drop (k + 1) := by
    rw [List.drop_eq_getElem_cons hl]
    rfl
  rw [e]
  exact ⟨fun hh => by rw [up_hit hh]; rfl, fun hh => by rw [up_miss hh]; rfl⟩

theorem up_fin (of : List UInt8) (s : ByteArray) (k : Nat) (h : ¬ k < s.size) : (upL of (s.data.toList.drop k)).length = 0 := by
  rw [List.drop_of_length_le (by rw [size_data]; omega)]
  rfl

theorem rupto_any (s of : ByteArray) (hs : s.size ≤ 1073741824) (ho : of.size ≤ 1073741824) (w : World) :
    Calls Tryz.prog 81 #[.string s, .string of] w fun e w' => e = .returned (.int .i64 (upL of.data.toList s.data.toList).length) ∧ w' = w := by
  obtain ⟨K, hK⟩ : ∃ K, K = (upL of.data.toList s.data.toList).length := ⟨_, rfl⟩
  rw [← hK]
  go_enter Tryz.func81, Tryz.ntmps81
  go_wp2
  go_loop [5] (fun i => ∃ k : Nat, k ≤ s.size ∧ i = .int .i64 k ∧ Hid ((upL of.data.toList (s.data.toList.drop k)).length + k = K)) (fun i => s.size - (intOf i).toNat)
  case atStart => exact ⟨0, Nat.zero_le _, rfl, Lib.hid (by rw [hK]; rfl)⟩
  case round =>
    obtain ⟨k, hk, rfl, HN⟩ := hrel
    clear hK
    by_cases hlt : k < s.size
    · obtain ⟨h1, h2⟩ := up_at of.data.toList s k hlt
      have hh := ref_has_any of s[k] ho w
      cases hb : hasB of.data.toList s[k]
      · rw [hb] at hh
        have HF : Hid ((upL of.data.toList (s.data.toList.drop (k + 1))).length + (k + 1) = K) := Lib.hid (by have := h2 hb; have := HN.out; omega)
        have HH := Lib.hid hh
        clear h1 h2 hb hh
        go_wp2_with fail
        refine HH.out.mono ?_
        rintro e w1 ⟨rfl, rfl⟩
        go_wp2
        go_round
        case rel => exact ⟨k + 1, by omega, by go_num, HF⟩
        case measure => simp [intOf]; omega
      · rw [hb] at hh
        have HF : Hid (k = K) := Lib.hid (by have := h1 hb; have := HN.out; omega)
        have HH := Lib.hid hh
        clear h1 h2 hb hh
        go_wp2_with fail
        refine HH.out.mono ?_
        rintro e w1 ⟨rfl, rfl⟩
        go_wp2
        go_ret
        exact ⟨ret_int (by rw [HF.out]), rfl⟩
    · have HF : Hid ((s.size : Int) = (K : Int)) := Lib.hid (by have := up_fin of.data.toList s k hlt; have := HN.out; omega)
      go_wp2
      go_ret
      exact ⟨ret_int HF.out, rfl⟩

/-! the scheme -/
theorem sch_at (s : ByteArray) (k : Nat) (h : k < s.size) : (schB s[k] = false → ((s.data.toList.drop k).takeWhile schB).length = 0) ∧ (schB s[k] = true → ((s.data.toList.drop k).takeWhile schB).length = ((s.data.toList.drop (k + 1)).takeWhile schB).length + 1) := by
  have hl : k < s.data.toList.length := by rw [size_data]; exact h
  have e : s.data.toList.drop k = s[k] :: s.data.toList.drop (k + 1) := by
    rw [List.drop_eq_getElem_cons hl]
    rfl
  rw [e, List.takeWhile_cons]
  exact ⟨fun hh => by rw [if_neg (by rw [hh]; decide)]; rfl, fun hh => by rw [if_pos hh]; rfl⟩

theorem sch_ways (c : UInt8) : (isLet c.toNat = true ∧ schB c = true) ∨ (isLet c.toNat = false ∧ isDig c.toNat = true ∧ schB c = true) ∨ (isLet c.toNat = false ∧ isDig c.toNat = false ∧ ((c.toNat : Int) == 43) = true ∧ schB c = true) ∨ (isLet c.toNat = false ∧ isDig c.toNat = false ∧ ((c.toNat : Int) == 43) = false ∧ ((c.toNat : Int) == 45) = true ∧ schB c = true) ∨ (isLet c.toNat = false ∧ isDig c.toNat = false ∧ ((c.toNat : Int) == 43) = false ∧ ((c.toNat : Int) == 45) = false ∧ ((c.toNat : Int) == 46) = true ∧ schB c = true) ∨ (isLet c.toNat = false ∧ isDig c.toNat = false ∧ ((c.toNat : Int) == 43) = false ∧ ((c.toNat : Int) == 45) = false ∧ ((c.toNat : Int) == 46) = false ∧ schB c = false) :=
  byte_all (p := fun c => (isLet c.toNat = true ∧ schB c = true) ∨ (isLet c.toNat = false ∧ isDig c.toNat = true ∧ schB c = true) ∨ (isLet c.toNat = false ∧ isDig c.toNat = false ∧ ((c.toNat : Int) == 43) = true ∧ schB c = true) ∨ (isLet c.toNat = false ∧ isDig c.toNat = false ∧ ((c.toNat : Int) == 43) = false ∧ ((c.toNat : Int) == 45) = true ∧ schB c = true) ∨ (isLet c.toNat = false ∧ isDig c.toNat = false ∧ ((c.toNat : Int) == 43) = false ∧ ((c.toNat : Int) == 45) = false ∧ ((c.toNat : Int) == 46) = true ∧ schB c = true) ∨ (isLet c.toNat = false ∧ isDig c.toNat = false ∧ ((c.toNat : Int) == 43) = false ∧ ((c.toNat : Int) == 45) = false ∧ ((c.toNat : Int) == 46) = false ∧ schB c = false)) (by decide +kernel) c

theorem at_some (s : ByteArray) (k : Nat) (h : k < s.size) {c : UInt8} (hc : s[k] = c) : s.data.toList[k]? = some c := by
  rw [← hc]
  exact Lib.data_getElem? s k h

theorem at_some_eq (s : ByteArray) (k : Nat) (h : k < s.size) {c : UInt8} (hc : s.data.toList[k]? = some c) : s[k] = c := by
  rw [Lib.data_getElem? s k h] at hc
  exact Option.some.inj hc

set_option maxHeartbeats 4000000 in
theorem rscheme_any (s : ByteArray) (hs : s.size ≤ 1073741824) (w : World) :
    Calls Tryz.prog 41 #[.string s] w fun e w' => e = .returned (.int .i64 (schN s.data.toList)) ∧ w' = w := by
  by_cases h0 : s.size = 0
  · have y := emptyYes h0
    have HR : Hid (0 = schN s.data.toList) := Lib.hid (by unfold schN; rw [if_neg (fun h => h.1 (nil_size h0))])
    clear h0
    go_enter Tryz.func41, Tryz.ntmps41
    go_wp2_with fail
    go_ret
    exact ⟨ret_int (by rw [← HR.out]; rfl), rfl⟩
  have y := emptyNo h0
  have hp : 0 < s.size := by omega
  have hpi : (0 : Int) < (s.size : Int) := by omega
  have HNE : Hid (s.data.toList ≠ []) := Lib.hid (fun h => h0 (by rw [← size_data, h]; rfl))
  have hg0 : s.data.toList.getD 0 0 = s[0] := by rw [List.getD_eq_getElem?_getD, Lib.data_getElem? s 0 hp]; rfl
  have hl0 := ref_letter_byte s[0] w
  cases hlt0 : isLet s[0].toNat
  · rw [hlt0] at hl0
    have HL := Lib.hid hl0
    have HR : Hid (0 = schN s.data.toList) := Lib.hid (by unfold schN; rw [if_neg (fun h => by have := h.2.1; rw [hg0, hlt0] at this; exact absurd this (by decide))])
    clear h0 hl0 hlt0 hg0
    go_enter Tryz.func41, Tryz.ntmps41
    go_wp2_with fail
    refine HL.out.mono ?_
    rintro e w1 ⟨rfl, rfl⟩
    go_wp2_with fail
    go_ret
    exact ⟨ret_int (by rw [← HR.out]; rfl), rfl⟩
  rw [hlt0] at hl0
  have HL := Lib.hid hl0
  have HL0 : Hid (isLet (s.data.toList.getD 0 0).toNat = true) := Lib.hid (by rw [hg0]; exact hlt0)
  clear h0 hl0 hlt0 hg0
  go_enter Tryz.func41, Tryz.ntmps41
  go_wp2_with fail
  refine HL.out.mono ?_
  rintro e w1 ⟨rfl, rfl⟩
  go_wp2_with fail
  go_loop [3] (fun i => ∃ k : Nat, 1 ≤ k ∧ k ≤ s.size ∧ i = .int .i64 k ∧ Hid (((s.data.toList.drop k).takeWhile schB).length + k = schK s.data.toList)) (fun i => s.size - (intOf i).toNat)
  case atStart => exact ⟨1, Nat.le_refl _, hp, rfl, Lib.hid rfl⟩
  case round =>
    clear HL
    obtain ⟨k, hk1, hk, rfl, HN⟩ := hrel
    by_cases hlt : k < s.size
    · obtain ⟨g1, g2⟩ := sch_at s k hlt
      have HL := Lib.hid (ref_letter_byte s[k] w1)
      have HD := Lib.hid (ref_digit_byte s[k] w1)
      rcases sch_ways s[k] with ⟨a, f⟩ | ⟨a, b, f⟩ | ⟨a, b, c, f⟩ | ⟨a, b, c, d, f⟩ | ⟨a, b, c, d, e, f⟩ | ⟨a, b, c, d, e, f⟩
      · rw [a] at HL
        have HF : Hid (((s.data.toList.drop (k + 1)).takeWhile schB).length + (k + 1) = schK s.data.toList) := Lib.hid (by have := g2 f; have := HN.out; omega)
        clear g1 g2 f a
        go_wp2_with fail
        refine HL.out.mono ?_
        rintro e w1 ⟨rfl, rfl⟩
        go_wp2_with fail
        go_round
        case rel => exact ⟨k + 1, by omega, by omega, by go_num, HF⟩
        case measure => simp [intOf]; omega
      · rw [a] at HL
        have HF : Hid (((s.data.toList.drop (k + 1)).takeWhile schB).length + (k + 1) = schK s.data.toList) := Lib.hid (by have := g2 f; have := HN.out; omega)
        rw [b] at HD
        clear g1 g2 f a b
        go_wp2_with fail
        refine HL.out.mono ?_
        rintro e w1 ⟨rfl, rfl⟩
        go_wp2_with fail
        refine HD.out.mono ?_
        rintro e w2 ⟨rfl, rfl⟩
        go_wp2_with fail
        go_round
        case rel => exact ⟨k + 1, by omega, by omega, by go_num, HF⟩
        case measure => simp [intOf]; omega
      · rw [a] at HL
        have HF : Hid (((s.data.toList.drop (k + 1)).takeWhile schB).length + (k + 1) = schK s.data.toList) := Lib.hid (by have := g2 f; have := HN.out; omega)
        rw [b] at HD
        clear g1 g2 f a b
        go_wp2_with fail
        refine HL.out.mono ?_
        rintro e w1 ⟨rfl, rfl⟩
        go_wp2_with fail
        refine HD.out.mono ?_
        rintro e w2 ⟨rfl, rfl⟩
        go_wp2_with fail
        go_round
        case rel => exact ⟨k + 1, by omega, by omega, by go_num, HF⟩
        case measure => simp [intOf]; omega
      · rw [a] at HL
        have HF : Hid (((s.data.toList.drop (k + 1)).takeWhile schB).length + (k + 1) = schK s.data.toList) := Lib.hid (by have := g2 f; have := HN.out; omega)
        rw [b] at HD
        clear g1 g2 f a b
        go_wp2_with fail
        refine HL.out.mono ?_
        rintro e w1 ⟨rfl, rfl⟩
        go_wp2_with fail
        refine HD.out.mono ?_
        rintro e w2 ⟨rfl, rfl⟩
        go_wp2_with fail
        go_round
        case rel => exact ⟨k + 1, by omega, by omega, by go_num, HF⟩
        case measure => simp [intOf]; omega
      · rw [a] at HL
        have HF : Hid (((s.data.toList.drop (k + 1)).takeWhile schB).length + (k + 1) = schK s.data.toList) := Lib.hid (by have := g2 f; have := HN.out; omega)
        rw [b] at HD
        clear g1 g2 f a b
        go_wp2_with fail
        refine HL.out.mono ?_
        rintro e w1 ⟨rfl, rfl⟩
        go_wp2_with fail
        refine HD.out.mono ?_
        rintro e w2 ⟨rfl, rfl⟩
        go_wp2_with fail
        go_round
        case rel => exact ⟨k + 1, by omega, by omega, by go_num, HF⟩
        case measure => simp [intOf]; omega
      · rw [a] at HL
        rw [b] at HD
        have HK : Hid (k = schK s.data.toList) := Lib.hid (by have := g1 f; have := HN.out; omega)
        have hkz : ((k : Int) == (s.size : Int)) = false := beq_eq_false_iff_ne.2 (by omega)
        by_cases h58 : (s[k].toNat : Int) = 58
        · have q58 : ((s[k].toNat : Int) == 58) = true := beq_iff_eq.2 h58
          have HR : Hid (k = schN s.data.toList) := Lib.hid (by
            unfold schN
            rw [if_pos ⟨HNE.out, HL0.out, by rw [← HK.out]; exact at_some s k hlt (UInt8.toNat_inj.1 (by show s[k].toNat = 58; omega))⟩]
            exact HK.out)
          clear h58
          clear g1 g2 f a b
          go_wp2_with fail
          refine HL.out.mono ?_
          rintro e w1 ⟨rfl, rfl⟩
          go_wp2_with fail
          refine HD.out.mono ?_
          rintro e w2 ⟨rfl, rfl⟩
          go_wp2_with fail
          go_ret
          exact ⟨ret_int (by rw [← HR.out]), rfl⟩
        · have q58 : ((s[k].toNat : Int) == 58) = false := beq_eq_false_iff_ne.2 h58
          have HR : Hid (0 = schN s.data.toList) := Lib.hid (by
            unfold schN
            rw [if_neg]
            rintro ⟨_, _, h3⟩
            rw [← HK.out] at h3
            have := at_some_eq s k hlt h3
            exact h58 (by rw [this]; rfl))
          clear h58
          clear g1 g2 f a b
          go_wp2_with fail
          refine HL.out.mono ?_
          rintro e w1 ⟨rfl, rfl⟩
          go_wp2_with fail
          refine HD.out.mono ?_
          rintro e w2 ⟨rfl, rfl⟩
          go_wp2_with fail
          go_ret
          exact ⟨ret_int (by rw [← HR.out]; rfl), rfl⟩
    · have hke : k = s.size := by omega
      have HR : Hid (0 = schN s.data.toList) := Lib.hid (by
        unfold schN
        rw [if_neg]
        rintro ⟨_, _, h3⟩
        obtain ⟨h4, _⟩ := List.getElem?_eq_some_iff.1 h3
        rw [size_data] at h4
        have := HN.out
        omega)
      subst hke
      go_wp2_with fail
      go_ret
      exact ⟨ret_int (by rw [← HR.out]; rfl), rfl⟩

theorem eat_dot (t : ByteArray) (h : 0 < t.size) (hc : t[0] = 46) : eatD t.data.toList = (eatD (t.extract 1 t.size).data.toList).map (· + 1) := by
  rw [extract_list, List.take_of_length_le (by rw [size_data]; exact Nat.le_refl _)]
  conv => lhs; rw [cons_of t h, hc]
  rfl

theorem eat_esc (t : ByteArray) (_h : 3 ≤ t.size) (hc : (t.extract 0 3).data.toList = [37, 50, 101]) : eatD t.data.toList = (eatD (t.extract 3 t.size).data.toList).map (· + 1) := by
  rw [extract_list, List.take_of_length_le (by rw [size_data]; exact Nat.le_refl _)]
  rw [extract_list, List.drop_zero] at hc
  conv => lhs; rw [← List.take_append_drop 3 t.data.toList, hc]
  rfl

theorem eat_none (t : ByteArray) (h : 0 < t.size) (h1 : t[0] ≠ 46) (h2 : ¬ (3 ≤ t.size ∧ (t.extract 0 3).data.toList = [37, 50, 101])) : eatD t.data.toList = none := by
  have e := cons_of t h
  obtain ⟨r, hr⟩ : ∃ r, r = t.data.toList := ⟨_, rfl⟩
  rw [extract_list, List.drop_zero] at h2
  rw [← hr] at h2 ⊢
  have hh : r.head? = some t[0] := by rw [hr, e]; rfl
  unfold eatD
  split
  · simp at hh
  · simp only [List.head?_cons, Option.some.injEq] at hh
    exact absurd hh.symm h1
  · exfalso
    refine h2 ⟨?_, rfl⟩
    rw [← size_data, ← hr]
    simp
  · rfl

set_option maxHeartbeats 2000000 in
theorem rdots_any (s : ByteArray) (hs : s.size ≤ 1073741824) (w : World) :
    Calls Tryz.prog 108 #[.string s] w fun e w' => e = .returned (.int .i64 (dotsP s.data.toList)) ∧ Below w.heap.size w w' := by
  have HL := Lib.hid (ref_lower_any s hs w)
  obtain ⟨t0, ht0⟩ : ∃ t0 : ByteArray, t0 = ⟨(lowL s.data.toList).toArray⟩ := ⟨_, rfl⟩
  have htz : t0.size = s.size := by rw [ht0, mk_size, ← size_data]; unfold lowL; rw [List.length_map]
  have hD : dotsP s.data.toList = dotN (eatD t0.data.toList) := by rw [dots_eat, ht0]
  rw [hD]
  rw [← ht0] at HL
  obtain ⟨E, hE⟩ : ∃ E, E = eatD t0.data.toList := ⟨_, rfl⟩
  rw [← hE]
  clear ht0 hD
  go_enter Tryz.func108, Tryz.ntmps108
  go_wp2_with fail
  refine HL.out.mono ?_
  rintro e w1 ⟨rfl, hb⟩
  have HB := Lib.hid hb
  clear hb
  go_wp2_with fail
  go_loop [0, 3] (fun v i => ∃ (t : ByteArray) (n : Nat), v = .string t ∧ i = .int .i64 n ∧ n + t.size ≤ s.size ∧ Hid ((eatD t.data.toList).map (· + n) = E)) (fun v _ => strSize v)
  case atStart => exact ⟨t0, 0, rfl, rfl, by omega, Lib.hid (by rw [hE]; cases eatD t0.data.toList <;> simp)⟩
  case round =>
    clear hE htz HL
    obtain ⟨t, n, rfl, rfl, hn, HT⟩ := hrel
    by_cases h0 : t.size = 0
    · have y := emptyYes h0
      have HF : Hid (E = some n) := Lib.hid (by rw [← HT.out, nil_size h0]; show some (0 + n) = _; rw [Nat.zero_add])
      by_cases h2 : 2 < n
      · have hi : (2 : Int) < (n : Int) := by omega
        have HR : Hid (dotN E = 0) := Lib.hid (by rw [HF.out]; unfold dotN; simp [h2])
        clear h0
        go_wp2_with fail
        go_ret
        exact ⟨ret_int (by rw [HR.out]; rfl), HB.out⟩
      · have hi : ¬ (2 : Int) < (n : Int) := by omega
        have HR : Hid (dotN E = n) := Lib.hid (by rw [HF.out]; unfold dotN; simp [h2])
        clear h0
        go_wp2_with fail
        go_ret
        exact ⟨ret_int (by rw [HR.out]), HB.out⟩
    · have y := emptyNo h0
      have hp : 0 < t.size := by omega
      have hpi : (0 : Int) < (t.size : Int) := by omega
      by_cases h46 : t[0] = 46
      · have q : ((t[0].toNat : Int) == 46) = true := by rw [h46]; rfl
        have HF : Hid ((eatD (t.extract 1 t.size).data.toList).map (· + (n + 1)) = E) := Lib.hid (by
          rw [← HT.out, eat_dot t hp h46]
          cases eatD (t.extract 1 t.size).data.toList <;> simp <;> omega)
        have hx : (t.extract 1 t.size).size = t.size - 1 := by simp
        have h1i : (1 : Int) ≤ (t.size : Int) := by omega
        clear h46 h0
        go_wp2_with fail
        go_round
        case rel => exact ⟨_, n + 1, rfl, by go_num, by rw [hx]; omega, HF⟩
        case measure => simp [strSize]; omega
      · have q : ((t[0].toNat : Int) == 46) = false := by
          rw [beq_eq_false_iff_ne]
          intro hh
          exact h46 (UInt8.toNat_inj.1 (by show t[0].toNat = 46; omega))
        by_cases h3 : 3 ≤ t.size ∧ (t.extract 0 3).data.toList = [37, 50, 101]
        · have HF : Hid ((eatD (t.extract 3 t.size).data.toList).map (· + (n + 1)) = E) := Lib.hid (by
            rw [← HT.out, eat_esc t h3.1 h3.2]
            cases eatD (t.extract 3 t.size).data.toList <;> simp <;> omega)
          have hx : (t.extract 3 t.size).size = t.size - 3 := by simp
          have h3i : (3 : Int) ≤ (t.size : Int) := by omega
          have q3 : ((t.extract 0 3).toList == [37, 50, 101]) = true := lit_yes h3.2
          clear h46 h0 h3
          go_wp2_with fail
          go_round
          case rel => exact ⟨_, n + 1, rfl, by go_num, by rw [hx]; omega, HF⟩
          case measure => simp [strSize]; omega
        · have HR : Hid (dotN E = 0) := Lib.hid (by rw [← HT.out, eat_none t hp h46 h3]; rfl)
          by_cases h4 : 3 ≤ t.size
          · have h3i : (3 : Int) ≤ (t.size : Int) := by omega
            have q3 : ((t.extract 0 3).toList == [37, 50, 101]) = false := lit_no (fun h => h3 ⟨h4, h⟩)
            clear h46 h0 h3
            go_wp2_with fail
            go_ret
            exact ⟨ret_int (by rw [HR.out]; rfl), HB.out⟩
          · have h3i : ¬ (3 : Int) ≤ (t.size : Int) := by omega
            clear h46 h0 h3
            go_wp2_with fail
            go_ret
            exact ⟨ret_int (by rw [HR.out]; rfl), HB.out⟩

/-! cleaning -/
def trimP (l : List UInt8) : List UInt8 := (l.reverse.dropWhile lowC).reverse

theorem low_test (c : UInt8) : lowC c = decide ((c.toNat : Int) ≤ 32) := by unfold lowC; rw [Bool.eq_iff_iff]; simp; omega

theorem trimA_yes (t : ByteArray) (h : 0 < t.size) (hs : lowC t[0] = true) : (t.extract 1 t.size).data.toList.dropWhile lowC = t.data.toList.dropWhile lowC := by
  rw [extract_list, List.take_of_length_le (by rw [size_data]; exact Nat.le_refl _)]
  conv => rhs; rw [cons_of t h]
  rw [List.dropWhile_cons, if_pos hs]

theorem trimA_no (t : ByteArray) (h : 0 < t.size) (hs : lowC t[0] = false) : t.data.toList.dropWhile lowC = t.data.toList := by
  conv => lhs; rw [cons_of t h]
  conv => rhs; rw [cons_of t h]
  rw [List.dropWhile_cons, if_neg (by simp [hs])]

theorem trimP_yes (t : ByteArray) (h : 0 < t.size) (hs : lowC t[t.size - 1] = true) : trimP (t.extract 0 (t.size - 1)).data.toList = trimP t.data.toList := by
  rw [extract_list, List.drop_zero]
  conv => rhs; rw [snoc_of t h]
  unfold trimP
  rw [List.reverse_append, List.reverse_singleton, List.singleton_append, List.dropWhile_cons, if_pos hs]

theorem trimP_no (t : ByteArray) (h : 0 < t.size) (hs : lowC t[t.size - 1] = false) : trimP t.data.toList = t.data.toList := by
  conv => lhs; rw [snoc_of t h]
  conv => rhs; rw [snoc_of t h]
  unfold trimP
  rw [List.reverse_append, List.reverse_singleton, List.singleton_append, List.dropWhile_cons, if_neg (by simp [hs])]
  simp

theorem clean_trim {t s : List UInt8} (h : t = s.dropWhile lowC) : trimP t = trimC s := by subst h; rfl

def filB (l : List UInt8) : List UInt8 := l.filter (fun c => !brkC c)

theorem fil_snoc (r : ByteArray) (n : Nat) (h : n < r.size) : filB (r.data.toList.take (n + 1)) = filB (r.data.toList.take n) ++ (if brkC r[n] then [] else [r[n]]) := by
  rw [take_snoc r n h]
  unfold filB
  rw [List.filter_append]
  congr 1
  cases hb : brkC r[n] <;> simp [hb]

theorem fil_len (l : List UInt8) : (filB l).length ≤ l.length := List.length_filter_le _ _

theorem brk_ways (c : UInt8) : (brkC c = true ∧ (((c.toNat : Int) != 9) = false ∨ (((c.toNat : Int) != 9) = true ∧ ((c.toNat : Int) != 10) = false) ∨ (((c.toNat : Int) != 9) = true ∧ ((c.toNat : Int) != 10) = true ∧ ((c.toNat : Int) != 13) = false))) ∨ (brkC c = false ∧ ((c.toNat : Int) != 9) = true ∧ ((c.toNat : Int) != 10) = true ∧ ((c.toNat : Int) != 13) = true) :=
  byte_all (p := fun c => (brkC c = true ∧ (((c.toNat : Int) != 9) = false ∨ (((c.toNat : Int) != 9) = true ∧ ((c.toNat : Int) != 10) = false) ∨ (((c.toNat : Int) != 9) = true ∧ ((c.toNat : Int) != 10) = true ∧ ((c.toNat : Int) != 13) = false))) ∨ (brkC c = false ∧ ((c.toNat : Int) != 9) = true ∧ ((c.toNat : Int) != 10) = true ∧ ((c.toNat : Int) != 13) = true)) (by decide +kernel) c

set_option maxHeartbeats 8000000 in
theorem rclean_any (s : ByteArray) (hs : s.size ≤ 1073741824) (w : World) :
    Calls Tryz.prog 80 #[.string s] w fun e w' => e = .returned (strL (cleanL s.data.toList)) ∧ Below w.heap.size w w' := by
  obtain ⟨i0, hi, hz0, hz1, hz2⟩ := info_parts Tryz.infoByte
  go_enter Tryz.func80, Tryz.ntmps80
  go_wp2
  go_loop [0] (fun v => ∃ t : ByteArray, v = .string t ∧ t.size ≤ s.size ∧ Hid (t.data.toList.dropWhile lowC = s.data.toList.dropWhile lowC)) (fun v => strSize v)
  case atStart => exact ⟨s, rfl, Nat.le_refl _, Lib.hid rfl⟩
  case round =>
    obtain ⟨t, rfl, ht, HT⟩ := hrel
    by_cases hne : t.size = 0
    · have HF : Hid (trimP t.data.toList = trimC s.data.toList) := Lib.hid (clean_trim (by rw [← HT.out, nil_size hne]; rfl))
      go_wp2_with fail
      go_loop [0] (fun v => ∃ r : ByteArray, v = .string r ∧ r.size ≤ s.size ∧ Hid (trimP r.data.toList = trimC s.data.toList)) (fun v => strSize v)
      case atStart => exact ⟨t, rfl, ht, HF⟩
      case round =>
        clear hne
        obtain ⟨r, rfl, hr, HR⟩ := hrel
        have hr2 : r.size ≤ 1073741824 := by omega
        by_cases hne2 : r.size = 0
        · have HE : Hid (r.data.toList = trimC s.data.toList) := Lib.hid (by rw [← HR.out, nil_size hne2]; rfl)
          go_wp2_with fail
          clear hne2
          go_loopw [3, 4] (fun v i wr => ∃ (n M : Nat) (a : Option Addr) (c : Nat), v = .slice a M c ∧ i = .int .i64 n ∧ n ≤ r.size ∧ Hid (M = (filB (r.data.toList.take n)).length) ∧ Hid (wr.ownsRow w.heap.size 5 1 (.slice a M c) M ((filB (r.data.toList.take n)).map byteV)) ∧ Hid (Below w.heap.size w wr)) (fun _ i _ => r.size - (intOf i).toNat)
          case atStart => exact ⟨0, 0, none, 0, rfl, rfl, Nat.zero_le _, Lib.hid rfl, Lib.hid ⟨rfl, .inl ⟨rfl, rfl⟩⟩, Lib.hid (Below.refl _ _)⟩
          case round =>
            obtain ⟨n, M, a, c, rfl, rfl, hn, HM, HO, HB⟩ := hrel
            have HMB : Hid (M + 3 < 1099511627776) := Lib.hid (by
              have h1 := fil_len (r.data.toList.take n)
              have h2 : (r.data.toList.take n).length ≤ n := by rw [List.length_take]; omega
              have := HM.out
              omega)
            by_cases hlt : n < r.size
            · have hsn := fil_snoc r n hlt
              rcases brk_ways r[n] with ⟨hb, hw⟩ | ⟨hb, h9, h10, h13⟩
              · rw [hb, if_pos rfl, List.append_nil] at hsn
                have HO2 : Hid (wr.ownsRow w.heap.size 5 1 (.slice a M c) M ((filB (r.data.toList.take (n + 1))).map byteV)) := Lib.hid (by rw [hsn]; exact HO.out)
                have HM2 : Hid (M = (filB (r.data.toList.take (n + 1))).length) := Lib.hid (by rw [hsn]; exact HM.out)
                clear hsn hb HO HM
                rcases hw with h9 | ⟨h9, h10⟩ | ⟨h9, h10, h13⟩
                all_goals
                  go_wp2_with fail
                  go_roundw
                  case rel => exact ⟨n + 1, M, a, c, rfl, by go_num, by omega, HM2, HO2, HB⟩
                  case measure => first | (simp [intOf]; done) | (simp [intOf]; omega)
              · rw [hb, if_neg (by decide)] at hsn
                have HC : Hid ((filB (r.data.toList.take n)).map byteV ++ [.int .u8 (r[n].toNat : Int)] = (filB (r.data.toList.take (n + 1))).map byteV) := Lib.hid (by rw [hsn, List.map_append]; rfl)
                have HLN : Hid ((filB (r.data.toList.take (n + 1))).length = M + 1) := Lib.hid (by rw [hsn, List.length_append, ← HM.out]; rfl)
                have hsz := HB.out.size
                have hown := HO.out
                have hmb := HMB.out
                clear hsn hb
                go_wp2_with (at_builtin; refine wpList_append1 rfl _ _ 76 rfl w.heap.size 5 rfl i0 (.int .u8 0) 1 Tryz.underlying76 hi hz0 hz1 hz2 rfl _ M _ rfl hown rfl rfl (by omega) (by omega) hsz ?_; intro v' w' hown' hb')
                obtain ⟨a2, c2, rfl⟩ := own_len hown'
                have HB2 : Hid (Below w.heap.size w w') := Lib.hid (HB.out.trans hb')
                have HO2 := Lib.hid hown'
                clear hb' hown' hown hsz hmb
                go_wp2_with fail
                go_roundw
                case rel =>
                  refine ⟨n + 1, M + 1, a2, c2, rfl, by go_num, by omega, Lib.hid HLN.out.symm, Lib.hid ?_, HB2⟩
                  rw [← HC.out]
                  exact HO2.out
                case measure => first | (simp [intOf]; done) | (simp [intOf]; omega)
            · have hkn : r.data.toList.take n = r.data.toList := List.take_of_length_le (by rw [size_data]; omega)
              have ho := HO.out
              rw [hkn] at ho
              have kc := run_convert_own (P := Tryz.prog) 76 5 9 Tryz.underlying76 Tryz.underlying5 Tryz.underlying9 ho
              have HV : Hid (strL (cleanL s.data.toList) = .string ⟨(filB r.data.toList).toArray⟩) := Lib.hid (by unfold cleanL; rw [← HE.out]; rfl)
              clear hkn ho HO HM
              go_wp2_with fail
              go_ret
              exact ⟨by rw [HV.out]; rfl, HB.out⟩
        · have h0 : 0 < r.size := by omega
          have hx : r.size - 1 < r.size := by omega
          have ri0 : (0 : Int) < (r.size : Int) := by omega
          cases hq : lowC r[r.size - 1]
          · have q : ¬ (r[r.size - 1].toNat : Int) ≤ 32 := by rw [low_test] at hq; exact of_decide_eq_false hq
            have HE : Hid (r.data.toList = trimC s.data.toList) := Lib.hid (by rw [← HR.out, trimP_no r h0 hq])
            clear hq
            go_wp2_with fail
            go_loopw [3, 4] (fun v i wr => ∃ (n M : Nat) (a : Option Addr) (c : Nat), v = .slice a M c ∧ i = .int .i64 n ∧ n ≤ r.size ∧ Hid (M = (filB (r.data.toList.take n)).length) ∧ Hid (wr.ownsRow w.heap.size 5 1 (.slice a M c) M ((filB (r.data.toList.take n)).map byteV)) ∧ Hid (Below w.heap.size w wr)) (fun _ i _ => r.size - (intOf i).toNat)
            case atStart => exact ⟨0, 0, none, 0, rfl, rfl, Nat.zero_le _, Lib.hid rfl, Lib.hid ⟨rfl, .inl ⟨rfl, rfl⟩⟩, Lib.hid (Below.refl _ _)⟩
            case round =>
              obtain ⟨n, M, a, c, rfl, rfl, hn, HM, HO, HB⟩ := hrel
              have HMB : Hid (M + 3 < 1099511627776) := Lib.hid (by
                have h1 := fil_len (r.data.toList.take n)
                have h2 : (r.data.toList.take n).length ≤ n := by rw [List.length_take]; omega
                have := HM.out
                omega)
              by_cases hlt : n < r.size
              · have hsn := fil_snoc r n hlt
                rcases brk_ways r[n] with ⟨hb, hw⟩ | ⟨hb, h9, h10, h13⟩
                · rw [hb, if_pos rfl, List.append_nil] at hsn
                  have HO2 : Hid (wr.ownsRow w.heap.size 5 1 (.slice a M c) M ((filB (r.data.toList.take (n + 1))).map byteV)) := Lib.hid (by rw [hsn]; exact HO.out)
                  have HM2 : Hid (M = (filB (r.data.toList.take (n + 1))).length) := Lib.hid (by rw [hsn]; exact HM.out)
                  clear hsn hb HO HM
                  rcases hw with h9 | ⟨h9, h10⟩ | ⟨h9, h10, h13⟩
                  all_goals
                    go_wp2_with fail
                    go_roundw
                    case rel => exact ⟨n + 1, M, a, c, rfl, by go_num, by omega, HM2, HO2, HB⟩
                    case measure => first | (simp [intOf]; done) | (simp [intOf]; omega)
                · rw [hb, if_neg (by decide)] at hsn
                  have HC : Hid ((filB (r.data.toList.take n)).map byteV ++ [.int .u8 (r[n].toNat : Int)] = (filB (r.data.toList.take (n + 1))).map byteV) := Lib.hid (by rw [hsn, List.map_append]; rfl)
                  have HLN : Hid ((filB (r.data.toList.take (n + 1))).length = M + 1) := Lib.hid (by rw [hsn, List.length_append, ← HM.out]; rfl)
                  have hsz := HB.out.size
                  have hown := HO.out
                  have hmb := HMB.out
                  clear hsn hb
                  go_wp2_with (at_builtin; refine wpList_append1 rfl _ _ 76 rfl w.heap.size 5 rfl i0 (.int .u8 0) 1 Tryz.underlying76 hi hz0 hz1 hz2 rfl _ M _ rfl hown rfl rfl (by omega) (by omega) hsz ?_; intro v' w' hown' hb')
                  obtain ⟨a2, c2, rfl⟩ := own_len hown'
                  have HB2 : Hid (Below w.heap.size w w') := Lib.hid (HB.out.trans hb')
                  have HO2 := Lib.hid hown'
                  clear hb' hown' hown hsz hmb
                  go_wp2_with fail
                  go_roundw
                  case rel =>
                    refine ⟨n + 1, M + 1, a2, c2, rfl, by go_num, by omega, Lib.hid HLN.out.symm, Lib.hid ?_, HB2⟩
                    rw [← HC.out]
                    exact HO2.out
                  case measure => first | (simp [intOf]; done) | (simp [intOf]; omega)
              · have hkn : r.data.toList.take n = r.data.toList := List.take_of_length_le (by rw [size_data]; omega)
                have ho := HO.out
                rw [hkn] at ho
                have kc := run_convert_own (P := Tryz.prog) 76 5 9 Tryz.underlying76 Tryz.underlying5 Tryz.underlying9 ho
                have HV : Hid (strL (cleanL s.data.toList) = .string ⟨(filB r.data.toList).toArray⟩) := Lib.hid (by unfold cleanL; rw [← HE.out]; rfl)
                clear hkn ho HO HM
                go_wp2_with fail
                go_ret
                exact ⟨by rw [HV.out]; rfl, HB.out⟩
          · have q : (r[r.size - 1].toNat : Int) ≤ 32 := by rw [low_test] at hq; exact of_decide_eq_true hq
            have HN := Lib.hid (trimP_yes r h0 hq)
            clear hq
            go_wp2_with fail
            go_round
            case rel => exact ⟨_, rfl, by simp; omega, Lib.hid (HN.out.trans HR.out)⟩
            case measure => simp [strSize]; omega
    · have h0 : 0 < t.size := by omega
      have ti0 : (0 : Int) < (t.size : Int) := by omega
      cases hq : lowC t[0]
      · have q : ¬ (t[0].toNat : Int) ≤ 32 := by rw [low_test] at hq; exact of_decide_eq_false hq
        have HF : Hid (trimP t.data.toList = trimC s.data.toList) := Lib.hid (clean_trim (by rw [← HT.out, trimA_no t h0 hq]))
        clear hq
        go_wp2_with fail
        go_loop [0] (fun v => ∃ r : ByteArray, v = .string r ∧ r.size ≤ s.size ∧ Hid (trimP r.data.toList = trimC s.data.toList)) (fun v => strSize v)
        case atStart => exact ⟨t, rfl, ht, HF⟩
        case round =>
          clear hne
          obtain ⟨r, rfl, hr, HR⟩ := hrel
          have hr2 : r.size ≤ 1073741824 := by omega
          by_cases hne2 : r.size = 0
          · have HE : Hid (r.data.toList = trimC s.data.toList) := Lib.hid (by rw [← HR.out, nil_size hne2]; rfl)
            go_wp2_with fail
            clear hne2
            go_loopw [3, 4] (fun v i wr => ∃ (n M : Nat) (a : Option Addr) (c : Nat), v = .slice a M c ∧ i = .int .i64 n ∧ n ≤ r.size ∧ Hid (M = (filB (r.data.toList.take n)).length) ∧ Hid (wr.ownsRow w.heap.size 5 1 (.slice a M c) M ((filB (r.data.toList.take n)).map byteV)) ∧ Hid (Below w.heap.size w wr)) (fun _ i _ => r.size - (intOf i).toNat)
            case atStart => exact ⟨0, 0, none, 0, rfl, rfl, Nat.zero_le _, Lib.hid rfl, Lib.hid ⟨rfl, .inl ⟨rfl, rfl⟩⟩, Lib.hid (Below.refl _ _)⟩
            case round =>
              obtain ⟨n, M, a, c, rfl, rfl, hn, HM, HO, HB⟩ := hrel
              have HMB : Hid (M + 3 < 1099511627776) := Lib.hid (by
                have h1 := fil_len (r.data.toList.take n)
                have h2 : (r.data.toList.take n).length ≤ n := by rw [List.length_take]; omega
                have := HM.out
                omega)
              by_cases hlt : n < r.size
              · have hsn := fil_snoc r n hlt
                rcases brk_ways r[n] with ⟨hb, hw⟩ | ⟨hb, h9, h10, h13⟩
                · rw [hb, if_pos rfl, List.append_nil] at hsn
                  have HO2 : Hid (wr.ownsRow w.heap.size 5 1 (.slice a M c) M ((filB (r.data.toList.take (n + 1))).map byteV)) := Lib.hid (by rw [hsn]; exact HO.out)
                  have HM2 : Hid (M = (filB (r.data.toList.take (n + 1))).length) := Lib.hid (by rw [hsn]; exact HM.out)
                  clear hsn hb HO HM
                  rcases hw with h9 | ⟨h9, h10⟩ | ⟨h9, h10, h13⟩
                  all_goals
                    go_wp2_with fail
                    go_roundw
                    case rel => exact ⟨n + 1, M, a, c, rfl, by go_num, by omega, HM2, HO2, HB⟩
                    case measure => first | (simp [intOf]; done) | (simp [intOf]; omega)
                · rw [hb, if_neg (by decide)] at hsn
                  have HC : Hid ((filB (r.data.toList.take n)).map byteV ++ [.int .u8 (r[n].toNat : Int)] = (filB (r.data.toList.take (n + 1))).map byteV) := Lib.hid (by rw [hsn, List.map_append]; rfl)
                  have HLN : Hid ((filB (r.data.toList.take (n + 1))).length = M + 1) := Lib.hid (by rw [hsn, List.length_append, ← HM.out]; rfl)
                  have hsz := HB.out.size
                  have hown := HO.out
                  have hmb := HMB.out
                  clear hsn hb
                  go_wp2_with (at_builtin; refine wpList_append1 rfl _ _ 76 rfl w.heap.size 5 rfl i0 (.int .u8 0) 1 Tryz.underlying76 hi hz0 hz1 hz2 rfl _ M _ rfl hown rfl rfl (by omega) (by omega) hsz ?_; intro v' w' hown' hb')
                  obtain ⟨a2, c2, rfl⟩ := own_len hown'
                  have HB2 : Hid (Below w.heap.size w w') := Lib.hid (HB.out.trans hb')
                  have HO2 := Lib.hid hown'
                  clear hb' hown' hown hsz hmb
                  go_wp2_with fail
                  go_roundw
                  case rel =>
                    refine ⟨n + 1, M + 1, a2, c2, rfl, by go_num, by omega, Lib.hid HLN.out.symm, Lib.hid ?_, HB2⟩
                    rw [← HC.out]
                    exact HO2.out
                  case measure => first | (simp [intOf]; done) | (simp [intOf]; omega)
              · have hkn : r.data.toList.take n = r.data.toList := List.take_of_length_le (by rw [size_data]; omega)
                have ho := HO.out
                rw [hkn] at ho
                have kc := run_convert_own (P := Tryz.prog) 76 5 9 Tryz.underlying76 Tryz.underlying5 Tryz.underlying9 ho
                have HV : Hid (strL (cleanL s.data.toList) = .string ⟨(filB r.data.toList).toArray⟩) := Lib.hid (by unfold cleanL; rw [← HE.out]; rfl)
                clear hkn ho HO HM
                go_wp2_with fail
                go_ret
                exact ⟨by rw [HV.out]; rfl, HB.out⟩
          · have h0 : 0 < r.size := by omega
            have hx : r.size - 1 < r.size := by omega
            have ri0 : (0 : Int) < (r.size : Int) := by omega
            cases hq : lowC r[r.size - 1]
            · have q : ¬ (r[r.size - 1].toNat : Int) ≤ 32 := by rw [low_test] at hq; exact of_decide_eq_false hq
              have HE : Hid (r.data.toList = trimC s.data.toList) := Lib.hid (by rw [← HR.out, trimP_no r h0 hq])
              clear hq
              go_wp2_with fail
              go_loopw [3, 4] (fun v i wr => ∃ (n M : Nat) (a : Option Addr) (c : Nat), v = .slice a M c ∧ i = .int .i64 n ∧ n ≤ r.size ∧ Hid (M = (filB (r.data.toList.take n)).length) ∧ Hid (wr.ownsRow w.heap.size 5 1 (.slice a M c) M ((filB (r.data.toList.take n)).map byteV)) ∧ Hid (Below w.heap.size w wr)) (fun _ i _ => r.size - (intOf i).toNat)
              case atStart => exact ⟨0, 0, none, 0, rfl, rfl, Nat.zero_le _, Lib.hid rfl, Lib.hid ⟨rfl, .inl ⟨rfl, rfl⟩⟩, Lib.hid (Below.refl _ _)⟩
              case round =>
                obtain ⟨n, M, a, c, rfl, rfl, hn, HM, HO, HB⟩ := hrel
                have HMB : Hid (M + 3 < 1099511627776) := Lib.hid (by
                  have h1 := fil_len (r.data.toList.take n)
                  have h2 : (r.data.toList.take n).length ≤ n := by rw [List.length_take]; omega
                  have := HM.out
                  omega)
                by_cases hlt : n < r.size
                · have hsn := fil_snoc r n hlt
                  rcases brk_ways r[n] with ⟨hb, hw⟩ | ⟨hb, h9, h10, h13⟩
                  · rw [hb, if_pos rfl, List.append_nil] at hsn
                    have HO2 : Hid (wr.ownsRow w.heap.size 5 1 (.slice a M c) M ((filB (r.data.toList.take (n + 1))).map byteV)) := Lib.hid (by rw [hsn]; exact HO.out)
                    have HM2 : Hid (M = (filB (r.data.toList.take (n + 1))).length) := Lib.hid (by rw [hsn]; exact HM.out)
                    clear hsn hb HO HM
                    rcases hw with h9 | ⟨h9, h10⟩ | ⟨h9, h10, h13⟩
                    all_goals
                      go_wp2_with fail
                      go_roundw
                      case rel => exact ⟨n + 1, M, a, c, rfl, by go_num, by omega, HM2, HO2, HB⟩
                      case measure => first | (simp [intOf]; done) | (simp [intOf]; omega)
                  · rw [hb, if_neg (by decide)] at hsn
                    have HC : Hid ((filB (r.data.toList.take n)).map byteV ++ [.int .u8 (r[n].toNat : Int)] = (filB (r.data.toList.take (n + 1))).map byteV) := Lib.hid (by rw [hsn, List.map_append]; rfl)
                    have HLN : Hid ((filB (r.data.toList.take (n + 1))).length = M + 1) := Lib.hid (by rw [hsn, List.length_append, ← HM.out]; rfl)
                    have hsz := HB.out.size
                    have hown := HO.out
                    have hmb := HMB.out
                    clear hsn hb
                    go_wp2_with (at_builtin; refine wpList_append1 rfl _ _ 76 rfl w.heap.size 5 rfl i0 (.int .u8 0) 1 Tryz.underlying76 hi hz0 hz1 hz2 rfl _ M _ rfl hown rfl rfl (by omega) (by omega) hsz ?_; intro v' w' hown' hb')
                    obtain ⟨a2, c2, rfl⟩ := own_len hown'
                    have HB2 : Hid (Below w.heap.size w w') := Lib.hid (HB.out.trans hb')
                    have HO2 := Lib.hid hown'
                    clear hb' hown' hown hsz hmb
                    go_wp2_with fail
                    go_roundw
                    case rel =>
                      refine ⟨n + 1, M + 1, a2, c2, rfl, by go_num, by omega, Lib.hid HLN.out.symm, Lib.hid ?_, HB2⟩
                      rw [← HC.out]
                      exact HO2.out
                    case measure => first | (simp [intOf]; done) | (simp [intOf]; omega)
                · have hkn : r.data.toList.take n = r.data.toList := List.take_of_length_le (by rw [size_data]; omega)
                  have ho := HO.out
                  rw [hkn] at ho
                  have kc := run_convert_own (P := Tryz.prog) 76 5 9 Tryz.underlying76 Tryz.underlying5 Tryz.underlying9 ho
                  have HV : Hid (strL (cleanL s.data.toList) = .string ⟨(filB r.data.toList).toArray⟩) := Lib.hid (by unfold cleanL; rw [← HE.out]; rfl)
                  clear hkn ho HO HM
                  go_wp2_with fail
                  go_ret
                  exact ⟨by rw [HV.out]; rfl, HB.out⟩
            · have q : (r[r.size - 1].toNat : Int) ≤ 32 := by rw [low_test] at hq; exact of_decide_eq_true hq
              have HN := Lib.hid (trimP_yes r h0 hq)
              clear hq
              go_wp2_with fail
              go_round
              case rel => exact ⟨_, rfl, by simp; omega, Lib.hid (HN.out.trans HR.out)⟩
              case measure => simp [strSize]; omega
      · have q : (t[0].toNat : Int) ≤ 32 := by rw [low_test] at hq; exact of_decide_eq_true hq
        have HN := Lib.hid (trimA_yes t h0 hq)
        clear hq
        go_wp2_with fail
        go_round
        case rel => exact ⟨_, rfl, by simp; omega, Lib.hid (HN.out.trans HT.out)⟩
        case measure => simp [strSize]; omega

end Go.Proofs.YtnecjofgjbfheaaGreatDoor
