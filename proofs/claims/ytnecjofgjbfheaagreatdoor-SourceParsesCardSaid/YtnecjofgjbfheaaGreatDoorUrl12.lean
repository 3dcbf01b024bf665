/- What follows, in plain words: a text made of pieces is read as them; what was read and is written is read as it was. -/
import Derived.Lib.Join
import Derived.Lib.ItoaLen
import Derived.Test.YtnecjofgjbfheaaGreatDoorShelf
import Derived.Deep.MidRow
import Derived.Lib.LaidU8T
import Derived.PinnedBridge
import Derived.Stop.LaidErr
import Derived.Deep.DeepHandedRow
import Derived.Test.YtnecjofgjbfheaaGreatDoorRows
import Derived.Test.YtnecjofgjbfheaaGreatDoorKit
import Derived.Test.YtnecjofgjbfheaaGreatDoorPlain
import Derived.Test.YtnecjofgjbfheaaGreatDoorAsc1
import Derived.Test.YtnecjofgjbfheaaGreatDoorAsc4
import Derived.Test.YtnecjofgjbfheaaGreatDoorAscBack
import Derived.Test.YtnecjofgjbfheaaGreatDoorRow
import Derived.Test.YtnecjofgjbfheaaGreatDoorPct0
import Derived.Test.YtnecjofgjbfheaaGreatDoorHst0
import Derived.Test.YtnecjofgjbfheaaGreatDoorUrl0
import Derived.Test.YtnecjofgjbfheaaGreatDoorUrl3
import Derived.Test.YtnecjofgjbfheaaGreatDoorUrl4
import Derived.Test.YtnecjofgjbfheaaGreatDoorUrl6
import Derived.Test.YtnecjofgjbfheaaGreatDoorUrl9
namespace Go.Proofs.YtnecjofgjbfheaaGreatDoor
open Go.RowKit Go.Proofs
set_option maxRecDepth 100000

/-- Plain bytes: nothing to clean. -/
def plainB (c : UInt8) : Bool := decide (33 ≤ c.toNat ∧ c.toNat ≤ 126)

def plainL (l : List UInt8) : Prop := ∀ c ∈ l, plainB c = true

theorem plain_app {a b : List UInt8} (ha : plainL a) (hb : plainL b) : plainL (a ++ b) := fun c hc => (List.mem_append.1 hc).elim (ha c) (hb c)

theorem plain_bd {c : UInt8} (h : plainB c = true) : 33 ≤ c.toNat ∧ c.toNat ≤ 126 := of_decide_eq_true h

theorem drop_none {p : UInt8 → Bool} : ∀ {l : List UInt8}, (∀ c ∈ l, p c = false) → l.dropWhile p = l
  | [], _ => rfl
  | c :: l, h => by rw [List.dropWhile_cons, if_neg (by rw [h c (by simp)]; decide)]

theorem clean_plain {l : List UInt8} (h : plainL l) : cleanL l = l := by
  have h1 : ∀ c ∈ l, lowC c = false := fun c hc => decide_eq_false (by have := plain_bd (h c hc); omega)
  have h2 : trimC l = l := by
    unfold trimC
    rw [drop_none h1, drop_none (fun c hc => h1 c (List.mem_reverse.1 hc)), List.reverse_reverse]
  unfold cleanL
  rw [h2, List.filter_eq_self]
  intro c hc
  have hb := plain_bd (h c hc)
  unfold brkC
  have e1 : (c == 9) = false := by rw [beq_eq_false_iff_ne]; rintro rfl; exact absurd hb (by decide)
  have e2 : (c == 10) = false := by rw [beq_eq_false_iff_ne]; rintro rfl; exact absurd hb (by decide)
  have e3 : (c == 13) = false := by rw [beq_eq_false_iff_ne]; rintro rfl; exact absurd hb (by decide)
  rw [e1, e2, e3]
  rfl

theorem valid_plain {l : List UInt8} (h : plainL l) : Lib.validD l = true := by
  rw [Lib.validD_ascii l.length l (fun c hc => by have := plain_bd (h c (List.mem_of_mem_take hc)); omega), List.drop_length]
  rfl

theorem url_plain {l : List UInt8} (h : plainL l) (hl : l.length ≤ 65536) : urlP l = bodyP l := by
  unfold urlP
  rw [if_pos ⟨hl, valid_plain h⟩, clean_plain h]

/-- None of those. -/
def freeL (of l : List UInt8) : Prop := ∀ c ∈ l, hasB of c = false

theorem free_app {of a b : List UInt8} (ha : freeL of a) (hb : freeL of b) : freeL of (a ++ b) := fun c hc => (List.mem_append.1 hc).elim (ha c) (hb c)

theorem free_nil (of : List UInt8) : freeL of [] := fun _ h => absurd h (by simp)

def partL (m : UInt8) : Option (List UInt8) → List UInt8
  | none => []
  | some l => m :: l

theorem scheme_fact {sch : List UInt8} (h : (defP sch).2 = true) : freeL [58] sch ∧ lowL sch = sch ∧ plainL sch ∧ sch.length ≤ 5 := by
  unfold defP at h
  split at h
  · rename_i hc
    rcases hc with rfl | rfl
    · exact ⟨by unfold freeL; decide, by decide, by unfold plainL; decide, by decide⟩
    · exact ⟨by unfold freeL; decide, by decide, by unfold plainL; decide, by decide⟩
  · split at h
    · rename_i hc
      rcases hc with rfl | rfl
      · exact ⟨by unfold freeL; decide, by decide, by unfold plainL; decide, by decide⟩
      · exact ⟨by unfold freeL; decide, by decide, by unfold plainL; decide, by decide⟩
    · split at h
      · rename_i hc
        subst hc
        exact ⟨by unfold freeL; decide, by decide, by unfold plainL; decide, by decide⟩
      · exact absurd h (by decide)

theorem has_sub {a b : List UInt8} (hs : ∀ x ∈ a, x ∈ b) {c : UInt8} (h : hasB b c = false) : hasB a c = false := by
  rw [Bool.eq_false_iff] at h ⊢
  intro hc
  apply h
  unfold hasB at hc ⊢
  simp at hc ⊢
  exact hs c hc

theorem up_stop {of p r : List UInt8} (hp : freeL of p) (hr : r = [] ∨ ∃ c t, r = c :: t ∧ hasB of c = true) : upL of (p ++ r) = p ∧ fromL of (p ++ r) = r := by
  rw [up_pre hp, from_pre hp]
  rcases hr with rfl | ⟨c, t, rfl, hc⟩
  · exact ⟨by simp [up_nil], rfl⟩
  · rw [up_hit hc, from_hit hc]
    exact ⟨by simp, rfl⟩

theorem part_stop (of : List UInt8) (m : UInt8) (hm : hasB of m = true) (o : Option (List UInt8)) (r : List UInt8) (hr : r = [] ∨ ∃ c t, r = c :: t ∧ hasB of c = true) : partL m o ++ r = [] ∨ ∃ c t, partL m o ++ r = c :: t ∧ hasB of c = true := by
  cases o with
  | none => exact hr
  | some l => exact .inr ⟨m, l ++ r, rfl, hm⟩

/-- A text made of pieces is read as them. -/
theorem body_pieces {sch auth pth : List UInt8} {q f : Option (List UInt8)} (h1 : (defP sch).2 = true) (h2 : freeL authE auth) (h2' : auth ≠ [])
    (h3 : pth = [] ∨ ∃ r, pth = 47 :: r) (h3' : freeL pathE pth) (h4 : ∀ l, q = some l → freeL [35] l) :
    bodyP (sch ++ 58 :: 47 :: 47 :: (auth ++ (pth ++ (partL 63 q ++ partL 35 f)))) =
      (authP sch auth).map fun a => ⟨sch, a.usr, a.pas, a.hos, a.prt, pathP pth, q.isSome, (q.map (encL 2)).getD [], f.isSome, (f.map (encL 1)).getD []⟩ := by
  obtain ⟨s1, s2, _, _⟩ := scheme_fact h1
  obtain ⟨u1, u2⟩ := up_stop (r := 58 :: 47 :: 47 :: (auth ++ (pth ++ (partL 63 q ++ partL 35 f)))) s1 (.inr ⟨58, _, rfl, by decide⟩)
  have hsk : skipL (47 :: 47 :: (auth ++ (pth ++ (partL 63 q ++ partL 35 f)))) = auth ++ (pth ++ (partL 63 q ++ partL 35 f)) := by
    obtain ⟨c, r, rfl⟩ := List.exists_cons_of_ne_nil h2'
    have hc : hasB [47, 92] c = false := has_sub (b := authE) (by decide) (h2 c (by simp))
    unfold skipL
    rw [List.dropWhile_cons, if_pos (by decide), List.dropWhile_cons, if_pos (by decide), List.cons_append, List.dropWhile_cons, if_neg (by rw [hc]; decide)]
  have hsch : schemeP (sch ++ 58 :: 47 :: 47 :: (auth ++ (pth ++ (partL 63 q ++ partL 35 f)))) = some (sch, auth ++ (pth ++ (partL 63 q ++ partL 35 f))) := by
    unfold schemeP
    rw [u1, u2, s2, if_pos ⟨h1, by simp⟩, List.drop_succ_cons, List.drop_zero, hsk]
  have t35 : partL 35 f = [] ∨ ∃ c t, partL 35 f = c :: t ∧ hasB authE c = true := by
    have := part_stop authE 35 (by decide) f [] (.inl rfl)
    rwa [List.append_nil] at this
  have t63 := part_stop authE 63 (by decide) q (partL 35 f) t35
  have tp : pth ++ (partL 63 q ++ partL 35 f) = [] ∨ ∃ c t, pth ++ (partL 63 q ++ partL 35 f) = c :: t ∧ hasB authE c = true := by
    rcases h3 with rfl | ⟨r, rfl⟩
    · exact t63
    · exact .inr ⟨47, _, rfl, by decide⟩
  obtain ⟨a1, a2⟩ := up_stop h2 tp
  have p35 : partL 35 f = [] ∨ ∃ c t, partL 35 f = c :: t ∧ hasB pathE c = true := by
    have := part_stop pathE 35 (by decide) f [] (.inl rfl)
    rwa [List.append_nil] at this
  obtain ⟨b1, b2⟩ := up_stop h3' (part_stop pathE 63 (by decide) q (partL 35 f) p35)
  have hqu : queryP (partL 63 q ++ partL 35 f) = (q.isSome, (q.map (encL 2)).getD [], partL 35 f) := by
    cases q with
    | none =>
      unfold queryP
      cases f with
      | none => rfl
      | some l => rfl
    | some l =>
      have t : partL 35 f = [] ∨ ∃ c t, partL 35 f = c :: t ∧ hasB [35] c = true := by
        have := part_stop [35] 35 (by decide) f [] (.inl rfl)
        rwa [List.append_nil] at this
      obtain ⟨c1, c2⟩ := up_stop (h4 l rfl) t
      unfold queryP
      rw [if_pos (show (partL 63 (some l) ++ partL 35 f).head? = some 63 from rfl)]
      show (true, encL 2 (upL [35] (l ++ partL 35 f)), fromL [35] (l ++ partL 35 f)) = _
      rw [c1, c2]
      rfl
  have hfr : fragP (partL 35 f) = (f.isSome, (f.map (encL 1)).getD []) := by
    cases f with
    | none => rfl
    | some l => rfl
  unfold bodyP
  rw [hsch]
  show (authP sch (upL authE (auth ++ (pth ++ (partL 63 q ++ partL 35 f))))).map (fun a => tailP sch a (fromL authE (auth ++ (pth ++ (partL 63 q ++ partL 35 f))))) = _
  rw [a1, a2]
  congr 1
  funext a
  unfold tailP
  rw [b1, b2, hqu, hfr]

theorem enc_mem (k : Int) : ∀ (l : List UInt8) (c : UInt8), c ∈ encL k l → inB k c = false ∧ (c ∈ l ∨ c ∈ safeL)
  | [], c, h => by simp [encL_nil] at h
  | x :: l, c, h => by
    rw [encL_cons] at h
    rcases List.mem_append.1 h with h | h
    · cases hx : inB k x
      · rw [encB_no hx] at h
        rw [List.mem_singleton.1 h]
        exact ⟨hx, .inl (by simp)⟩
      · rw [encB_yes hx] at h
        have h1 : ∀ i : Fin 16, hexB i.val ∈ safeL := by decide +kernel
        have hlt := x.toNat_lt
        have : c ∈ safeL := by
          simp only [List.mem_cons, List.not_mem_nil, or_false] at h
          rcases h with rfl | rfl | rfl
          · decide
          · exact h1 ⟨x.toNat / 16, by omega⟩
          · exact h1 ⟨x.toNat % 16, by omega⟩
        exact ⟨inB_safe k this, .inr this⟩
    · obtain ⟨h1, h2⟩ := enc_mem k l c h
      exact ⟨h1, h2.imp (fun h => by simp [h]) id⟩

theorem out_plain {l : List UInt8} {c : UInt8} (h : outB l c = false) : plainB c = true ∧ hasB l c = false := by
  unfold outB at h
  split at h
  · exact absurd h (by decide)
  · split at h
    · exact absurd h (by decide)
    · exact ⟨decide_eq_true (by omega), h⟩

theorem enc_plain {k : Int} (hk : 1 ≤ k ∧ k ≤ 4) (l : List UInt8) : plainL (encL k l) := by
  intro c hc
  have h := (enc_mem k l c hc).1
  unfold inB at h
  rcases (by omega : k = 1 ∨ k = 2 ∨ k = 3 ∨ k = 4) with rfl | rfl | rfl | rfl
  · rw [if_pos rfl] at h
    exact (out_plain h).1
  · rw [if_neg (by decide), if_pos rfl] at h
    exact (out_plain h).1
  · rw [if_neg (by decide), if_neg (by decide), if_pos rfl] at h
    exact (out_plain h).1
  · rw [if_neg (by decide), if_neg (by decide), if_neg (by decide), if_pos rfl] at h
    exact (out_plain h).1

theorem user_free (l : List UInt8) : freeL userL (encL 4 l) := fun c hc => by
  have h := (enc_mem 4 l c hc).1
  unfold inB at h
  rw [if_neg (by decide), if_neg (by decide), if_neg (by decide), if_pos rfl] at h
  exact (out_plain h).2

theorem path_free (l : List UInt8) : freeL pathL (encL 3 l) := fun c hc => by
  have h := (enc_mem 3 l c hc).1
  unfold inB at h
  rw [if_neg (by decide), if_neg (by decide), if_pos rfl] at h
  exact (out_plain h).2

theorem query_free (l : List UInt8) : freeL queryL (encL 2 l) := fun c hc => by
  have h := (enc_mem 2 l c hc).1
  unfold inB at h
  rw [if_neg (by decide), if_pos rfl] at h
  exact (out_plain h).2

theorem free_sub {a b l : List UInt8} (hs : ∀ x ∈ a, x ∈ b) (h : freeL b l) : freeL a l := fun c hc => has_sub hs (h c hc)

theorem forb_free {h : List UInt8} (hh : h.any forbB ≠ true) : freeL forbL h ∧ plainL h := by
  have key : ∀ c ∈ h, forbB c = false := by
    intro c hc
    rw [Bool.eq_false_iff]
    intro hf
    exact hh (List.any_eq_true.2 ⟨c, hc, hf⟩)
  refine ⟨fun c hc => ?_, fun c hc => ?_⟩
  · have := key c hc
    unfold forbB at this
    rw [Bool.or_eq_false_iff] at this
    exact this.2
  · have := key c hc
    unfold forbB at this
    rw [Bool.or_eq_false_iff, Bool.or_eq_false_iff, decide_eq_false_iff_not, decide_eq_false_iff_not] at this
    exact decide_eq_true (by omega)

theorem itoa_digs {n : Int} (h : 0 ≤ n ∧ n < 1000000000000000000) : (Lib.itoa n).all (fun c => isDig c.toNat) = true ∧ numVal (Lib.itoa n) = n ∧ Lib.itoa n ≠ [] := by
  have h1 := back_ok n
  rw [decide_eq_true h] at h1
  have h2 := back_val n h
  unfold numN at h2
  rw [if_pos h1] at h2
  unfold numOk at h1
  rw [Bool.and_eq_true] at h1
  exact ⟨h1.2, h2, (of_decide_eq_true h1.1).1⟩

theorem dig_free {l : List UInt8} (h : l.all (fun c => isDig c.toNat) = true) : plainL l ∧ freeL (64 :: 58 :: authE) l := by
  have key : ∀ c : UInt8, isDig c.toNat = true → plainB c = true ∧ hasB (64 :: 58 :: authE) c = false := fun c => byte_all (p := fun c => isDig c.toNat = true → plainB c = true ∧ hasB (64 :: 58 :: authE) c = false) (by decide +kernel) c
  exact ⟨fun c hc => (key c (List.all_eq_true.1 h c hc)).1, fun c hc => (key c (List.all_eq_true.1 h c hc)).2⟩

/-- A segment of a result. -/
def goodS (p : List UInt8) : Prop := ∃ x, p = encL 3 x ∧ dotsP x = 0 ∧ (47 : UInt8) ∉ x ∧ (92 : UInt8) ∉ x

theorem good_nil : goodS [] := ⟨[], rfl, by decide, by simp, by simp⟩

theorem res_good : ∀ (l acc : List (List UInt8)), (∀ p ∈ acc, goodS p) → (∀ s ∈ l, (47 : UInt8) ∉ s ∧ (92 : UInt8) ∉ s) → ∀ p ∈ resGo acc l, goodS p
  | [], acc, h, _, p, hp => h p hp
  | s :: r, acc, h, hs, p, hp => by
    by_cases hd : dotsP s = 0
    · rw [res_no hd] at hp
      refine res_good r _ (fun q hq => ?_) (fun x hx => hs x (by simp [hx])) p hp
      rcases List.mem_append.1 hq with hq | hq
      · exact h q hq
      · rw [List.mem_singleton.1 hq]
        exact ⟨s, rfl, hd, (hs s (by simp)).1, (hs s (by simp)).2⟩
    · rw [res_dot hd] at hp
      refine res_good r _ (fun q hq => ?_) (fun x hx => hs x (by simp [hx])) p hp
      rcases List.mem_append.1 hq with hq | hq
      · split at hq
        · exact h q (List.dropLast_subset _ hq)
        · exact h q hq
      · split at hq
        · rw [List.mem_singleton.1 hq]
          exact good_nil
        · simp at hq

theorem good_dots {p : List UInt8} (h : goodS p) : dotsP p = 0 ∧ encL 3 p = p := by
  obtain ⟨x, rfl, hd, _, _⟩ := h
  refine ⟨?_, enc_enc 3 x⟩
  unfold dotsP at hd ⊢
  rw [dec_enc 3 x.length x (Nat.le_refl _)]
  exact hd

theorem good_free {p : List UInt8} (h : goodS p) : (47 : UInt8) ∉ p ∧ (92 : UInt8) ∉ p ∧ freeL pathE p ∧ plainL p := by
  obtain ⟨x, rfl, _, h1, h2⟩ := h
  have key : ∀ c, c ∈ safeL → c ≠ 47 ∧ c ≠ 92 := by decide
  refine ⟨fun hc => ?_, fun hc => ?_, free_sub (by decide) (path_free x), enc_plain (by decide) x⟩
  · rcases (enc_mem 3 x _ hc).2 with h | h
    · exact h1 h
    · exact (key _ h).1 rfl
  · rcases (enc_mem 3 x _ hc).2 with h | h
    · exact h2 h
    · exact (key _ h).2 rfl

theorem res_same : ∀ (l acc : List (List UInt8)), (∀ p ∈ l, dotsP p = 0 ∧ encL 3 p = p) → resGo acc l = acc ++ l
  | [], acc, _ => by rw [res_nil, List.append_nil]
  | s :: r, acc, h => by
    rw [res_no (h s (by simp)).1, (h s (by simp)).2, res_same r _ (fun p hp => h p (by simp [hp])), List.append_assoc]
    rfl

/-- The segments with a slash ahead of each. -/
def slashL (l : List (List UInt8)) : List UInt8 := l.flatMap (fun p => 47 :: p)

theorem join_slash : ∀ (l : List (List UInt8)), l ≠ [] → 47 :: Lib.join l [47] = slashL l
  | [], h => absurd rfl h
  | x :: r, _ => by
    rw [Lib.join_cons]
    unfold slashL Lib.joinTail
    rw [List.flatMap_cons, List.cons_append]
    rw [List.flatMap_def]
    rfl

theorem map_sl : ∀ {l : List UInt8}, (92 : UInt8) ∉ l → l.map slB = l
  | [], _ => rfl
  | c :: l, h => by
    rw [List.map_cons, map_sl (fun hc => h (by simp [hc]))]
    congr 1
    unfold slB
    rw [if_neg (by rintro rfl; exact h (by simp))]

theorem slash_free {l : List (List UInt8)} {P : UInt8 → Prop} (h47 : P 47) (h : ∀ p ∈ l, ∀ c ∈ p, P c) : ∀ c ∈ slashL l, P c := by
  intro c hc
  unfold slashL at hc
  obtain ⟨p, hp, hcp⟩ := List.mem_flatMap.1 hc
  rcases List.mem_cons.1 hcp with rfl | hcp
  · exact h47
  · exact h p hp c hcp

theorem split_slash : ∀ (l : List (List UInt8)) (x : List UInt8), (47 : UInt8) ∉ x → (∀ p ∈ l, (47 : UInt8) ∉ p) → splitL (x ++ slashL l) 47 = x :: l
  | [], x, hx, _ => by
    unfold slashL splitL
    rw [List.flatMap_nil, List.append_nil, splitGo_none 47 x [] hx]
    rfl
  | y :: r, x, hx, h => by
    have ih := split_slash r y (h y (by simp)) (fun p hp => h p (by simp [hp]))
    unfold slashL splitL at ih ⊢
    rw [List.flatMap_cons, List.cons_append, splitGo_pre 47 x [] _ hx, ih]
    rfl

/-- The segments of a path that is written with slashes. -/
theorem segs_slash {l : List (List UInt8)} (h0 : l ≠ []) (h : ∀ p ∈ l, (47 : UInt8) ∉ p ∧ (92 : UInt8) ∉ p) : segsL (slashL l) = l := by
  obtain ⟨x, r, rfl⟩ := List.exists_cons_of_ne_nil h0
  have hm : (slashL (x :: r)).map slB = slashL (x :: r) := map_sl (fun hc => slash_free (P := fun c => c ≠ 92) (by decide) (fun p hp c hcp => fun e => (h p hp).2 (e ▸ hcp)) _ hc rfl)
  have ht : Lib.trimPrefix (slashL (x :: r)) [47] = x ++ slashL r := by
    unfold Lib.trimPrefix Lib.hasPrefix slashL
    rw [List.flatMap_cons, List.cons_append, if_pos (by simp)]
    rfl
  unfold segsL
  rw [hm, ht, split_slash r x (h x (by simp)).1 (fun p hp => (h p (by simp [hp])).1)]

theorem segs_free (p : List UInt8) : ∀ s ∈ segsL p, (47 : UInt8) ∉ s ∧ (92 : UInt8) ∉ s := by
  have h1 : (92 : UInt8) ∉ p.map slB := by
    intro h
    obtain ⟨c, _, hc⟩ := List.mem_map.1 h
    unfold slB at hc
    split at hc
    · exact absurd hc (by decide)
    · rename_i hn
      exact hn hc
  have h2 : (92 : UInt8) ∉ Lib.trimPrefix (p.map slB) [47] := by
    intro h
    unfold Lib.trimPrefix at h
    split at h
    · exact h1 (List.mem_of_mem_drop h)
    · exact h1 h
  have key : ∀ (l cur : List UInt8), (47 : UInt8) ∉ cur → (92 : UInt8) ∉ cur → (92 : UInt8) ∉ l → ∀ s ∈ splitGo 47 cur l, (47 : UInt8) ∉ s ∧ (92 : UInt8) ∉ s := by
    intro l
    induction l with
    | nil =>
      intro cur a b _ s hs
      rw [splitGo] at hs
      rw [List.mem_singleton.1 hs]
      exact ⟨a, b⟩
    | cons c l ih =>
      intro cur a b hl s hs
      rw [splitGo] at hs
      split at hs
      · rcases List.mem_cons.1 hs with rfl | hs
        · exact ⟨a, b⟩
        · exact ih [] (by simp) (by simp) (fun h => hl (by simp [h])) s hs
      · rename_i hc
        refine ih (cur ++ [c]) ?_ ?_ (fun h => hl (by simp [h])) s hs
        · simp only [List.mem_append, List.mem_singleton, not_or]
          exact ⟨a, fun e => hc e.symm⟩
        · simp only [List.mem_append, List.mem_singleton, not_or]
          exact ⟨b, fun e => hl (by simp [e])⟩
  exact key _ [] (by simp) (by simp) h2

/-- The path of what is read is read as itself. -/
theorem path_path (p : List UInt8) : pathP (pathP p) = pathP p ∧ freeL pathE (pathP p) ∧ plainL (pathP p) ∧ ∃ r, pathP p = 47 :: r := by
  obtain ⟨l, hl⟩ : ∃ l, l = resGo [] (segsL p) := ⟨_, rfl⟩
  have hg : ∀ q ∈ l, goodS q := by rw [hl]; exact res_good _ [] (by simp) (segs_free p)
  have hp : pathP p = 47 :: Lib.join l [47] := by rw [hl]; rfl
  by_cases h0 : l = []
  · rw [h0] at hp
    have e : pathP p = [47] := hp
    rw [e]
    refine ⟨by decide, ?_, ?_, [], rfl⟩
    · unfold freeL; decide
    · unfold plainL; decide
  · rw [hp, join_slash l h0]
    refine ⟨?_, ?_, ?_, ?_⟩
    · unfold pathP
      rw [segs_slash h0 (fun q hq => ⟨(good_free (hg q hq)).1, (good_free (hg q hq)).2.1⟩), res_same l [] (fun q hq => good_dots (hg q hq)), List.nil_append, join_slash l h0]
    · exact slash_free (P := fun c => hasB pathE c = false) (by decide) (fun q hq c hc => (good_free (hg q hq)).2.2.1 c hc)
    · exact slash_free (P := fun c => plainB c = true) (by decide) (fun q hq c hc => (good_free (hg q hq)).2.2.2 c hc)
    · obtain ⟨x, r, rfl⟩ := List.exists_cons_of_ne_nil h0
      exact ⟨_, rfl⟩

/-! what was read is read as it was -/
def userA (u p : List UInt8) : List UInt8 := if u = [] ∧ p = [] then [] else u ++ markL (decide (p ≠ [])) [58] p ++ [64]

theorem user_user (x y : List UInt8) : userP (encL 4 x ++ markL (decide (encL 4 y ≠ [])) [58] (encL 4 y)) = (encL 4 x, encL 4 y) := by
  have hx : freeL [58] (encL 4 x) := free_sub (by decide) (user_free x)
  unfold userP
  by_cases h : encL 4 y = []
  · rw [h]
    have e : markL (decide (([] : List UInt8) ≠ [])) [58] [] = [] := rfl
    rw [e, List.append_nil, up_all hx, from_all hx, enc_enc]
    rfl
  · have e : markL (decide (encL 4 y ≠ [])) [58] (encL 4 y) = 58 :: encL 4 y := by
      unfold markL
      rw [decide_eq_true h]
      rfl
    obtain ⟨u1, u2⟩ := up_stop (r := 58 :: encL 4 y) hx (.inr ⟨58, _, rfl, by decide⟩)
    rw [e, u1, u2, enc_enc, List.drop_succ_cons, List.drop_zero, enc_enc]

def portA (p : Int) : List UInt8 := markL (decide (p ≠ -1)) [58] (Lib.itoa p)

/-- A port that was read. -/
def goodPt (sch : List UInt8) (p : Int) : Prop := p = -1 ∨ (0 ≤ p ∧ p ≤ 65535 ∧ p ≠ (defP sch).1)

theorem port_good {sch d : List UInt8} {p : Int} (h : portP sch d = some p) : goodPt sch p := by
  unfold portP at h
  split at h
  · injection h with h
    exact .inl h.symm
  · split at h
    · rename_i hc
      injection h with h
      split at h
      · exact .inl h.symm
      · rename_i hn
        exact .inr ⟨by omega, by omega, by rw [← h]; exact hn⟩
    · exact absurd h (by simp)

theorem place_place {sch h : List UInt8} {p : Int} (hh : hostP h = some h) (hf : freeL [58] h) (hp : goodPt sch p) : placeP sch (h ++ portA p) = some (h, p) := by
  rcases hp with rfl | ⟨h1, h2, h3⟩
  · have e : portA (-1) = [] := rfl
    rw [e, List.append_nil]
    refine place_some (by rw [up_all hf]; exact hh) (by rw [from_all hf]; rfl)
  · have e : portA p = 58 :: Lib.itoa p := by
      unfold portA markL
      rw [decide_eq_true (by omega)]
      rfl
    obtain ⟨u1, u2⟩ := up_stop (r := 58 :: Lib.itoa p) hf (.inr ⟨58, _, rfl, by decide⟩)
    obtain ⟨d1, d2, d3⟩ := itoa_digs (n := p) ⟨h1, by omega⟩
    rw [e]
    refine place_some (by rw [u1]; exact hh) ?_
    rw [u2, List.drop_succ_cons, List.drop_zero, port_some d3 (by rw [allD_dig]; exact d1) (by rw [valD_num _ d1, d2]) h2, if_neg h3]

theorem portA_free {sch : List UInt8} {p : Int} (hp : goodPt sch p) : plainL (portA p) ∧ freeL (64 :: authE) (portA p) ∧ (portA p).length ≤ 22 := by
  rcases hp with rfl | ⟨h1, h2, _⟩
  · have e : portA (-1) = [] := rfl
    rw [e]
    exact ⟨fun _ h => absurd h (by simp), free_nil _, by decide⟩
  · have e : portA p = [58] ++ Lib.itoa p := by
      unfold portA markL
      rw [decide_eq_true (by omega)]
      rfl
    obtain ⟨d1, _, _⟩ := itoa_digs (n := p) ⟨h1, by omega⟩
    obtain ⟨f1, f2⟩ := dig_free d1
    rw [e]
    refine ⟨plain_app (by unfold plainL; decide) f1, free_app (by unfold freeL; decide) (free_sub (by decide) f2), ?_⟩
    have := Lib.itoa_length_le p (by omega) (by omega)
    rw [List.length_append]
    simp
    omega

theorem free_not {of l : List UInt8} (h : freeL of l) {c : UInt8} (hc : hasB of c = true) : c ∉ l := fun hm => by rw [h c hm] at hc; exact absurd hc (by decide)

theorem auth_auth {sch x y h : List UInt8} {p : Int} (hh : hostP h = some h) (hb : freeL forbL h) (hp : goodPt sch p) :
    authP sch (userA (encL 4 x) (encL 4 y) ++ (h ++ portA p)) = some ⟨encL 4 x, encL 4 y, h, p⟩ := by
  have hpl := place_place hh (free_sub (by decide) hb) hp
  have h64 : (64 : UInt8) ∉ h ++ portA p := by
    intro hm
    rcases List.mem_append.1 hm with hm | hm
    · exact free_not hb (by decide) hm
    · exact free_not (portA_free hp).2.1 (by decide) hm
  unfold authP userA
  by_cases hc : encL 4 x = [] ∧ encL 4 y = []
  · rw [if_pos hc, List.nil_append, lastAt_none h64, hc.1, hc.2]
    show (placeP sch (h ++ portA p)).map _ = _
    rw [hpl]
    rfl
  · rw [if_neg hc]
    have e : encL 4 x ++ markL (decide (encL 4 y ≠ [])) [58] (encL 4 y) ++ [64] ++ (h ++ portA p) = (encL 4 x ++ markL (decide (encL 4 y ≠ [])) [58] (encL 4 y)) ++ 64 :: (h ++ portA p) := by simp
    rw [e, lastAt_some _ h64]
    show (placeP sch (h ++ portA p)).map (fun z => (⟨(userP (encL 4 x ++ markL (decide (encL 4 y ≠ [])) [58] (encL 4 y))).1, (userP (encL 4 x ++ markL (decide (encL 4 y ≠ [])) [58] (encL 4 y))).2, z.1, z.2⟩ : AutM)) = _
    rw [hpl, user_user]
    rfl

def totL2 (l : List (List UInt8)) : Nat := (l.map (fun p => p.length + 1)).sum

theorem tot_app (a b : List (List UInt8)) : totL2 (a ++ b) = totL2 a + totL2 b := by unfold totL2; rw [List.map_append, List.sum_append]

theorem tot_drop : ∀ l : List (List UInt8), totL2 l.dropLast ≤ totL2 l
  | [] => Nat.le_refl _
  | [x] => by simp [totL2]
  | x :: y :: r => by
    have := tot_drop (y :: r)
    rw [List.dropLast_cons_of_ne_nil (by simp)]
    unfold totL2 at this ⊢
    rw [List.map_cons, List.map_cons, List.sum_cons, List.sum_cons]
    omega

theorem tot_slash (l : List (List UInt8)) : (slashL l).length = totL2 l := by
  unfold slashL totL2
  induction l with
  | nil => rfl
  | cons x r ih => rw [List.flatMap_cons, List.length_append, ih, List.map_cons, List.sum_cons, List.length_cons]

theorem tot_res : ∀ (l acc : List (List UInt8)), totL2 (resGo acc l) ≤ totL2 acc + 3 * totL2 l
  | [], acc => by rw [res_nil]; omega
  | s :: r, acc => by
    have h3 := encL_len 3 s
    have hc : totL2 (s :: r) = s.length + 1 + totL2 r := by unfold totL2; rw [List.map_cons, List.sum_cons]
    by_cases hd : dotsP s = 0
    · rw [res_no hd]
      have := tot_res r (acc ++ [encL 3 s])
      rw [tot_app] at this
      have e : totL2 [encL 3 s] = (encL 3 s).length + 1 := by simp [totL2]
      omega
    · rw [res_dot hd]
      have h := tot_res r ((if dotsP s = 2 then acc.dropLast else acc) ++ (if r = [] then [[]] else []))
      rw [tot_app] at h
      have h1 : totL2 (if dotsP s = 2 then acc.dropLast else acc) ≤ totL2 acc := by split; exact tot_drop acc; exact Nat.le_refl _
      have h2 : totL2 (if r = [] then [[]] else []) ≤ 1 := by split <;> decide
      omega

theorem tot_split : ∀ (l cur : List UInt8), totL2 (splitGo 47 cur l) = cur.length + l.length + 1
  | [], cur => by simp [splitGo, totL2]
  | c :: l, cur => by
    rw [splitGo]
    split
    · have := tot_split l []
      unfold totL2 at this ⊢
      rw [List.map_cons, List.sum_cons, this]
      simp
      omega
    · rw [tot_split l (cur ++ [c])]
      simp
      omega

theorem path_len (p : List UInt8) : (pathP p).length ≤ 3 * p.length + 4 := by
  obtain ⟨l, hl⟩ : ∃ l, l = resGo [] (segsL p) := ⟨_, rfl⟩
  have hp : pathP p = 47 :: Lib.join l [47] := by rw [hl]; rfl
  have ht := tot_res (segsL p) []
  rw [← hl] at ht
  have hs : totL2 (segsL p) ≤ p.length + 1 := by
    unfold segsL splitL
    rw [tot_split]
    have : (Lib.trimPrefix (p.map slB) [47]).length ≤ p.length := by
      unfold Lib.trimPrefix
      split
      · rw [List.length_drop, List.length_map]; omega
      · rw [List.length_map]; exact Nat.le_refl _
    simp
    omega
  have e0 : totL2 ([] : List (List UInt8)) = 0 := rfl
  by_cases h0 : l = []
  · rw [hp, h0]
    simp [Lib.join_nil]
  · rw [hp, join_slash l h0, tot_slash]
    omega

theorem join_short : ∀ (l : List (List UInt8)), (∀ p ∈ l, p.length ≤ 3) → (joinD l).length ≤ 4 * l.length
  | [], _ => by simp [joinD]
  | [p], h => by have := h p (by simp); simp [joinD]; omega
  | p :: q :: r, h => by
    have h1 := h p (by simp)
    have h2 := join_short (q :: r) (fun x hx => h x (by simp at hx ⊢; exact .inr hx))
    rw [joinD, List.length_append, List.length_cons, List.length_cons]
    simp only [List.length_cons] at h2 ⊢
    omega

theorem host_len {s h : List UInt8} (he : hostP s = some h) : h.length ≤ s.length + 16 := by
  unfold hostP hostD at he
  split at he
  · exact absurd he (by simp)
  · split at he
    · obtain ⟨a, _, rfl⟩ := Option.map_eq_some_iff.1 he
      have := join_short (fourL a) (fun p hp => by obtain ⟨b, rfl⟩ := four_each hp; exact itoa_len b)
      have e : (fourL a).length = 4 := rfl
      unfold textL
      omega
    · injection he with he
      have := decL_len s.length s (Nat.le_refl _)
      rw [← he, low_length]
      omega

/-! what is read, in its shape -/
structure ShapeU (u : UrlM) : Prop where
  sch : (defP u.sch).2 = true
  usr : ∃ x, u.usr = encL 4 x ∧ x.length ≤ 3000
  pas : ∃ x, u.pas = encL 4 x ∧ x.length ≤ 3000
  hos : hostP u.hos = some u.hos ∧ freeL forbL u.hos ∧ plainL u.hos ∧ u.hos ≠ [] ∧ u.hos.length ≤ 3016
  prt : goodPt u.sch u.prt
  pth : ∃ x, u.pth = pathP x ∧ x.length ≤ 3000
  qry : if u.hq then ∃ x, u.qry = encL 2 x ∧ x.length ≤ 3000 else u.qry = []
  frg : if u.hf then ∃ x, u.frg = encL 1 x ∧ x.length ≤ 3000 else u.frg = []

theorem last_len {l a b : List UInt8} (h : lastAtL l = some (a, b)) : a.length ≤ l.length ∧ b.length ≤ l.length := by
  unfold lastAtL at h
  split at h
  · injection h with h
    injection h with h1 h2
    subst h1 h2
    refine ⟨?_, ?_⟩
    · rw [List.length_reverse, List.length_drop]
      have := (List.dropWhile_sublist (l := l.reverse) (fun c => !(c == 64))).length_le
      rw [List.length_reverse] at this
      omega
    · rw [List.length_reverse]
      have := (List.takeWhile_sublist (l := l.reverse) (fun c => !(c == 64))).length_le
      rw [List.length_reverse] at this
      exact this
  · exact absurd h (by simp)

theorem place_shape {sch l h : List UInt8} {p : Int} (hp : placeP sch l = some (h, p)) (hl : l.length ≤ 3000) : hostP h = some h ∧ freeL forbL h ∧ plainL h ∧ h ≠ [] ∧ h.length ≤ 3016 ∧ goodPt sch p := by
  unfold placeP at hp
  cases hh : hostP (upL [58] l) with
  | none => rw [hh] at hp; exact absurd hp (by simp)
  | some h2 =>
    rw [hh] at hp
    cases hpp : portP sch ((fromL [58] l).drop 1) with
    | none => rw [hpp] at hp; exact absurd hp (by simp)
    | some p2 =>
      rw [hpp] at hp
      have e : some (h2, p2) = some (h, p) := hp
      injection e with e
      injection e with e1 e2
      subst e1 e2
      obtain ⟨_, _, h3, h4⟩ := host_low hh
      obtain ⟨f1, f2⟩ := forb_free h4
      have := host_len hh
      have := up_len [58] l
      exact ⟨host_host hh, f1, f2, h3, by omega, port_good hpp⟩

theorem body_shape {t : List UInt8} {u : UrlM} (h : bodyP t = some u) (ht : t.length ≤ 3000) : ShapeU u := by
  unfold bodyP at h
  cases hs : schemeP t with
  | none => rw [hs] at h; exact absurd h (by simp)
  | some x =>
    rw [hs] at h
    have h2 : (authP x.1 (upL authE x.2)).map (fun a => tailP x.1 a (fromL authE x.2)) = some u := h
    obtain ⟨a, ha, rfl⟩ := Option.map_eq_some_iff.1 h2
    unfold schemeP at hs
    split at hs
    · rename_i hc
      injection hs with hs
      subst hs
      obtain ⟨r, hr⟩ : ∃ r, r = skipL ((fromL [58] t).drop 1) := ⟨_, rfl⟩
      have hrl : r.length ≤ 3000 := by
        rw [hr]
        unfold skipL
        refine Nat.le_trans (List.dropWhile_sublist _).length_le ?_
        rw [List.length_drop]
        have := from_len [58] t
        omega
      simp only [← hr] at ha ⊢
      have hul := up_len authE r
      have hfl := from_len authE r
      obtain ⟨p, hp⟩ : ∃ p, p = fromL authE r := ⟨_, rfl⟩
      rw [← hp] at hfl ⊢
      have hpu := up_len pathE p
      have hpf := from_len pathE p
      obtain ⟨q, hq⟩ : ∃ q, q = fromL pathE p := ⟨_, rfl⟩
      have hA : (∃ x, a.usr = encL 4 x ∧ x.length ≤ 3000) ∧ (∃ x, a.pas = encL 4 x ∧ x.length ≤ 3000) ∧ (hostP a.hos = some a.hos ∧ freeL forbL a.hos ∧ plainL a.hos ∧ a.hos ≠ [] ∧ a.hos.length ≤ 3016 ∧ goodPt (lowL (upL [58] t)) a.prt) := by
        unfold authP at ha
        cases hla : lastAtL (upL authE r) with
        | none =>
          rw [hla] at ha
          obtain ⟨z, hz, rfl⟩ := Option.map_eq_some_iff.1 ha
          exact ⟨⟨[], rfl, by simp⟩, ⟨[], rfl, by simp⟩, place_shape hz (by omega)⟩
        | some y =>
          obtain ⟨y1, y2⟩ := y
          obtain ⟨l1, l2⟩ := last_len hla
          rw [hla] at ha
          obtain ⟨z, hz, rfl⟩ := Option.map_eq_some_iff.1 ha
          have b1 := up_len [58] y1
          have b2 := from_len [58] y1
          exact ⟨⟨_, rfl, by omega⟩, ⟨_, rfl, by rw [List.length_drop]; omega⟩, place_shape hz (by omega)⟩
      refine ⟨hc.1, hA.1, hA.2.1, ⟨hA.2.2.1, hA.2.2.2.1, hA.2.2.2.2.1, hA.2.2.2.2.2.1, hA.2.2.2.2.2.2.1⟩, hA.2.2.2.2.2.2.2, ⟨_, rfl, by omega⟩, ?_, ?_⟩
      · show if (queryP (fromL pathE p)).1 then ∃ x, (queryP (fromL pathE p)).2.1 = encL 2 x ∧ x.length ≤ 3000 else (queryP (fromL pathE p)).2.1 = []
        unfold queryP
        split
        · rw [if_pos rfl]
          refine ⟨_, rfl, ?_⟩
          have := up_len [35] ((fromL pathE p).drop 1)
          rw [List.length_drop] at this
          omega
        · simp
      · show if (fragP (queryP (fromL pathE p)).2.2).1 then ∃ x, (fragP (queryP (fromL pathE p)).2.2).2 = encL 1 x ∧ x.length ≤ 3000 else (fragP (queryP (fromL pathE p)).2.2).2 = []
        have hql : (queryP (fromL pathE p)).2.2.length ≤ 3000 := by
          unfold queryP
          split
          · have := from_len [35] ((fromL pathE p).drop 1)
            rw [List.length_drop] at this
            show (fromL [35] ((fromL pathE p).drop 1)).length ≤ _
            omega
          · show (fromL pathE p).length ≤ _
            omega
        unfold fragP
        split
        · rw [if_pos rfl]
          exact ⟨_, rfl, by rw [List.length_drop]; omega⟩
        · simp
    · exact absurd hs (by simp)

theorem url_shape {s : List UInt8} {u : UrlM} (h : urlP s = some u) (hs : s.length ≤ 3000) : ShapeU u := by
  unfold urlP at h
  split at h
  · exact body_shape h (Nat.le_trans (clean_len s) hs)
  · exact absurd h (by simp)

theorem encl_len {k : Int} {x l : List UInt8} (h : l = encL k x) (hx : x.length ≤ 3000) : l.length ≤ 9000 := by
  have := encL_len k x
  rw [h]
  omega

/-- What was read and is written is read as it was. -/
theorem url_back {u : UrlM} (h : ShapeU u) : urlP (textU u) = some u := by
  obtain ⟨s1, s2, s3, s4⟩ := scheme_fact h.sch
  obtain ⟨x, hx, hxl⟩ := h.usr
  obtain ⟨y, hy, hyl⟩ := h.pas
  obtain ⟨h1, h2, h3, h4, h5⟩ := h.hos
  obtain ⟨z, hz, hzl⟩ := h.pth
  obtain ⟨p1, p2, p3, r, p4⟩ := path_path z
  have hpl := path_len z
  obtain ⟨g1, g2, g3⟩ := portA_free h.prt
  obtain ⟨q, hq⟩ : ∃ q : Option (List UInt8), q = if u.hq then some u.qry else none := ⟨_, rfl⟩
  obtain ⟨f, hf⟩ : ∃ f : Option (List UInt8), f = if u.hf then some u.frg else none := ⟨_, rfl⟩
  have hQ : partL 63 q = markL u.hq [63] u.qry ∧ plainL (partL 63 q) ∧ (partL 63 q).length ≤ 9001 ∧ (∀ l, q = some l → freeL [35] l) ∧ q.isSome = u.hq ∧ (q.map (encL 2)).getD [] = u.qry := by
    have hh := h.qry
    cases hb : u.hq
    · rw [hb] at hq hh
      have hq2 : q = none := hq
      have hh2 : u.qry = [] := hh
      rw [hq2, hh2]
      exact ⟨rfl, fun _ h => absurd h (by simp [partL]), by simp [partL], fun l h => absurd h (by simp), rfl, rfl⟩
    · rw [hb] at hq hh
      have hq2 : q = some u.qry := hq
      obtain ⟨w, hw, hwl⟩ : ∃ w, u.qry = encL 2 w ∧ w.length ≤ 3000 := hh
      have hl := encl_len hw hwl
      rw [hq2]
      refine ⟨rfl, ?_, ?_, fun l hl2 => ?_, rfl, ?_⟩
      · intro c hc
        rcases List.mem_cons.1 hc with rfl | hc
        · decide
        · rw [hw] at hc; exact enc_plain (by decide) w c hc
      · simp only [partL, List.length_cons]; omega
      · injection hl2 with hl2
        rw [← hl2, hw]
        exact free_sub (by decide) (query_free w)
      · show encL 2 u.qry = u.qry
        rw [hw, enc_enc]
  have hF : partL 35 f = markL u.hf [35] u.frg ∧ plainL (partL 35 f) ∧ (partL 35 f).length ≤ 9001 ∧ f.isSome = u.hf ∧ (f.map (encL 1)).getD [] = u.frg := by
    have hh := h.frg
    cases hb : u.hf
    · rw [hb] at hf hh
      have hq2 : f = none := hf
      have hh2 : u.frg = [] := hh
      rw [hq2, hh2]
      exact ⟨rfl, fun _ h => absurd h (by simp [partL]), by simp [partL], rfl, rfl⟩
    · rw [hb] at hf hh
      have hq2 : f = some u.frg := hf
      obtain ⟨w, hw, hwl⟩ : ∃ w, u.frg = encL 1 w ∧ w.length ≤ 3000 := hh
      have hl := encl_len hw hwl
      rw [hq2]
      refine ⟨rfl, ?_, ?_, rfl, ?_⟩
      · intro c hc
        rcases List.mem_cons.1 hc with rfl | hc
        · decide
        · rw [hw] at hc; exact enc_plain (by decide) w c hc
      · simp only [partL, List.length_cons]; omega
      · show encL 1 u.frg = u.frg
        rw [hw, enc_enc]
  have hUA : userL2 u = userA (encL 4 x) (encL 4 y) := by unfold userL2 userA; rw [hx, hy]
  have hUP : plainL (userA (encL 4 x) (encL 4 y)) ∧ freeL authE (userA (encL 4 x) (encL 4 y)) ∧ (userA (encL 4 x) (encL 4 y)).length ≤ 18002 := by
    have e1 := encl_len (k := 4) rfl hxl
    have e2 := encl_len (k := 4) rfl hyl
    have m1 : plainL (markL (decide (encL 4 y ≠ [])) [58] (encL 4 y)) ∧ freeL authE (markL (decide (encL 4 y ≠ [])) [58] (encL 4 y)) ∧ (markL (decide (encL 4 y ≠ [])) [58] (encL 4 y)).length ≤ 9001 := by
      unfold markL
      split
      · refine ⟨plain_app (by unfold plainL; decide) (enc_plain (by decide) y), free_app (by unfold freeL; decide) (free_sub (by decide) (user_free y)), ?_⟩
        rw [List.length_append]
        simp
        omega
      · exact ⟨fun _ h => absurd h (by simp), free_nil _, by simp⟩
    unfold userA
    split
    · exact ⟨fun _ h => absurd h (by simp), free_nil _, by simp⟩
    · refine ⟨plain_app (plain_app (enc_plain (by decide) x) m1.1) (by unfold plainL; decide), free_app (free_app (free_sub (by decide) (user_free x)) m1.2.1) (by unfold freeL; decide), ?_⟩
      rw [List.length_append, List.length_append]
      simp only [List.length_cons, List.length_nil]
      omega
  have hT : textU u = u.sch ++ 58 :: 47 :: 47 :: ((userA (encL 4 x) (encL 4 y) ++ (u.hos ++ portA u.prt)) ++ (u.pth ++ (partL 63 q ++ partL 35 f))) := by
    unfold textU
    rw [hUA, hQ.1, hF.1]
    unfold portA
    simp
  have hAF : freeL authE (userA (encL 4 x) (encL 4 y) ++ (u.hos ++ portA u.prt)) := free_app hUP.2.1 (free_app (free_sub (by decide) h2) (free_sub (by decide) g2))
  have hAN : userA (encL 4 x) (encL 4 y) ++ (u.hos ++ portA u.prt) ≠ [] := by
    intro e
    have := congrArg List.length e
    rw [List.length_append, List.length_append] at this
    have h6 := List.length_pos_iff.2 h4
    simp only [List.length_nil] at this
    omega
  have hpl2 : plainL (textU u) := by
    rw [hT]
    refine plain_app s3 ?_
    have e : (58 :: 47 :: 47 :: ((userA (encL 4 x) (encL 4 y) ++ (u.hos ++ portA u.prt)) ++ (u.pth ++ (partL 63 q ++ partL 35 f))) : List UInt8) = [58, 47, 47] ++ ((userA (encL 4 x) (encL 4 y) ++ (u.hos ++ portA u.prt)) ++ (u.pth ++ (partL 63 q ++ partL 35 f))) := rfl
    rw [e]
    exact plain_app (by unfold plainL; decide) (plain_app (plain_app hUP.1 (plain_app h3 g1)) (plain_app (by rw [hz]; exact p3) (plain_app hQ.2.1 hF.2.1)))
  have hlen : (textU u).length ≤ 65536 := by
    have a1 := hUP.2.2
    have a2 := hQ.2.2.1
    have a3 := hF.2.2.1
    have a4 : u.pth.length ≤ 9004 := by rw [hz]; omega
    rw [hT]
    simp only [List.length_append, List.length_cons]
    omega
  rw [url_plain hpl2 hlen, hT, body_pieces h.sch hAF hAN (.inr ⟨r, by rw [hz]; exact p4⟩) (by rw [hz]; exact p2) hQ.2.2.2.1, auth_auth h1 h2 h.prt]
  show some _ = some u
  congr 1
  obtain ⟨e1, e2⟩ := hQ.2.2.2.2
  obtain ⟨e3, e4⟩ := hF.2.2.2
  rw [e1, e2, e3, e4, ← hx, ← hy]
  have e5 : pathP u.pth = u.pth := by rw [hz]; exact p1
  rw [e5]

theorem uPortU_any (S U P H T Q F : ByteArray) (pt : Int) (hq hf : Bool) (w : World) :
    Calls Tryz.prog 57 #[.agg #[.string S, .string U, .string P, .string H, .int .i64 pt, .string T, .bool hq, .string Q, .bool hf, .string F]] w fun e w' => e = .returned (.int .i64 (if pt = -1 then (defP S.data.toList).1 else pt)) ∧ Below w.heap.size w w' := by
  have HD := Lib.hid (fun W => udef_any S W)
  obtain ⟨D, hD⟩ : ∃ D, D = (defP S.data.toList).1 := ⟨_, rfl⟩
  obtain ⟨B, hB⟩ : ∃ B, B = (defP S.data.toList).2 := ⟨_, rfl⟩
  rw [← hD, ← hB] at HD
  rw [← hD]
  have HB := Lib.hid (below_more (Below.refl _ w) (.cells #[.string S, .string U, .string P, .string H, .int .i64 pt, .string T, .bool hq, .string Q, .bool hf, .string F] 31))
  obtain ⟨R, hR⟩ : ∃ R, R = if pt = -1 then D else pt := ⟨_, rfl⟩
  rw [← hR]
  clear hD hB
  by_cases hp : pt = -1
  · have HR : Hid (R = D) := Lib.hid (by rw [hR, if_pos hp])
    have q1 : (pt != -1) = false := by simp [hp]
    clear hR hp
    go_enter Tryz.func57, Tryz.ntmps57
    go_wp2_with fail
    refine (HD.out _).mono ?_
    rintro e w1 ⟨rfl, rfl⟩
    go_wp2_with fail
    go_ret
    exact ⟨ret_int HR.out.symm, HB.out⟩
  · have HR : Hid (R = pt) := Lib.hid (by rw [hR, if_neg hp])
    have q1 : (pt != -1) = true := by simp [hp]
    clear hR hp
    go_enter Tryz.func57, Tryz.ntmps57
    go_wp2_with fail
    go_ret
    exact ⟨ret_int HR.out.symm, HB.out⟩

/-- Parse's answer, field by field. -/
def parsedV (u : UrlM) (n : Int) : Value := .tuple #[.agg #[.string ⟨u.sch.toArray⟩, .string ⟨u.usr.toArray⟩, .string ⟨u.pas.toArray⟩, .string ⟨u.hos.toArray⟩, .int .i64 u.prt, .string ⟨u.pth.toArray⟩, .bool u.hq, .string ⟨u.qry.toArray⟩, .bool u.hf, .string ⟨u.frg.toArray⟩], .int .i64 n]

theorem parsed_eq (o : Option UrlM) : urlR o = parsedV (o.getD urlZ) (urlE o) := rfl

theorem shape_small {u : UrlM} (h : ShapeU u) : u.sch.length ≤ 1048576 ∧ u.usr.length ≤ 1048576 ∧ u.pas.length ≤ 1048576 ∧ u.hos.length ≤ 1048576 ∧ u.pth.length ≤ 1048576 ∧ u.qry.length ≤ 1048576 ∧ u.frg.length ≤ 1048576 ∧ (-9223372036854775808 ≤ u.prt ∧ u.prt ≤ 9223372036854775807) := by
  obtain ⟨_, _, _, s4⟩ := scheme_fact h.sch
  obtain ⟨x, hx, hxl⟩ := h.usr
  obtain ⟨y, hy, hyl⟩ := h.pas
  obtain ⟨_, _, _, _, h5⟩ := h.hos
  obtain ⟨z, hz, hzl⟩ := h.pth
  have h1 := encl_len hx hxl
  have h2 := encl_len hy hyl
  have h3 := path_len z
  rw [← hz] at h3
  have hq : u.qry.length ≤ 9000 := by
    have hh := h.qry
    split at hh
    · obtain ⟨a, ha, hal⟩ := hh
      exact encl_len ha hal
    · rw [hh]; simp
  have hf : u.frg.length ≤ 9000 := by
    have hh := h.frg
    split at hh
    · obtain ⟨a, ha, hal⟩ := hh
      exact encl_len ha hal
    · rw [hh]; simp
  have hp : -1 ≤ u.prt ∧ u.prt ≤ 65535 := by
    rcases h.prt with e | ⟨a, b, _⟩
    · rw [e]; decide
    · omega
  exact ⟨by omega, by omega, by omega, by omega, by omega, by omega, by omega, by omega, by omega⟩

end Go.Proofs.YtnecjofgjbfheaaGreatDoor
