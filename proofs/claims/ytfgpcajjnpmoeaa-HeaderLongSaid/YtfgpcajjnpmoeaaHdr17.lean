/- Lists of values in plain words: what is put together with commas and blanks is cut there again. -/
import Derived.Test.YtfgpcajjnpmoeaaKit
import Derived.Test.YtfgpcajjnpmoeaaAsc2
import Derived.Test.YtfgpcajjnpmoeaaAsc4
import Derived.Test.YtfgpcajjnpmoeaaTrm0
import Derived.Test.YtfgpcajjnpmoeaaRow
import Derived.Test.YtfgpcajjnpmoeaaHdr0
import Derived.Test.YtfgpcajjnpmoeaaHdr8
import Derived.Test.YtfgpcajjnpmoeaaHdr9
import Derived.Test.YtfgpcajjnpmoeaaHdr10
namespace Go.Proofs.Ytfgpcajjnpmoeaa
open Go.RowKit Go.Proofs

def glueL : List (List UInt8) → List UInt8
  | [] => []
  | [x] => x
  | x :: y :: r => x ++ [32, 44, 9] ++ glueL (y :: r)

theorem glue_snoc : ∀ (xs : List (List UInt8)) (x : List UInt8), xs ≠ [] → glueL (xs ++ [x]) = glueL xs ++ [32, 44, 9] ++ x
  | [], x, h => absurd rfl h
  | [a], x, _ => by simp [glueL]
  | a :: b :: r, x, _ => by
    have h := glue_snoc (b :: r) x (by simp)
    simp only [List.cons_append, glueL] at h ⊢
    rw [h]
    simp

theorem glue_len : ∀ xs : List (List UInt8), (glueL xs).length ≤ 4 * llTot xs
  | [] => by simp [glueL]
  | [x] => by simp only [glueL, llTot]; omega
  | x :: y :: r => by
    have h := glue_len (y :: r)
    simp only [glueL, List.length_append, List.length_cons, List.length_nil, llTot] at h ⊢
    omega

/-- Trimmed, not empty, without a comma. -/
def NeatL (x : List UInt8) : Prop := x ≠ [] ∧ trimL x = x ∧ (44 : UInt8) ∉ x

theorem tidy_one {p x : List UInt8} (h : trimL p = x) (hx : x ≠ []) : tidyL [p] = [x] := by
  unfold tidyL
  rw [List.map_cons, List.map_nil, h]
  cases x with
  | nil => exact absurd rfl hx
  | cons a b => rfl

theorem tidy_none {p : List UInt8} (h : trimL p = []) : tidyL [p] = [] := by
  unfold tidyL
  rw [List.map_cons, List.map_nil, h]
  rfl

theorem split_free {p : List UInt8} (h : (44 : UInt8) ∉ p) : splitL p 44 = [p] := by
  unfold splitL
  rw [splitGo_none 44 p [] h, List.nil_append]

theorem split_at44 {p r : List UInt8} (h : (44 : UInt8) ∉ p) : splitL (p ++ 44 :: r) 44 = p :: splitL r 44 := by
  unfold splitL
  rw [splitGo_pre 44 p [] r h, List.nil_append]

theorem glue_cut : ∀ (xs : List (List UInt8)) (pre : List UInt8), (∀ c ∈ pre, isSp c = true) → (44 : UInt8) ∉ pre → (∀ x ∈ xs, NeatL x) → tidyL (splitL (pre ++ glueL xs) 44) = xs
  | [], pre, h1, h2, _ => by
    simp only [glueL, List.append_nil]
    rw [split_free h2]
    refine tidy_none ?_
    have h := trimL_pads pre [] [] h1 (by simp)
    simp only [List.append_nil] at h
    rw [h]
    rfl
  | [x], pre, h1, h2, hx => by
    obtain ⟨n1, n2, n3⟩ := hx x (by simp)
    simp only [glueL]
    rw [split_free (by rw [List.mem_append]; rintro (h | h); exact h2 h; exact n3 h)]
    refine tidy_one ?_ n1
    have h := trimL_pads pre x [] h1 (by simp)
    rw [List.append_nil] at h
    rw [h, n2]
  | x :: y :: r, pre, h1, h2, hx => by
    obtain ⟨n1, n2, n3⟩ := hx x (by simp)
    have ih := glue_cut (y :: r) [9] (by intro c hc; rw [List.mem_singleton.1 hc]; decide) (by decide) (fun z hz => hx z (by simp only [List.mem_cons] at hz ⊢; exact .inr hz))
    have e : pre ++ glueL (x :: y :: r) = (pre ++ x ++ [32]) ++ 44 :: ([9] ++ glueL (y :: r)) := by simp [glueL]
    rw [e, split_at44 (by simp only [List.mem_append, List.mem_singleton]; rintro ((h | h) | h); exact h2 h; exact n3 h; exact absurd h (by decide))]
    have e2 : ∀ a b, tidyL (a :: b) = tidyL [a] ++ tidyL b := fun a b => tidyL_app [a] b
    rw [e2, ih, tidy_one (x := x) ?_ n1]
    · rfl
    · rw [trimL_pads pre x [32] h1 (by intro c hc; rw [List.mem_singleton.1 hc]; decide), n2]

theorem list_glue {xs : List (List UInt8)} (h : ∀ x ∈ xs, NeatL x) : listL [glueL xs] = xs := by
  have h1 := glue_cut xs [] (by simp) (by simp) h
  unfold listL cutsL
  simpa using h1

theorem splitGo_free (sep : UInt8) : ∀ (l cur : List UInt8), sep ∉ cur → ∀ p ∈ splitGo sep cur l, sep ∉ p
  | [], cur, h, p, hp => by
    rw [splitGo, List.mem_singleton] at hp
    rw [hp]; exact h
  | c :: r, cur, h, p, hp => by
    rw [splitGo] at hp
    split at hp
    · rcases List.mem_cons.1 hp with rfl | hp
      · exact h
      · exact splitGo_free sep r [] (by simp) p hp
    · rename_i hc
      refine splitGo_free sep r (cur ++ [c]) ?_ p hp
      rw [List.mem_append, List.mem_singleton]
      rintro (h1 | h1)
      · exact h h1
      · exact hc h1.symm

theorem trim_sub {l : List UInt8} {c : UInt8} (h : c ∈ trimL l) : c ∈ l := by
  unfold trimL trimF at h
  rw [List.mem_reverse] at h
  have h1 := (List.dropWhile_suffix isSp (l := (List.dropWhile isSp l).reverse)).subset h
  rw [List.mem_reverse] at h1
  exact (List.dropWhile_suffix isSp (l := l)).subset h1

theorem list_neat (vs : List (List UInt8)) : ∀ x ∈ listL vs, NeatL x := by
  intro x hx
  unfold listL tidyL at hx
  obtain ⟨hm, hne⟩ := List.mem_filter.1 hx
  obtain ⟨p, hp, rfl⟩ := List.mem_map.1 hm
  unfold cutsL at hp
  obtain ⟨v, _, hpv⟩ := List.mem_flatMap.1 hp
  refine ⟨fun e => ?_, trimL_idem p, fun h => ?_⟩
  · rw [e] at hne; exact absurd hne (by decide)
  · exact splitGo_free 44 v [] (by simp) p hpv (trim_sub h)

theorem splitGo_tot (sep : UInt8) : ∀ l cur : List UInt8, llTot (splitGo sep cur l) = cur.length + l.length + 1
  | [], cur => by simp [splitGo, llTot]; omega
  | c :: r, cur => by
    rw [splitGo]
    split
    · simp only [llTot, splitGo_tot sep r [], List.length_nil, List.length_cons]; omega
    · simp only [splitGo_tot sep r (cur ++ [c]), List.length_append, List.length_cons, List.length_nil]; omega

theorem cuts_tot : ∀ vs : List (List UInt8), llTot (cutsL vs) = llTot vs
  | [] => rfl
  | x :: r => by
    have h := cuts_tot r
    have h2 := splitGo_tot 44 x []
    unfold cutsL splitL at *
    rw [List.flatMap_cons, llTot_app, h2, h]
    simp [llTot]
    omega

theorem tidy_tot : ∀ ps : List (List UInt8), llTot (tidyL ps) ≤ llTot ps
  | [] => by simp [tidyL]
  | p :: r => by
    have h := tidy_tot r
    have h2 := trim_len p
    unfold tidyL at *
    rw [List.map_cons, List.filter_cons]
    split
    · simp only [llTot]; omega
    · simp only [llTot]; omega

theorem list_tot (vs : List (List UInt8)) : llTot (listL vs) ≤ llTot vs := by
  unfold listL
  have h1 := tidy_tot (cutsL vs)
  rw [cuts_tot] at h1
  exact h1

theorem tx_strs (zs : List ByteArray) : (tx zs).map strL = zs.map strV := by
  unfold tx
  rw [List.map_map]
  apply List.map_congr_left
  intro z _
  exact strL_data z

theorem tx_tot : ∀ zs : List ByteArray, llTot (tx zs) = lsTot zs
  | [] => rfl
  | z :: r => by
    have h := tx_tot r
    unfold tx at *
    simp only [List.map_cons, llTot, lsTot, h, size_data]

theorem happ (a b : ByteArray) : (a ++ b).data.toList = a.data.toList ++ b.data.toList := by simp

theorem own_lit0 (w : World) (e : TypeId) : (w.alloc (.cells #[] e)).ownsRow w.heap.size e 1 (.slice (some ⟨w.heap.size, 0, none⟩) 0 0) 0 [] :=
  ⟨rfl, .inr ⟨w.heap.size, 0, #[], rfl, Nat.le_refl _, heap_alloc_new w _, Nat.le_refl _, Nat.zero_le _, rfl, rfl⟩⟩

/-- The first and the last byte of a neat text. -/
theorem neat_ends {X : ByteArray} (h : NeatL X.data.toList) : ∃ (h0 : 0 < X.size) (l : Nat) (hl : l < X.size), X.size = l + 1 ∧ isSp X[0] = false ∧ isSp X[l] = false := by
  obtain ⟨h1, h2, _⟩ := h
  have h0 : 0 < X.size := by
    rcases Nat.eq_zero_or_pos X.size with e | e
    · exact absurd (List.eq_nil_of_length_eq_zero (by rw [size_data]; exact e)) h1
    · exact e
  refine ⟨h0, X.size - 1, by omega, by omega, ?_, ?_⟩
  · exact trimL_first (l := X.data.toList) (by rw [h2]; exact cons_of X h0)
  · exact trimL_last (l := X.data.toList) (by rw [h2]; exact snoc_of X h0)

end Go.Proofs.Ytfgpcajjnpmoeaa
