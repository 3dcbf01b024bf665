/- Percent-encoding in plain words: which bytes a set encodes, what is written, what is read; what is written is read as what it was made of. -/
import Derived.Shelf.Strings.Builder1
import Derived.Test.YtnecjofgjbfheaaGreatDoorShelf
import Derived.Lib.Strings
import Derived.Test.YtnecjofgjbfheaaGreatDoorProg
import Derived.Test.YtnecjofgjbfheaaGreatDoorKit
import Derived.Test.YtnecjofgjbfheaaGreatDoorPlain
import Derived.Test.YtnecjofgjbfheaaGreatDoorAsc1
import Derived.Test.YtnecjofgjbfheaaGreatDoorRow
namespace Go.Proofs.YtnecjofgjbfheaaGreatDoor
open Go.RowKit
open Go.RowKit Go.Proofs
set_option maxRecDepth 100000

def fragL : List UInt8 := [34, 60, 62, 96]

def queryL : List UInt8 := [34, 35, 39, 60, 62]

def pathL : List UInt8 := [34, 35, 60, 62, 63, 94, 96, 123, 125]

def userL : List UInt8 := [34, 35, 60, 62, 63, 94, 96, 123, 125, 47, 58, 59, 61, 64, 91, 92, 93, 124]

/-- Is the byte below 33, above 126 or among those? -/
def outB (l : List UInt8) (c : UInt8) : Bool := if (c.toNat : Int) < 33 then true else if 126 < (c.toNat : Int) then true else hasB l c

theorem outB_low {l : List UInt8} {c : UInt8} (h : (c.toNat : Int) < 33) : outB l c = true := by unfold outB; rw [if_pos h]

theorem outB_high {l : List UInt8} {c : UInt8} (h : ¬ (c.toNat : Int) < 33) (h2 : 126 < (c.toNat : Int)) : outB l c = true := by unfold outB; rw [if_neg h, if_pos h2]

theorem outB_mid {l : List UInt8} {c : UInt8} (h : ¬ (c.toNat : Int) < 33) (h2 : ¬ 126 < (c.toNat : Int)) : outB l c = hasB l c := by unfold outB; rw [if_neg h, if_neg h2]

/-- Does the set encode the byte? -/
def inB (k : Int) (c : UInt8) : Bool := if k = 1 then outB fragL c else if k = 2 then outB queryL c else if k = 3 then outB pathL c else if k = 4 then outB userL c else false

def pdigL : List UInt8 := [48, 49, 50, 51, 52, 53, 54, 55, 56, 57, 65, 66, 67, 68, 69, 70]

def hexB (n : Nat) : UInt8 := pdigL.getD n 0

/-- What a byte is written as. -/
def encB (k : Int) (c : UInt8) : List UInt8 := if inB k c then [37, hexB (c.toNat / 16), hexB (c.toNat % 16)] else [c]

theorem encB_yes {k : Int} {c : UInt8} (h : inB k c = true) : encB k c = [37, hexB (c.toNat / 16), hexB (c.toNat % 16)] := by unfold encB; rw [if_pos h]

theorem encB_no {k : Int} {c : UInt8} (h : inB k c = false) : encB k c = [c] := by unfold encB; rw [if_neg (by rw [h]; decide)]

def encL (k : Int) (l : List UInt8) : List UInt8 := l.flatMap (encB k)

theorem encL_nil (k : Int) : encL k [] = [] := rfl

theorem encL_cons (k : Int) (c : UInt8) (l : List UInt8) : encL k (c :: l) = encB k c ++ encL k l := rfl

theorem encL_append (k : Int) (a b : List UInt8) : encL k (a ++ b) = encL k a ++ encL k b := List.flatMap_append

theorem encB_len (k : Int) (c : UInt8) : (encB k c).length ≤ 3 := by
  unfold encB
  split <;> simp

theorem encL_len (k : Int) : ∀ l : List UInt8, (encL k l).length ≤ 3 * l.length
  | [] => by simp [encL_nil]
  | c :: l => by
    rw [encL_cons, List.length_append, List.length_cons]
    have := encB_len k c
    have := encL_len k l
    omega

theorem encL_snoc (k : Int) (s : ByteArray) (i : Nat) (h : i < s.size) : encL k (s.data.toList.take (i + 1)) = encL k (s.data.toList.take i) ++ encB k s[i] := by
  rw [take_snoc s i h, encL_append, encL_cons, encL_nil, List.append_nil]

/-! what a hexadecimal digit stands for -/
def hexI (n : Int) : Int := if 48 ≤ n ∧ n ≤ 57 then n - 48 else if 65 ≤ n ∧ n ≤ 70 then n - 55 else if 97 ≤ n ∧ n ≤ 102 then n - 87 else -1

theorem hexI_bd (n : Int) : -1 ≤ hexI n ∧ hexI n ≤ 15 := by unfold hexI; split <;> (try split) <;> (try split) <;> omega

/-- Do the bytes begin with one that is written as three? -/
def escB (l : List UInt8) : Bool := decide (((l.getD 0 0).toNat : Int) = 37) && decide (0 ≤ hexI (l.getD 1 0).toNat) && decide (0 ≤ hexI (l.getD 2 0).toNat)

def valB (l : List UInt8) : UInt8 := UInt8.ofNat (16 * hexI (l.getD 1 0).toNat + hexI (l.getD 2 0).toNat).toNat

theorem escB_iff (l : List UInt8) : escB l = true ↔ ((l.getD 0 0).toNat : Int) = 37 ∧ 0 ≤ hexI (l.getD 1 0).toNat ∧ 0 ≤ hexI (l.getD 2 0).toNat := by
  unfold escB
  simp only [Bool.and_eq_true, decide_eq_true_eq]
  exact ⟨fun ⟨⟨a, b⟩, c⟩ => ⟨a, b, c⟩, fun ⟨a, b, c⟩ => ⟨⟨a, b⟩, c⟩⟩

theorem escB_len {l : List UInt8} (h : escB l = true) : 3 ≤ l.length := by
  obtain ⟨_, _, h2⟩ := (escB_iff l).1 h
  rcases Nat.lt_or_ge l.length 3 with hl | hl
  · rw [List.getD_eq_getElem?_getD, List.getElem?_eq_none (by omega)] at h2
    exact absurd h2 (by decide)
  · exact hl

theorem valB_toNat (l : List UInt8) (h : escB l = true) : ((valB l).toNat : Int) = 16 * hexI (l.getD 1 0).toNat + hexI (l.getD 2 0).toNat := by
  obtain ⟨_, h1, h2⟩ := (escB_iff l).1 h
  have b1 := hexI_bd (l.getD 1 0).toNat
  have b2 := hexI_bd (l.getD 2 0).toNat
  unfold valB
  rw [UInt8.toNat_ofNat', Nat.mod_eq_of_lt (by omega)]
  omega

def decF : Nat → List UInt8 → List UInt8
  | 0, _ => []
  | n + 1, l => if l = [] then [] else if escB l then valB l :: decF n (l.drop 3) else l.getD 0 0 :: decF n (l.drop 1)

def decL (l : List UInt8) : List UInt8 := decF l.length l

theorem decF_fuel : ∀ (n m : Nat) (l : List UInt8), l.length ≤ n → l.length ≤ m → decF n l = decF m l
  | 0, m, l, hn, _ => by
    have : l = [] := List.eq_nil_of_length_eq_zero (by omega)
    subst this
    cases m <;> simp [decF]
  | n + 1, 0, l, _, hm => by
    have : l = [] := List.eq_nil_of_length_eq_zero (by omega)
    subst this
    simp [decF]
  | n + 1, m + 1, l, hn, hm => by
    unfold decF
    by_cases h0 : l = []
    · rw [if_pos h0, if_pos h0]
    · rw [if_neg h0, if_neg h0, decF_fuel n m (l.drop 3) (by rw [List.length_drop]; omega) (by rw [List.length_drop]; omega), decF_fuel n m (l.drop 1) (by rw [List.length_drop]; omega) (by rw [List.length_drop]; omega)]

theorem decL_nil : decL [] = [] := rfl

theorem decL_esc {l : List UInt8} (h : escB l = true) : decL l = valB l :: decL (l.drop 3) := by
  have hl := escB_len h
  obtain ⟨n, hn⟩ : ∃ n, l.length = n + 1 := ⟨l.length - 1, by omega⟩
  unfold decL
  rw [hn]
  show (if l = [] then [] else if escB l then _ else _) = _
  rw [if_neg (by intro e; rw [e] at hn; simp at hn), if_pos h, decF_fuel n (l.drop 3).length _ (by rw [List.length_drop]; omega) (Nat.le_refl _)]

theorem decL_raw {l : List UInt8} (h0 : l ≠ []) (h : escB l = false) : decL l = l.getD 0 0 :: decL (l.drop 1) := by
  have hl : 0 < l.length := List.length_pos_iff.2 h0
  obtain ⟨n, hn⟩ : ∃ n, l.length = n + 1 := ⟨l.length - 1, by omega⟩
  unfold decL
  rw [hn]
  show (if l = [] then [] else if escB l then _ else _) = _
  rw [if_neg h0, if_neg (by rw [h]; decide), decF_fuel n (l.drop 1).length _ (by rw [List.length_drop]; omega) (Nat.le_refl _)]

theorem decL_len : ∀ (n : Nat) (l : List UInt8), l.length ≤ n → (decL l).length ≤ l.length
  | 0, l, h => by
    have : l = [] := List.eq_nil_of_length_eq_zero (by omega)
    subst this
    exact Nat.le_refl _
  | n + 1, l, h => by
    by_cases h0 : l = []
    · subst h0
      exact Nat.le_refl _
    · have hp : 0 < l.length := List.length_pos_iff.2 h0
      cases he : escB l
      · rw [decL_raw h0 he, List.length_cons]
        have := decL_len n (l.drop 1) (by rw [List.length_drop]; omega)
        rw [List.length_drop] at this
        omega
      · rw [decL_esc he, List.length_cons]
        have h3 := escB_len he
        have := decL_len n (l.drop 3) (by rw [List.length_drop]; omega)
        rw [List.length_drop] at this
        omega

/-! what is written is read as what it was made of -/
def safeL : List UInt8 := 37 :: pdigL

theorem inB_safe (k : Int) {c : UInt8} (h : c ∈ safeL) : inB k c = false := by
  have h1 : ∀ c ∈ safeL, outB fragL c = false := by decide
  have h2 : ∀ c ∈ safeL, outB queryL c = false := by decide
  have h3 : ∀ c ∈ safeL, outB pathL c = false := by decide
  have h4 : ∀ c ∈ safeL, outB userL c = false := by decide
  unfold inB
  rw [h1 c h, h2 c h, h3 c h, h4 c h]
  simp

theorem hexB_safe : ∀ n < 16, hexB n ∈ safeL := by decide

theorem hexB_val : ∀ n < 16, hexI (hexB n).toNat = n := by decide

theorem encL_safe (k : Int) : ∀ l : List UInt8, (∀ c ∈ l, inB k c = false) → encL k l = l
  | [], _ => rfl
  | c :: l, h => by
    rw [encL_cons, encB_no (h c (by simp)), encL_safe k l (fun d hd => h d (by simp [hd]))]
    rfl

theorem encL_out (k : Int) : ∀ l : List UInt8, ∀ c ∈ encL k l, inB k c = false
  | [], c, h => by simp [encL_nil] at h
  | d :: l, c, h => by
    rw [encL_cons] at h
    rcases List.mem_append.1 h with h | h
    · have hd := d.toNat_lt
      cases hi : inB k d
      · rw [encB_no hi] at h
        simp at h
        rw [h]
        exact hi
      · rw [encB_yes hi] at h
        simp at h
        rcases h with rfl | rfl | rfl
        · exact inB_safe k (by decide)
        · exact inB_safe k (hexB_safe _ (by omega))
        · exact inB_safe k (hexB_safe _ (by omega))
    · exact encL_out k l c h

theorem enc_enc (k : Int) (l : List UInt8) : encL k (encL k l) = encL k l := encL_safe k _ (encL_out k l)

theorem hexI_in {c : UInt8} (h : 0 ≤ hexI c.toNat) (k : Int) : inB k c = false := by
  have h1 : ∀ n : Fin 256, 0 ≤ hexI (UInt8.ofNat n.val).toNat → outB fragL (UInt8.ofNat n.val) = false ∧ outB queryL (UInt8.ofNat n.val) = false ∧ outB pathL (UInt8.ofNat n.val) = false ∧ outB userL (UInt8.ofNat n.val) = false := by decide +kernel
  have h2 := h1 ⟨c.toNat, c.toNat_lt⟩
  simp only [UInt8.ofNat_toNat] at h2
  obtain ⟨a, b, d, e⟩ := h2 h
  unfold inB
  rw [a, b, d, e]
  simp

/-- The first byte of what is written: the byte itself, or the sign of an encoded one. -/
theorem enc_first (k : Int) (c : UInt8) (l : List UInt8) : (encL k (c :: l)).getD 0 0 = if inB k c then 37 else c := by
  rw [encL_cons]
  cases hi : inB k c
  · rw [encB_no hi]
    simp
  · rw [encB_yes hi]
    simp

theorem hexI_37 : ¬ 0 ≤ hexI ((37 : UInt8).toNat : Int) := by decide

/-- A sign that stands ahead of what is written is as it was ahead of what that was made of. -/
theorem enc_esc (k : Int) (l : List UInt8) (h : escB (37 :: l) = false) : escB (37 :: encL k l) = false := by
  rw [Bool.eq_false_iff] at h ⊢
  intro hc
  apply h
  obtain ⟨_, h1, h2⟩ := (escB_iff _).1 hc
  simp only [List.getD_cons_succ] at h1 h2
  match l with
  | [] => simp [encL_nil] at h1; exact absurd h1 (by decide)
  | a :: r =>
    rw [enc_first] at h1
    cases hi : inB k a
    · rw [hi, if_neg (by decide)] at h1
      rw [encL_cons, encB_no hi] at h2
      simp only [List.singleton_append, List.getD_cons_succ] at h2
      match r with
      | [] => simp [encL_nil] at h2; exact absurd h2 (by decide)
      | b :: r' =>
        rw [enc_first] at h2
        cases hj : inB k b
        · rw [hj, if_neg (by decide)] at h2
          exact (escB_iff _).2 ⟨by simp, by simpa using h1, by simpa using h2⟩
        · rw [hj, if_pos rfl] at h2
          exact absurd h2 hexI_37
    · rw [hi, if_pos rfl] at h1
      exact absurd h1 hexI_37

theorem escB_first {l : List UInt8} (h : escB l = true) : ∃ a b r, l = 37 :: a :: b :: r ∧ 0 ≤ hexI a.toNat ∧ 0 ≤ hexI b.toNat := by
  have hl := escB_len h
  obtain ⟨h0, h1, h2⟩ := (escB_iff l).1 h
  match l, hl with
  | c :: a :: b :: r, _ =>
    simp at h0 h1 h2
    have : c = 37 := UInt8.toNat_inj.1 (by show c.toNat = 37; omega)
    subst this
    exact ⟨a, b, r, rfl, h1, h2⟩

theorem dec_enc (k : Int) : ∀ (n : Nat) (l : List UInt8), l.length ≤ n → decL (encL k l) = decL l
  | 0, l, h => by
    have : l = [] := List.eq_nil_of_length_eq_zero (by omega)
    subst this
    rfl
  | n + 1, [], _ => rfl
  | n + 1, c :: l, h => by
    rw [List.length_cons] at h
    cases he : escB (c :: l)
    · rw [decL_raw (by simp) he]
      cases hi : inB k c
      · rw [encL_cons, encB_no hi, List.singleton_append]
        have he2 : escB (c :: encL k l) = false := by
          by_cases hc : c = 37
          · subst hc
            exact enc_esc k l he
          · rw [Bool.eq_false_iff]
            intro h3
            obtain ⟨h3, _, _⟩ := (escB_iff _).1 h3
            simp at h3
            exact hc (UInt8.toNat_inj.1 (by show c.toNat = 37; omega))
        rw [decL_raw (by simp) he2]
        simp only [List.getD_cons_zero, List.drop_succ_cons, List.drop_zero]
        rw [dec_enc k n l (by omega)]
      · have hc := c.toNat_lt
        rw [encL_cons, encB_yes hi]
        simp only [List.cons_append, List.nil_append]
        have he2 : escB (37 :: hexB (c.toNat / 16) :: hexB (c.toNat % 16) :: encL k l) = true := (escB_iff _).2 ⟨by simp, by
          simp only [List.getD_cons_succ, List.getD_cons_zero]
          rw [hexB_val _ (by omega)]
          omega, by
          simp only [List.getD_cons_succ, List.getD_cons_zero]
          rw [hexB_val _ (by omega)]
          omega⟩
        rw [decL_esc he2]
        have hv : valB (37 :: hexB (c.toNat / 16) :: hexB (c.toNat % 16) :: encL k l) = c := by
          unfold valB
          simp only [List.getD_cons_succ, List.getD_cons_zero]
          rw [hexB_val _ (by omega), hexB_val _ (by omega)]
          apply UInt8.toNat_inj.1
          rw [UInt8.toNat_ofNat', Nat.mod_eq_of_lt (by omega)]
          omega
        rw [hv]
        simp only [List.getD_cons_zero, List.drop_succ_cons, List.drop_zero]
        rw [dec_enc k n l (by omega)]
    · obtain ⟨a, b, r, e, h1, h2⟩ := escB_first he
      injection e with e1 e2
      subst e1 e2
      rw [decL_esc he, encL_cons, encB_no (inB_safe k (by decide)), encL_cons, encB_no (hexI_in h1 k), encL_cons, encB_no (hexI_in h2 k)]
      simp only [List.singleton_append]
      have he2 : escB (37 :: a :: b :: encL k r) = true := (escB_iff _).2 ⟨by simp, by simpa using h1, by simpa using h2⟩
      rw [decL_esc he2]
      simp only [List.drop_succ_cons, List.drop_zero]
      simp only [List.length_cons] at h
      rw [dec_enc k n r (by omega)]
      rfl

theorem bsize : (Tryz.prog.info? 101).map (·.size) = some 2 := by kernel_rfl

theorem blies : liesAt Tryz.prog Tryz.prog.depth 101 (2 / Tryz.prog.cellsOf 101) 0 101 1 = true := by kernel_rfl

theorem bbyte : (Tryz.prog.info? 5).map (fun i => (i.zero, i.size, i.bytes)) = some (some (.int .u8 0), 1, 1) := by kernel_rfl

theorem bused (b : Nat) (w : World) (h0 : w.cell? ⟨b, 0, none⟩ = some (.pointer (some ⟨b, 0, none⟩))) :
    Calls Tryz.prog 134 #[.pointer (some ⟨b, 0, none⟩)] w fun e w' => e = .returned (.tuple #[]) ∧ w' = w := by
  obtain ⟨j, hj, _⟩ := Option.map_eq_some_iff.1 bsize
  go_enter Tryz.func134, Tryz.ntmps134
  go_wp2
  rw [Lib.run_neq_ptr_same w _ Tryz.underlying99 hj]
  go_wp2
  go_end0
  exact ⟨rfl, rfl⟩

theorem bfresh (b : Nat) (w : World) (h0 : w.cell? ⟨b, 0, none⟩ = some (.pointer none)) (hsh : w.shape? b = some (101, 2)) (hfz : w.frozen? ⟨b, 0, none⟩ = false) :
    Calls Tryz.prog 134 #[.pointer (some ⟨b, 0, none⟩)] w fun e w' => e = .returned (.tuple #[]) ∧ w' = w.setCell ⟨b, 0, none⟩ (.pointer (some ⟨b, 0, none⟩)) := by
  obtain ⟨j, hj, hjs⟩ := Option.map_eq_some_iff.1 bsize
  go_enter Tryz.func134, Tryz.ntmps134
  go_wp2
  rw [Lib.run_to_unsafe w ⟨b, 0, none⟩ Tryz.underlying99 Tryz.underlying128 hj (by rw [hjs]; decide) hsh (Nat.zero_lt_succ 1)]
  simp only [Result.andThen]
  rw [Oper.upon_value]
  go_wp2
  rw [run_callFunc_extern Tryz.func142 (by kernel_rfl) (by kernel_rfl) (by kernel_rfl) (e := Extern.AbiNoEscape.same) (by kernel_rfl)]
  rw [Lib.run_noEscape]
  simp only [Result.andThen]
  rw [Oper.upon_value]
  go_wp2
  rw [Lib.run_from_unsafe w ⟨b, 0, none⟩ Tryz.underlying128 Tryz.underlying99 hj hsh blies]
  simp only [Result.andThen]
  rw [Oper.upon_value]
  go_wp2
  go_end0
  exact ⟨rfl, rfl⟩

theorem bcheck (B b : Nat) (bs : List Value) (w : World) (h : Lib.IsBuilder 101 5 B b bs w) :
    Calls Tryz.prog 134 #[.pointer (some ⟨b, 0, none⟩)] w fun e w' => e = .returned (.tuple #[]) ∧ (Lib.BuilderAt 101 5 B b (.pointer (some ⟨b, 0, none⟩)) bs w' ∧ Below B w w') := by
  rcases h with h | h
  · refine (bfresh b w h.cell0 h.shape h.frozen0).mono ?_
    rintro e w' ⟨rfl, rfl⟩
    exact ⟨rfl, h.used _, (Below.refl B w).setCell (p := ⟨b, 0, none⟩) h.1 _⟩
  · refine (bused b w h.cell0).mono ?_
    rintro e w' ⟨rfl, rfl⟩
    exact ⟨rfl, h, Below.refl B _⟩

/-- One byte more. -/
theorem bwrite (B b : Nat) (bs : List Value) (c : Int) (w : World) (h : Lib.IsBuilder 101 5 B b bs w) (hlen : bs.length + 1 ≤ 140737488355328) (hBw : B ≤ w.heap.size) :
    Calls Tryz.prog 118 #[.pointer (some ⟨b, 0, none⟩), .int .u8 c] w fun e w' => e = .returned .nilIface ∧ (Lib.BuilderAt 101 5 B b (.pointer (some ⟨b, 0, none⟩)) (bs ++ [.int .u8 c]) w' ∧ Below B w w') := by
  obtain ⟨i0, hi, hz0, hz1, hz2⟩ := info_parts bbyte
  go_enter Tryz.func118, Tryz.ntmps118
  go_wp2_with (go_at_call 134; refine (bcheck B b bs _ h).mono ?_)
  rintro e w1 ⟨rfl, h1, hb1⟩
  obtain ⟨hB, v, hbk, hown, hne⟩ := h1
  have c0 : w1.cell? ⟨b, 0, none⟩ = some (.pointer (some ⟨b, 0, none⟩)) := by rw [Lib.cell_of_heap hbk]; rfl
  have c1 : w1.cell? ⟨b, 1, none⟩ = some v := by rw [Lib.cell_of_heap hbk]; rfl
  go_wp2_with (at_builtin; refine wpList_append_own _ rfl _ _ 76 rfl B 5 i0 (.int .u8 0) 1 1 Tryz.underlying76 hi hz0 hz1 hz2 rfl (by decide) _ _ _ rfl (hown.alloc _) ⟨w1.heap.size, 0, none⟩ 1 1 [.int .u8 c] rfl rfl ?c1 ?c2 ?c3 ?c4 ?c5 ?_)
  case c1 =>
    intro j u hj
    match j, hj with
    | 0, hj => simp at hj; subst hj; simp [Addr.add]
  case c2 => intro u hu; simp at hu; subst hu; rfl
  case c3 => unfold maxLen; omega
  case c4 => omega
  case c5 => have := hb1.size; simp; omega
  intro v' w2 hown' hgrow _
  have hlt : b < w1.heap.size := by
    rcases Nat.lt_or_ge b w1.heap.size with h' | h'
    · exact h'
    · simp [Array.getElem?_eq_none h'] at hbk
  have hb2 : w2.heap[b]? = some (.cells #[.pointer (some ⟨b, 0, none⟩), v] 101 (0, 0)) := by
    rw [hgrow.block b (by simp; omega) (fun e => hne e.symm), Lib.alloc_old w1 _ b hlt]
    exact hbk
  have d0 : w2.cell? ⟨b, 0, none⟩ = some (.pointer (some ⟨b, 0, none⟩)) := by rw [Lib.cell_of_heap hb2]; rfl
  have d1 : w2.cell? ⟨b, 1, none⟩ = some v := by rw [Lib.cell_of_heap hb2]; rfl
  have f1 : w2.frozen? ⟨b, 1, none⟩ = false := Lib.frozen_of_heap hb2 1
  obtain ⟨g, cap, rfl⟩ : ∃ g cap, v' = .slice (some ⟨g, 0, none⟩) (bs.length + 1) cap := by
    rcases hown'.2 with ⟨_, h0⟩ | ⟨g, cap, cur, hv, _⟩
    · omega
    · exact ⟨g, cap, hv⟩
  go_wp2
  go_ret
  refine ⟨rfl, ?_, ?_⟩
  · exact Lib.BuilderAt.put (T := 101) (e := 5) hB hb2 (bs' := bs ++ [.int .u8 c]) (by simpa using hown') (by decide)
  · exact ((hb1.alloc (by have := hb1.size; omega) _).grown hgrow (by have := hb1.size; simp; omega) (fun k hk => (hown.lt k hk).1)).setCell (p := ⟨b, 1, none⟩) hB _

theorem index_has (l : List UInt8) (c : UInt8) : decide ((0 : Int) ≤ Lib.indexByte l c) = hasB l c := by
  induction l with
  | nil => rfl
  | cons b r ih =>
    have hg := Lib.indexByte_ge r c
    unfold Lib.indexByte
    by_cases hb : b = c
    · subst hb
      simp [hasB]
    · have hb2 : (b == c) = false := beq_eq_false_iff_ne.2 hb
      have hb3 : (c == b) = false := beq_eq_false_iff_ne.2 (Ne.symm hb)
      have hs : hasB (b :: r) c = hasB r c := by unfold hasB; rw [List.contains_cons, hb3, Bool.false_or]
      rw [hs, hb2, ← ih]
      by_cases h1 : Lib.indexByte r c = -1
      · rw [h1]
        simp
      · have : (Lib.indexByte r c == -1) = false := beq_eq_false_iff_ne.2 h1
        rw [this]
        simp only [if_false, Bool.false_eq_true]
        rw [decide_eq_true (by omega), decide_eq_true (by omega)]

/-- The reference's In behind its switch: with that text. -/
theorem ref_in_any (c : UInt8) (k : Int) (w : World) :
    Calls Tryz.prog 107 #[.int .u8 c.toNat, .int .i64 k] w fun e w' => e = .returned (.bool (inB k c)) ∧ w' = w := by
  by_cases hk : k = 1 ∨ k = 2 ∨ k = 3 ∨ k = 4
  · by_cases l1 : (c.toNat : Int) < 33
    · have hr : inB k c = true := by unfold inB; rcases hk with rfl | rfl | rfl | rfl <;> simp [outB_low l1]
      rw [hr]
      rcases hk with rfl | rfl | rfl | rfl
      all_goals
        go_enter Tryz.func107, Tryz.ntmps107
        go_wp2
        go_ret
        exact ⟨rfl, rfl⟩
    · by_cases l2 : 126 < (c.toNat : Int)
      · have hr : inB k c = true := by unfold inB; rcases hk with rfl | rfl | rfl | rfl <;> simp [outB_high l1 l2]
        rw [hr]
        rcases hk with rfl | rfl | rfl | rfl
        all_goals
          go_enter Tryz.func107, Tryz.ntmps107
          go_wp2
          go_ret
          exact ⟨rfl, rfl⟩
      · rcases hk with rfl | rfl | rfl | rfl
        · have hr : inB 1 c = hasB fragL c := outB_mid l1 l2
          have hc := ref_has_any ⟨fragL.toArray⟩ c (by decide) w
          rw [hr]
          go_enter Tryz.func107, Tryz.ntmps107
          go_wp2_with fail
          refine hc.mono ?_
          rintro e w1 ⟨rfl, rfl⟩
          go_wp2
          go_ret
          exact ⟨rfl, rfl⟩
        · have hr : inB 2 c = hasB queryL c := outB_mid l1 l2
          have hc := ref_has_any ⟨queryL.toArray⟩ c (by decide) w
          rw [hr]
          go_enter Tryz.func107, Tryz.ntmps107
          go_wp2_with fail
          refine hc.mono ?_
          rintro e w1 ⟨rfl, rfl⟩
          go_wp2
          go_ret
          exact ⟨rfl, rfl⟩
        · have hr : inB 3 c = hasB pathL c := outB_mid l1 l2
          have hc := ref_has_any ⟨pathL.toArray⟩ c (by decide) w
          rw [hr]
          go_enter Tryz.func107, Tryz.ntmps107
          go_wp2_with fail
          refine hc.mono ?_
          rintro e w1 ⟨rfl, rfl⟩
          go_wp2
          go_ret
          exact ⟨rfl, rfl⟩
        · have hr : inB 4 c = hasB userL c := outB_mid l1 l2
          have hc := ref_has_any ⟨userL.toArray⟩ c (by decide) w
          rw [hr]
          go_enter Tryz.func107, Tryz.ntmps107
          go_wp2_with fail
          refine hc.mono ?_
          rintro e w1 ⟨rfl, rfl⟩
          go_wp2
          go_ret
          exact ⟨rfl, rfl⟩
  · obtain ⟨h1, h2, h3, h4⟩ : k ≠ 1 ∧ k ≠ 2 ∧ k ≠ 3 ∧ k ≠ 4 := ⟨fun h => hk (.inl h), fun h => hk (.inr (.inl h)), fun h => hk (.inr (.inr (.inl h))), fun h => hk (.inr (.inr (.inr h)))⟩
    have H1 : (k == 1) = false := beq_eq_false_iff_ne.2 h1
    have H2 : (k == 2) = false := beq_eq_false_iff_ne.2 h2
    have H3 : (k == 3) = false := beq_eq_false_iff_ne.2 h3
    have H4 : (k == 4) = false := beq_eq_false_iff_ne.2 h4
    go_enter Tryz.func107, Tryz.ntmps107
    go_wp2
    go_ret
    exact ⟨ret_bool (by unfold inB; rw [if_neg h1, if_neg h2, if_neg h3, if_neg h4]), rfl⟩

end Go.Proofs.YtnecjofgjbfheaaGreatDoor
