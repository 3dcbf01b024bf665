/- The law's own digits, and addresses of many parts. -/
import Derived.Deep.RegionHeldLaw
import Derived.Test.YtmfchplplpiogaaDoorProg
import Derived.Test.YtmfchplplpiogaaDoorKit
import Derived.Test.YtmfchplplpiogaaDoorPlain
import Derived.Test.YtmfchplplpiogaaDoorRow
import Derived.Test.YtmfchplplpiogaaDoorCod7
import Derived.Test.YtmfchplplpiogaaDoorPct0
import Derived.Test.YtmfchplplpiogaaDoorHst0
import Derived.Test.YtmfchplplpiogaaDoorHst4
import Derived.Test.YtmfchplplpiogaaDoorHst5
import Derived.Test.YtmfchplplpiogaaDoorHst6
import Derived.Test.YtmfchplplpiogaaDoorHst7
import Derived.Test.YtmfchplplpiogaaDoorHsu0
import Derived.Test.YtmfchplplpiogaaDoorHsu1
namespace Go.Proofs.YtmfchplplpiogaaDoor
open Go.RowKit Go.Proofs

theorem digit_byte (n : Nat) : ((hlB (n % 10)).toNat : Int) = 48 + (n % 10 : Nat) := by
  have : ∀ d : Fin 10, ((hlB d.val).toNat : Int) = 48 + d.val := by decide +kernel
  exact this ⟨n % 10, by omega⟩

theorem digs_size (n : Nat) (h : n ≤ 8589934592) : (digs 10 n).length ≤ 12 := digs_len 10 (by decide) 11 n (Nat.lt_of_le_of_lt h (by decide))

theorem app_mk (x : UInt8) (t : ByteArray) : ((⟨#[x]⟩ : ByteArray) ++ t).data.toList = x :: t.data.toList := by rw [mk_app]; rfl

theorem lsz {t : ByteArray} {x : UInt8} {a b : Nat} (h : t.size + a ≤ 12) (hab : a = b + 1) : ((⟨#[x]⟩ : ByteArray) ++ t).size + b ≤ 12 := by
  rw [ByteArray.size_append]
  have : (⟨#[x]⟩ : ByteArray).size = 1 := rfl
  omega

theorem lsz_one {t : ByteArray} {x : UInt8} {a b : Nat} (h : t.size + a ≤ 12) (hab : a = b + 1) : ((⟨#[x]⟩ : ByteArray) ++ t).size ≤ 100 := by
  have := lsz (x := x) h hab
  omega

theorem ldigits_any (n : Nat) (hn : n ≤ 8589934592) (w : World) :
    Calls Tryd.prog 23 #[.int .i64 (n : Int)] w fun e w' => e = .returned (.string ⟨(digs 10 n).toArray⟩) ∧ Below w.heap.size w w' := by
  have HN := Lib.hid hn
  obtain ⟨nz, hnz⟩ : ∃ nz : Int, nz = (n : Int) := ⟨_, rfl⟩
  have hnz0 : 0 ≤ nz ∧ nz ≤ 8589934592 := by omega
  have HNZ := Lib.hid hnz
  rw [← hnz]
  clear hnz hn
  go_enter Tryd.func23, Tryd.ntmps23
  go_wp2
  go_loopw [0, 3] (fun m s wr => ∃ (k : Nat) (z : Int) (t : ByteArray), m = .int .i64 z ∧ 0 ≤ z ∧ z ≤ 8589934592 ∧ s = .string t ∧ t.size ≤ 100 ∧ Hid (z = (k : Int)) ∧ Hid (t.size + (digs 10 k).length ≤ 12) ∧ Hid (digs 10 n = (digs 10 k) ++ t.data.toList) ∧ Hid (Below w.heap.size w wr)) (fun m _ _ => (intOf m).toNat)
  case atStart => exact ⟨n, nz, ⟨#[]⟩, rfl, hnz0.1, hnz0.2, rfl, by decide, HNZ, Lib.hid (by have := digs_size n HN.out; show 0 + _ ≤ 12; omega), Lib.hid (by simp), Lib.hid (Below.refl _ _)⟩
  case round =>
    obtain ⟨k, z, t, rfl, hz0, hz1, rfl, ht, HZ, HS, HD, HB⟩ := hrel
    obtain ⟨w1, hw1⟩ : ∃ w1 : World, w1 = wr := ⟨_, rfl⟩
    subst hw1
    obtain ⟨x, hx⟩ : ∃ x, x = hlB (k % 10) := ⟨_, rfl⟩
    have hxv : 48 + z % 10 = (x.toNat : Int) := by rw [hx, digit_byte, HZ.out]; omega
    have hm : Int.tmod z 10 = z % 10 := Int.tmod_eq_emod_of_nonneg hz0
    have hd : Int.tdiv z 10 = z / 10 := Int.tdiv_eq_ediv_of_nonneg hz0
    have hx0 := byte_bd x
    have kc := conv_one x w1 (w1.alloc (.cells #[.int .u8 x.toNat] 5)) (Below.refl _ _)
    have HB4 := Lib.hid (below_more HB.out (.cells #[.int .u8 x.toNat] 5))
    obtain ⟨xz, hxz⟩ : ∃ xz : Int, xz = (x.toNat : Int) := ⟨_, rfl⟩
    rw [← hxz] at hxv hx0 kc HB4
    have hts : ¬ 9223372036854775807 < 1 + t.size := by omega
    have HST := Lib.hid (digs_step (b := 10) (n := k) (by decide))
    rw [← hx] at HST
    clear hx hxz
    by_cases hq : z / 10 = 0
    · have hqb : (z / 10 == 0) = true := beq_iff_eq.2 hq
      have HE : Hid ((⟨(digs 10 n).toArray⟩ : ByteArray) = (⟨#[x]⟩ : ByteArray) ++ t) := Lib.hid (by
        refine (mk_list _ ?_).symm
        rw [app_mk, HD.out, HST.out, if_pos (by have := HZ.out; omega)]
        rfl)
      go_wp2
      go_ret
      exact ⟨ret_str HE.out.symm, HB4.out⟩
    · have hqb : (z / 10 == 0) = false := beq_eq_false_iff_ne.2 hq
      have hkq : ¬ k / 10 = 0 := by have := HZ.out; omega
      have HST2 := HST.out
      rw [if_neg hkq] at HST2
      have HST3 := Lib.hid HST2
      clear HST2
      go_wp2
      go_roundw
      case rel => exact ⟨k / 10, z / 10, _, rfl, by omega, by omega, rfl, lsz_one (b := (digs 10 (k / 10)).length) HS.out (by rw [HST3.out, List.length_append]; rfl), Lib.hid (by have := HZ.out; omega), Lib.hid (lsz (b := (digs 10 (k / 10)).length) HS.out (by rw [HST3.out, List.length_append]; rfl)), Lib.hid (by rw [HD.out, HST3.out, app_mk]; simp), HB4⟩
      case measure => simp [intOf]; omega

/-! the parts as the law writes them -/
def decs (l : List Int) : List (List UInt8) := l.map (fun x => digs 10 x.toNat)

theorem joinD_snoc : ∀ (ps : List (List UInt8)) (p : List UInt8), ps ≠ [] → joinD (ps ++ [p]) = joinD ps ++ 46 :: p
  | [], p, h => absurd rfl h
  | [a], p, _ => rfl
  | a :: b :: r, p, _ => by
    have ih := joinD_snoc (b :: r) p (by simp)
    rw [List.cons_append, List.cons_append, joinD]
    rw [List.cons_append] at ih
    rw [ih, joinD]
    simp

theorem decs_snoc {l : List Int} {k : Nat} {x : Int} (h : l[k]? = some x) : decs (l.take (k + 1)) = decs (l.take k) ++ [digs 10 x.toNat] := by
  obtain ⟨hk, rfl⟩ := List.getElem?_eq_some_iff.1 h
  rw [List.take_succ_eq_append_getElem hk]
  unfold decs
  rw [List.map_append]
  rfl

theorem decs_at {l : List Int} {k : Nat} {x : Int} (h : l[k]? = some x) : (decs l)[k]? = some (digs 10 x.toNat) := by
  unfold decs
  rw [List.getElem?_map, h]
  rfl

theorem decs_ne {l : List Int} {p : List UInt8} (h : p ∈ decs l) : p ≠ [] ∧ allD 10 p = true := by
  obtain ⟨x, _, rfl⟩ := List.mem_map.1 h
  obtain ⟨_, h2, _, h4, _⟩ := digs_facts 10 (by omega) x.toNat
  exact ⟨h4, h2⟩

theorem decs_dot {l : List Int} {p : List UInt8} (h : p ∈ decs l) : (46 : UInt8) ∉ p := fun hc => (isD16_plain (b := 10) (by decide) (allD_mem (decs_ne h).2 hc)).2.1 rfl

/-- The text of the parts, a point behind or not. -/
def partsT (l : List Int) (dot : Bool) : List UInt8 := joinD (decs l) ++ (if dot then [46] else [])

theorem partsT_parts (l : List Int) (hl : l ≠ []) (dot : Bool) : partsL (partsT l dot) = decs l := by
  have h0 : decs l ≠ [] := by simpa [decs] using hl
  cases dot
  · simp only [partsT, Bool.false_eq_true, if_false, List.append_nil]
    refine parts_join _ h0 (fun p hp => decs_dot hp) (fun h => ?_)
    exact (decs_ne (List.mem_of_getLast? h)).1 rfl
  · simp only [partsT, if_true]
    exact parts_join_dot _ h0 (fun p hp => decs_dot hp)

theorem partsT_plain {l : List Int} {dot : Bool} {c : UInt8} (h : c ∈ partsT l dot) : forbB c = false ∧ lowB c = c ∧ c ≠ 37 := by
  have hdot : forbB 46 = false ∧ lowB 46 = 46 ∧ (46 : UInt8) ≠ 37 := by decide
  unfold partsT at h
  rcases List.mem_append.1 h with h | h
  · rcases join_mem _ _ h with rfl | ⟨p, hp, hc⟩
    · exact hdot
    · have hd := allD_mem (decs_ne hp).2 hc
      obtain ⟨h1, h2, _, h4⟩ := isD_plain hd
      exact ⟨h1, h2, h4⟩
  · split at h
    · simp at h
      rw [h]
      exact hdot
    · simp at h

theorem partsT_host (l : List Int) (hl : l ≠ []) (dot : Bool) : hostP (partsT l dot) = (numberP (partsT l dot)).map textL := by
  have hdec : decL (partsT l dot) = partsT l dot := dec_no _ (fun h => (partsT_plain h).2.2 rfl)
  have hlow : lowL (partsT l dot) = partsT l dot := by
    unfold lowL
    conv => rhs; rw [← List.map_id (partsT l dot)]
    exact List.map_congr_left (fun c hc => (partsT_plain hc).2.1)
  have hcl : (partsT l dot).any forbB = false := by
    rw [List.any_eq_false]
    intro c hc
    rw [(partsT_plain hc).1]
    decide
  have hne : partsT l dot ≠ [] := by
    intro h
    have := partsT_parts l hl dot
    rw [h] at this
    have h2 : decs l = [[]] := by rw [← this]; rfl
    exact (decs_ne (l := l) (p := []) (by rw [h2]; simp)).1 rfl
  have hnu : numericP ((partsL (partsT l dot)).getLastD []) = true := by
    rw [partsT_parts l hl dot]
    obtain ⟨m, p, hm, hp, hlast⟩ := last_parts (partsT l dot)
    rw [partsT_parts l hl dot] at hm hp hlast
    rw [hlast]
    obtain ⟨h1, h2⟩ := decs_ne (List.mem_of_getElem? hp)
    unfold numericP
    rw [h2, decide_eq_true h1]
    rfl
  rw [host_eq, hdec, hlow, hostD_num hne hcl hnu]

theorem decs_len (l : List Int) : (decs l).length = l.length := by unfold decs; rw [List.length_map]

theorem partsT_number (l : List Int) (hl : l ≠ []) (dot : Bool) : numberP (partsT l dot) = addrP (decs l) := by unfold numberP; rw [partsT_parts l hl dot]

theorem joinD_size : ∀ (ps : List (List UInt8)), (∀ p ∈ ps, p.length ≤ 12) → (joinD ps).length ≤ 13 * ps.length
  | [], _ => by simp [joinD]
  | [p], h => by have := h p (by simp); simp [joinD]; omega
  | p :: q :: r, h => by
    have h1 := h p (by simp)
    have ih := joinD_size (q :: r) (fun x hx => h x (List.mem_cons_of_mem _ hx))
    rw [joinD, List.length_append, List.length_cons, List.length_cons]
    omega

/-- What the law has found so far. -/
def OkI (ps : List (List UInt8)) (T : Option Nat) (m k : Nat) (ok : Bool) (v : Int) : Prop :=
  (ok = true ∧ m ≤ 4 ∧ ∃ N : Nat, v = (N : Int) ∧ NumI ps T m k N) ∨ (ok = false ∧ T = none)

end Go.Proofs.YtmfchplplpiogaaDoor
