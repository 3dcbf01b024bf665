/- What follows, in plain words: a text made of pieces is read as them; what was read and is written is read as it was. -/
import Derived.Lib.Join
import Derived.Lib.ItoaLen
import Derived.Test.YtdgmcpdphifmbaaGreatDoorShelf
import Derived.Deep.MidRow
import Derived.Lib.LaidU8T
import Derived.PinnedBridge
import Derived.Stop.LaidErr
import Derived.Deep.DeepHandedRow
import Derived.Test.YtdgmcpdphifmbaaGreatDoorRows
import Derived.Test.YtdgmcpdphifmbaaGreatDoorKit
import Derived.Test.YtdgmcpdphifmbaaGreatDoorAsc1
import Derived.Test.YtdgmcpdphifmbaaGreatDoorRow
import Derived.Test.YtdgmcpdphifmbaaGreatDoorPct0
import Derived.Test.YtdgmcpdphifmbaaGreatDoorHst0
import Derived.Test.YtdgmcpdphifmbaaGreatDoorUrl0
import Derived.Test.YtdgmcpdphifmbaaGreatDoorUrl4
import Derived.Test.YtdgmcpdphifmbaaGreatDoorUrl6
import Derived.Test.YtdgmcpdphifmbaaGreatDoorUrl9
namespace Go.Proofs.YtdgmcpdphifmbaaGreatDoor
open Go.RowKit Go.Proofs
set_option maxRecDepth 100000

/-- Plain bytes: nothing to clean. -/
def plainB (c : UInt8) : Bool := decide (33 ≤ c.toNat ∧ c.toNat ≤ 126)

def plainL (l : List UInt8) : Prop := ∀ c ∈ l, plainB c = true

theorem plain_bd {c : UInt8} (h : plainB c = true) : 33 ≤ c.toNat ∧ c.toNat ≤ 126 := of_decide_eq_true h

theorem drop_none {p : UInt8 → Bool} : ∀ {l : List UInt8}, (∀ c ∈ l, p c = false) → l.dropWhile p = l
  | [], _ => rfl
  | c :: l, h => by rw [List.dropWhile_cons, if_neg (by rw [h c (by simp)]; decide)]

theorem clean_plain {l : List UInt8} (h : plainL l) : cleanL l = l := by
  have h1 : ∀ c ∈ l, lowC c = false := fun c hc => decide_eq_false (by have := plain_bd (h c hc); omega)
  have h2 : trimC l = l := by
    unfold trimC
    rw [drop_none h1, drop_none (fun c hc => h1 c (List.mem_reverse.1 hc)), List.reverse_reverse]
  unfold cleanL
  rw [h2, List.filter_eq_self]
  intro c hc
  have hb := plain_bd (h c hc)
  unfold brkC
  have e1 : (c == 9) = false := by rw [beq_eq_false_iff_ne]; rintro rfl; exact absurd hb (by decide)
  have e2 : (c == 10) = false := by rw [beq_eq_false_iff_ne]; rintro rfl; exact absurd hb (by decide)
  have e3 : (c == 13) = false := by rw [beq_eq_false_iff_ne]; rintro rfl; exact absurd hb (by decide)
  rw [e1, e2, e3]
  rfl

theorem valid_plain {l : List UInt8} (h : plainL l) : Lib.validD l = true := by
  rw [Lib.validD_ascii l.length l (fun c hc => by have := plain_bd (h c (List.mem_of_mem_take hc)); omega), List.drop_length]
  rfl

theorem url_plain {l : List UInt8} (h : plainL l) (hl : l.length ≤ 65536) : urlP l = bodyP l := by
  unfold urlP
  rw [if_pos ⟨hl, valid_plain h⟩, clean_plain h]

/-- None of those. -/
def freeL (of l : List UInt8) : Prop := ∀ c ∈ l, hasB of c = false

theorem up_stop {of p r : List UInt8} (hp : freeL of p) (hr : r = [] ∨ ∃ c t, r = c :: t ∧ hasB of c = true) : upL of (p ++ r) = p ∧ fromL of (p ++ r) = r := by
  rw [up_pre hp, from_pre hp]
  rcases hr with rfl | ⟨c, t, rfl, hc⟩
  · exact ⟨by simp [up_nil], rfl⟩
  · rw [up_hit hc, from_hit hc]
    exact ⟨by simp, rfl⟩

theorem forb_free {h : List UInt8} (hh : h.any forbB ≠ true) : freeL forbL h ∧ plainL h := by
  have key : ∀ c ∈ h, forbB c = false := by
    intro c hc
    rw [Bool.eq_false_iff]
    intro hf
    exact hh (List.any_eq_true.2 ⟨c, hc, hf⟩)
  refine ⟨fun c hc => ?_, fun c hc => ?_⟩
  · have := key c hc
    unfold forbB at this
    rw [Bool.or_eq_false_iff] at this
    exact this.2
  · have := key c hc
    unfold forbB at this
    rw [Bool.or_eq_false_iff, Bool.or_eq_false_iff, decide_eq_false_iff_not, decide_eq_false_iff_not] at this
    exact decide_eq_true (by omega)

/-- The segments with a slash ahead of each. -/
def slashL (l : List (List UInt8)) : List UInt8 := l.flatMap (fun p => 47 :: p)

theorem join_slash : ∀ (l : List (List UInt8)), l ≠ [] → 47 :: Lib.join l [47] = slashL l
  | [], h => absurd rfl h
  | x :: r, _ => by
    rw [Lib.join_cons]
    unfold slashL Lib.joinTail
    rw [List.flatMap_cons, List.cons_append]
    rw [List.flatMap_def]
    rfl

/-- A port that was read. -/
def goodPt (sch : List UInt8) (p : Int) : Prop := p = -1 ∨ (0 ≤ p ∧ p ≤ 65535 ∧ p ≠ (defP sch).1)

theorem port_good {sch d : List UInt8} {p : Int} (h : portP sch d = some p) : goodPt sch p := by
  unfold portP at h
  split at h
  · injection h with h
    exact .inl h.symm
  · split at h
    · rename_i hc
      injection h with h
      split at h
      · exact .inl h.symm
      · rename_i hn
        exact .inr ⟨by omega, by omega, by rw [← h]; exact hn⟩
    · exact absurd h (by simp)

theorem join_short : ∀ (l : List (List UInt8)), (∀ p ∈ l, p.length ≤ 3) → (joinD l).length ≤ 4 * l.length
  | [], _ => by simp [joinD]
  | [p], h => by have := h p (by simp); simp [joinD]; omega
  | p :: q :: r, h => by
    have h1 := h p (by simp)
    have h2 := join_short (q :: r) (fun x hx => h x (by simp at hx ⊢; exact .inr hx))
    rw [joinD, List.length_append, List.length_cons, List.length_cons]
    simp only [List.length_cons] at h2 ⊢
    omega

theorem host_len {s h : List UInt8} (he : hostP s = some h) : h.length ≤ s.length + 16 := by
  unfold hostP hostD at he
  split at he
  · exact absurd he (by simp)
  · split at he
    · obtain ⟨a, _, rfl⟩ := Option.map_eq_some_iff.1 he
      have := join_short (fourL a) (fun p hp => by obtain ⟨b, rfl⟩ := four_each hp; exact itoa_len b)
      have e : (fourL a).length = 4 := rfl
      unfold textL
      omega
    · injection he with he
      have := decL_len s.length s (Nat.le_refl _)
      rw [← he, low_length]
      omega

theorem last_len {l a b : List UInt8} (h : lastAtL l = some (a, b)) : a.length ≤ l.length ∧ b.length ≤ l.length := by
  unfold lastAtL at h
  split at h
  · injection h with h
    injection h with h1 h2
    subst h1 h2
    refine ⟨?_, ?_⟩
    · rw [List.length_reverse, List.length_drop]
      have := (List.dropWhile_sublist (l := l.reverse) (fun c => !(c == 64))).length_le
      rw [List.length_reverse] at this
      omega
    · rw [List.length_reverse]
      have := (List.takeWhile_sublist (l := l.reverse) (fun c => !(c == 64))).length_le
      rw [List.length_reverse] at this
      exact this
  · exact absurd h (by simp)

theorem uPortU_any (S U P H T Q F : ByteArray) (pt : Int) (hq hf : Bool) (w : World) :
    Calls Tryz.prog 74 #[.agg #[.string S, .string U, .string P, .string H, .int .i64 pt, .string T, .bool hq, .string Q, .bool hf, .string F]] w fun e w' => e = .returned (.int .i64 (if pt = -1 then (defP S.data.toList).1 else pt)) ∧ Below w.heap.size w w' := by
  have HD := Lib.hid (fun W => udef_any S W)
  obtain ⟨D, hD⟩ : ∃ D, D = (defP S.data.toList).1 := ⟨_, rfl⟩
  obtain ⟨B, hB⟩ : ∃ B, B = (defP S.data.toList).2 := ⟨_, rfl⟩
  rw [← hD, ← hB] at HD
  rw [← hD]
  have HB := Lib.hid (below_more (Below.refl _ w) (.cells #[.string S, .string U, .string P, .string H, .int .i64 pt, .string T, .bool hq, .string Q, .bool hf, .string F] 27))
  obtain ⟨R, hR⟩ : ∃ R, R = if pt = -1 then D else pt := ⟨_, rfl⟩
  rw [← hR]
  clear hD hB
  by_cases hp : pt = -1
  · have HR : Hid (R = D) := Lib.hid (by rw [hR, if_pos hp])
    have q1 : (pt != -1) = false := by simp [hp]
    clear hR hp
    go_enter Tryz.func74, Tryz.ntmps74
    go_wp2_with fail
    refine (HD.out _).mono ?_
    rintro e w1 ⟨rfl, rfl⟩
    go_wp2_with fail
    go_ret
    exact ⟨ret_int HR.out.symm, HB.out⟩
  · have HR : Hid (R = pt) := Lib.hid (by rw [hR, if_neg hp])
    have q1 : (pt != -1) = true := by simp [hp]
    clear hR hp
    go_enter Tryz.func74, Tryz.ntmps74
    go_wp2_with fail
    go_ret
    exact ⟨ret_int HR.out.symm, HB.out⟩

theorem u8extra11 : U8Extra Tryz.prog Tryz.lays196_ren := ⟨by kernel_rfl, by kernel_rfl, by kernel_rfl, by kernel_rfl, by kernel_rfl, by kernel_rfl, by kernel_rfl⟩

theorem accept_eq11 : (Rows.laid_unicode_utf8_acceptRanges : DataW Unit) = Lib.acceptData := by kernel_rfl

theorem Tryz.p10Type11 : (Tryz.prog.globals[3]?).map (·.type) = some 159 := by kernel_rfl

theorem Tryz.p10Cells11 : Tryz.prog.cellsOf 159 = 20 := by kernel_rfl

theorem Tryz.p10One11 : Tryz.prog.cellsOf 117 = 1 := by kernel_rfl

theorem Tryz.p10Named11 : Tryz.prog.globalNamed "internal/strconv.uint64pow10" = some 3 := by kernel_rfl

theorem env_of {W : World} (h : laidMetH Tryz.prog [("math/bits.deBruijn32tab", Rows.laid_math_bits_deBruijn32tab), ("math/bits.deBruijn64tab", Rows.laid_math_bits_deBruijn64tab), ("internal/strconv.uint64pow10", Rows.laid_internal_strconv_uint64pow10), ("unicode/utf8.acceptRanges", Rows.laid_unicode_utf8_acceptRanges), ("unicode/utf8.first", Rows.laid_unicode_utf8_first)] W) (hS : W.ShapedOpen Tryz.prog) : Env11 W := by
  have h2 : laidMet Tryz.prog [("math/bits.deBruijn32tab", Rows.laid_math_bits_deBruijn32tab), ("math/bits.deBruijn64tab", Rows.laid_math_bits_deBruijn64tab), ("internal/strconv.uint64pow10", Rows.laid_internal_strconv_uint64pow10), ("unicode/utf8.acceptRanges", Rows.laid_unicode_utf8_acceptRanges), ("unicode/utf8.first", Rows.laid_unicode_utf8_first)] W := h
  have r1 := Lib.laidMet.reads h2 (.tail _ (.tail _ (.tail _ (.head _))))
  have r2 := Lib.laidMet.reads h2 (.tail _ (.tail _ (.tail _ (.tail _ (.head _)))))
  rw [accept_eq11] at r1
  have e2 : (Rows.laid_unicode_utf8_first : DataW Unit) = Lib.firstData := Pinned.utf8First_eq
  rw [e2] at r2
  exact ⟨utf8Tabs_of_readsT (U8Types.of196 Tryz.lays196) u8extra11 r2 r1,
    Lib.tabIs_of_head (rest := [("unicode/utf8.acceptRanges", Rows.laid_unicode_utf8_acceptRanges), ("unicode/utf8.first", Rows.laid_unicode_utf8_first)]) Tryz.p10Named11 Tryz.p10Type11 Tryz.underlying159 Tryz.underlying117 Tryz.p10One11 Tryz.p10Cells11 (laidMet.tail (laidMet.tail h2)),
    Tryz.laysM219.s1_3 W hS⟩

/-- Parse's answer, field by field. -/
def parsedV (u : UrlM) (n : Int) : Value := .tuple #[.agg #[.string ⟨u.sch.toArray⟩, .string ⟨u.usr.toArray⟩, .string ⟨u.pas.toArray⟩, .string ⟨u.hos.toArray⟩, .int .i64 u.prt, .string ⟨u.pth.toArray⟩, .bool u.hq, .string ⟨u.qry.toArray⟩, .bool u.hf, .string ⟨u.frg.toArray⟩], .int .i64 n]

theorem parsed_eq (o : Option UrlM) : urlR o = parsedV (o.getD urlZ) (urlE o) := rfl

end Go.Proofs.YtdgmcpdphifmbaaGreatDoor
