/- header in plain words: fields, media types, which need leave, in which order. -/
import Derived.Lib.SlicesCompact
import Derived.Sort.OwnSorted
import Derived.Test.YtfgpcajjnpmoeaaKit
import Derived.Test.YtfgpcajjnpmoeaaPlain
import Derived.Test.YtfgpcajjnpmoeaaStr
import Derived.Test.YtfgpcajjnpmoeaaAsc1
import Derived.Test.YtfgpcajjnpmoeaaAsc2
import Derived.Test.YtfgpcajjnpmoeaaAsc4
import Derived.Test.YtfgpcajjnpmoeaaRow
import Derived.Test.YtfgpcajjnpmoeaaDsk0
import Derived.Test.YtfgpcajjnpmoeaaUrl0
namespace Go.Proofs.Ytfgpcajjnpmoeaa
open Go.RowKit Go.Proofs

/-- A field: its name and its value. -/
structure FldM where
  hn : ByteArray
  hv : ByteArray

def fnm (f : FldM) : List UInt8 := f.hn.data.toList

def fvl (f : FldM) : List UInt8 := f.hv.data.toList

/-- A row of fields that came in, or of the call's own. -/
def FldsAt (W : World) (v : Value) (ls : List FldM) : Prop :=
  ∃ a c, v = .slice a ls.length c ∧ (ls = [] ∨ ∃ b o, a = some ⟨b, o, none⟩ ∧ ∀ (j : Nat) (f : FldM), ls[j]? = some f → W.cell? ⟨b, o + j * 2, none⟩ = some (.string f.hn) ∧ W.cell? ⟨b, o + j * 2 + 1, none⟩ = some (.string f.hv))

theorem flds_below {w w' : World} {v : Value} {ls : List FldM} (h : FldsAt w v ls) (hb : Below w.heap.size w w') : FldsAt w' v ls := by
  obtain ⟨a, c, rfl, h⟩ := h
  refine ⟨a, c, rfl, ?_⟩
  rcases h with h | ⟨b, o, ha, hc⟩
  · exact .inl h
  · refine .inr ⟨b, o, ha, fun j f hj => ?_⟩
    obtain ⟨h1, h2⟩ := hc j f hj
    exact ⟨(hb.cell (block_of_cell h1)).trans h1, (hb.cell (block_of_cell h2)).trans h2⟩

theorem flds_len {w : World} {v : Value} {ls : List FldM} (h : FldsAt w v ls) : ∃ a c, v = .slice a ls.length c := by
  obtain ⟨a, c, rfl, _⟩ := h
  exact ⟨a, c, rfl⟩

theorem flds_at {w : World} {v : Value} {ls : List FldM} (h : FldsAt w v ls) {k : Nat} {f : FldM} (hk : ls[k]? = some f) :
    ∃ b o c, v = .slice (some ⟨b, o, none⟩) ls.length c ∧ w.cell? ⟨b, o + k * 2, none⟩ = some (.string f.hn) ∧ w.cell? ⟨b, o + k * 2 + 1, none⟩ = some (.string f.hv) := by
  obtain ⟨a, c, rfl, h⟩ := h
  rcases h with h | ⟨b, o, rfl, hc⟩
  · rw [h] at hk; simp at hk
  · exact ⟨b, o, c, rfl, hc k f hk⟩

/-- Few and short. -/
def FldOk (ls : List FldM) : Prop := ls.length ≤ 281474976710656 ∧ ∀ f ∈ ls, f.hn.size ≤ 281474976710656 ∧ f.hv.size ≤ 281474976710656

def fldTot : List FldM → Nat
  | [] => 0
  | f :: r => 1 + f.hn.size + f.hv.size + fldTot r

theorem fldTot_len : ∀ ls : List FldM, ls.length ≤ fldTot ls
  | [] => Nat.zero_le _
  | f :: r => by have := fldTot_len r; simp only [fldTot, List.length_cons]; omega

theorem fldTot_mem : ∀ {ls : List FldM} {f : FldM}, f ∈ ls → f.hn.size + f.hv.size ≤ fldTot ls
  | g :: r, f, h => by
    simp only [fldTot]
    rcases List.mem_cons.1 h with rfl | h
    · omega
    · have := fldTot_mem h; omega

/-! bytes -/
def ctlB (c : UInt8) : Bool := decide ((c.toNat < 32 ∧ c.toNat ≠ 9) ∨ c.toNat = 127)

def rskL : List UInt8 := [34, 40, 41, 58, 60, 62, 63, 64, 91, 92, 93, 123, 125]

def rskB (c : UInt8) : Bool := ctlB c || hasB rskL c

def lngL : List UInt8 := [32, 42, 44, 45, 46, 59, 61]

def lngB (c : UInt8) : Bool := isLet c.toNat || isDig c.toNat || hasB lngL c

/-! media types -/
def essH (s : List UInt8) : List UInt8 := lowL (trimL (upL [59] s))

def halfB (e : List UInt8) : Bool := tokL (upL [47] e) && tokL ((fromL [47] e).drop 1)

def essB (s : List UInt8) : Bool := halfB (essH s)

def essL (s : List UInt8) : List UInt8 := if essB s = true then essH s else []

theorem tok_slash {l : List UInt8} (h : (47 : UInt8) ∈ l) : tokL l = false := by
  unfold tokL
  rw [Bool.and_eq_false_iff]
  right
  rw [Bool.eq_false_iff]
  intro hh
  exact absurd (List.all_eq_true.1 hh 47 h) (by decide)

theorem split_up (sep : UInt8) (l : List UInt8) : (fromL [sep] l = [] ∧ splitL l sep = [l]) ∨ (∃ r, fromL [sep] l = sep :: r ∧ splitL l sep = upL [sep] l :: splitL r sep) := by
  have hu := up_from [sep] l
  have hfree : sep ∉ upL [sep] l := fun hm => by
    have := up_free [sep] l sep hm
    rw [has_one] at this
    simp at this
  rcases from_head [sep] l with h | ⟨c, r, h, hc⟩
  · left
    refine ⟨h, ?_⟩
    rw [h, List.append_nil] at hu
    rw [hu] at hfree
    unfold splitL
    rw [splitGo_none sep l [] hfree, List.nil_append]
  · right
    rw [has_one, beq_iff_eq] at hc
    subst hc
    refine ⟨r, h, ?_⟩
    conv => lhs; rw [← hu, h]
    unfold splitL
    rw [splitGo_pre c _ [] r hfree, List.nil_append]

theorem splitGo_pos (sep : UInt8) : ∀ l cur : List UInt8, 0 < (splitGo sep cur l).length
  | [], cur => by simp [splitGo]
  | c :: r, cur => by
    rw [splitGo]
    split
    · simp
    · exact splitGo_pos sep r _

theorem splitL_pos (l : List UInt8) (sep : UInt8) : 0 < (splitL l sep).length := splitGo_pos sep l []

theorem half_ways (e : List UInt8) : ((splitL e 47).length ≠ 2 ∧ halfB e = false) ∨ (∃ a b, splitL e 47 = [a, b] ∧ halfB e = (tokL a && tokL b)) := by
  unfold halfB
  rcases split_up 47 e with ⟨h1, h2⟩ | ⟨r, h1, h2⟩
  · left
    rw [h1, h2]
    refine ⟨by simp, ?_⟩
    rw [Bool.and_eq_false_iff]
    exact .inr rfl
  · rw [h1, h2, List.drop_succ_cons, List.drop_zero]
    rcases split_up 47 r with ⟨h3, h4⟩ | ⟨q, h3, h4⟩
    · right
      exact ⟨_, r, by rw [h4], rfl⟩
    · left
      rw [h4]
      have := splitL_pos q 47
      refine ⟨by rw [List.length_cons, List.length_cons]; omega, ?_⟩
      rw [Bool.and_eq_false_iff]
      right
      refine tok_slash ?_
      exact from_mem (by rw [h3]; simp)

theorem splitGo_mem_len (sep : UInt8) : ∀ (l cur : List UInt8) {a : List UInt8}, a ∈ splitGo sep cur l → a.length ≤ cur.length + l.length
  | [], cur, a, h => by
    rw [splitGo, List.mem_singleton] at h
    rw [h]
    exact Nat.le_add_right _ _
  | c :: r, cur, a, h => by
    rw [splitGo] at h
    split at h
    · rcases List.mem_cons.1 h with rfl | h
      · exact Nat.le_add_right _ _
      · have := splitGo_mem_len sep r [] h
        simp only [List.length_nil, List.length_cons] at *
        omega
    · have := splitGo_mem_len sep r _ h
      simp only [List.length_append, List.length_cons, List.length_nil] at *
      omega

theorem split_mem_len {l a : List UInt8} {sep : UInt8} (h : a ∈ splitL l sep) : a.length ≤ l.length := by
  have := splitGo_mem_len sep l [] h
  simpa using this

theorem essH_len (s : List UInt8) : (essH s).length ≤ s.length := by
  unfold essH
  rw [lowL_length]
  have h1 := up_len [59] s
  have h2 : (trimL (upL [59] s)).length ≤ (upL [59] s).length := by
    unfold trimL trimF
    rw [List.length_reverse]
    have a1 := (List.dropWhile_suffix isSp (l := (List.dropWhile isSp (upL [59] s)).reverse)).length_le
    have a2 := (List.dropWhile_suffix isSp (l := upL [59] s)).length_le
    rw [List.length_reverse] at a1
    omega
  omega

/-! which need leave -/
def form1 : ByteArray := ⟨#[97, 112, 112, 108, 105, 99, 97, 116, 105, 111, 110, 47, 120, 45, 119, 119, 119, 45, 102, 111, 114, 109, 45, 117, 114, 108, 101, 110, 99, 111, 100, 101, 100]⟩

def form2 : ByteArray := ⟨#[109, 117, 108, 116, 105, 112, 97, 114, 116, 47, 102, 111, 114, 109, 45, 100, 97, 116, 97]⟩

def form3 : ByteArray := ⟨#[116, 101, 120, 116, 47, 112, 108, 97, 105, 110]⟩

def formB (v : List UInt8) : Bool := hasS [form1, form2, form3] ⟨(essL v).toArray⟩

def accL : List UInt8 := [97, 99, 99, 101, 112, 116]

def alaL : List UInt8 := [97, 99, 99, 101, 112, 116, 45, 108, 97, 110, 103, 117, 97, 103, 101]

def claL : List UInt8 := [99, 111, 110, 116, 101, 110, 116, 45, 108, 97, 110, 103, 117, 97, 103, 101]

def ctyL : List UInt8 := [99, 111, 110, 116, 101, 110, 116, 45, 116, 121, 112, 101]

def simB (n v : List UInt8) : Bool :=
  decide (v.length ≤ 128) && (if lowL n = accL then !(v.any rskB) else if lowL n = alaL ∨ lowL n = claL then v.all lngB else if lowL n = ctyL then !(v.any rskB) && formB v else false)

def simF (f : FldM) : Bool := simB (fnm f) (fvl f)

def badL (ls : List FldM) : List (List UInt8) := (ls.filter (fun f => !simF f)).map (fun f => lowL (fnm f))

def goodL (ls : List FldM) : List (List UInt8) := (ls.filter simF).map (fun f => lowL (fnm f))

def sumL (ls : List FldM) : Nat := ((ls.filter simF).map (fun f => f.hv.size)).sum

def leaveL (ls : List FldM) : List (List UInt8) := badL ls ++ if 1024 < sumL ls then goodL ls else []

theorem simB_long {n v : List UInt8} (h : ¬ v.length ≤ 128) : simB n v = false := by unfold simB; rw [decide_eq_false h]; rfl

theorem all_any (l : List UInt8) (p : UInt8 → Bool) : l.all p = !(l.any (fun c => !p c)) := by
  rw [Bool.eq_iff_iff]
  simp

def valB (n v : List UInt8) : Bool := tokL n && (!(v.any ctlB) && decide (trimL v = v))

/-! ascending, each once -/
def AscL (l : List (List UInt8)) : Prop := l.Pairwise (fun a b => bytesBefore a b = true)

theorem asc_eq : ∀ {a b : List (List UInt8)}, AscL a → AscL b → (∀ x, x ∈ a ↔ x ∈ b) → a = b
  | [], [], _, _, _ => rfl
  | [], y :: b, _, _, h => absurd ((h y).2 (by simp)) (by simp)
  | x :: a, [], _, _, h => absurd ((h x).1 (by simp)) (by simp)
  | x :: a, y :: b, ha, hb, h => by
    obtain ⟨ha1, ha2⟩ := List.pairwise_cons.1 ha
    obtain ⟨hb1, hb2⟩ := List.pairwise_cons.1 hb
    have hxy : x = y := by
      rcases List.mem_cons.1 ((h x).1 (by simp)) with e | e
      · exact e
      · rcases List.mem_cons.1 ((h y).2 (by simp)) with e2 | e2
        · exact e2.symm
        · have h1 := hb1 x e
          have h2 := ha1 y e2
          have h3 := bef_trans h1 h2
          rw [bef_irr] at h3
          cases h3
    subst hxy
    have key : ∀ {c d : List (List UInt8)}, (∀ z ∈ c, bytesBefore x z = true) → (∀ z, z ∈ x :: c → z ∈ x :: d) → ∀ z, z ∈ c → z ∈ d := fun {c d} hc h z hz => by
      rcases List.mem_cons.1 (h z (by simp [hz])) with e | e
      · have := hc z hz
        rw [e, bef_irr] at this
        cases this
      · exact e
    congr 1
    exact asc_eq ha2 hb2 (fun z => ⟨key ha1 (fun z hz => (h z).1 hz) z, key hb1 (fun z hz => (h z).2 hz) z⟩)

theorem bef_lt : ∀ {a b : List UInt8}, a < b → bytesBefore a b = true
  | [], [], h => by simp at h
  | [], _ :: _, _ => rfl
  | _ :: _, [], h => by simp at h
  | x :: r, y :: s, h => by
    rw [List.cons_lt_cons_iff] at h
    simp only [bytesBefore, Bool.or_eq_true, decide_eq_true_eq, Bool.and_eq_true, beq_iff_eq]
    rcases h with h | ⟨h1, h2⟩
    · exact .inl h
    · exact .inr ⟨h1, bef_lt h2⟩

theorem bef_le {a b : List UInt8} (h : a ≤ b) : a = b ∨ bytesBefore a b = true := by
  by_cases e : a = b
  · exact .inl e
  · right
    rcases Classical.em (a < b) with h1 | h1
    · exact bef_lt h1
    · have h2 : b ≤ a := Std.not_lt.1 h1
      exact absurd (Std.le_antisymm h h2) e

theorem compact_asc (d : Array (List UInt8)) (hs : ∀ i j, i ≤ j → j < d.size → d[i]! ≤ d[j]!) : ∀ m, m ≤ d.size →
    AscL (Lib.compactUpTo d m) ∧ (∀ x, x ∈ Lib.compactUpTo d m ↔ ∃ j, j < m ∧ x = d[j]!)
  | 0, _ => ⟨List.Pairwise.nil, fun x => ⟨fun h => by simp [Lib.compactUpTo] at h, fun ⟨j, h, _⟩ => by omega⟩⟩
  | m + 1, hm => by
    obtain ⟨h1, h2⟩ := compact_asc d hs m (by omega)
    rw [Lib.compactUpTo_succ]
    cases hk : Lib.keeps d m with
    | true =>
      rw [if_pos rfl]
      refine ⟨List.pairwise_append.2 ⟨h1, List.pairwise_singleton _ _, fun a ha b hb => ?_⟩, fun x => ?_⟩
      · rw [List.mem_singleton.1 hb]
        obtain ⟨j, hj, rfl⟩ := (h2 a).1 ha
        have hne : d[m]! ≠ d[m - 1]! := by
          unfold Lib.keeps at hk
          rcases of_decide_eq_true hk with h | h
          · omega
          · exact h
        have l1 := hs j (m - 1) (by omega) (by omega)
        have l2 := hs (m - 1) m (by omega) (by omega)
        rcases bef_le l2 with e | e
        · exact absurd e.symm hne
        · rcases bef_le l1 with e1 | e1
          · rw [e1]; exact e
          · exact bef_trans e1 e
      · rw [List.mem_append, List.mem_singleton, h2]
        constructor
        · rintro (⟨j, hj, rfl⟩ | rfl)
          · exact ⟨j, by omega, rfl⟩
          · exact ⟨m, by omega, rfl⟩
        · rintro ⟨j, hj, rfl⟩
          rcases (by omega : j < m ∨ j = m) with h | rfl
          · exact .inl ⟨j, h, rfl⟩
          · exact .inr rfl
    | false =>
      rw [if_neg (by decide), List.append_nil]
      refine ⟨h1, fun x => ?_⟩
      rw [h2]
      constructor
      · rintro ⟨j, hj, rfl⟩
        exact ⟨j, by omega, rfl⟩
      · rintro ⟨j, hj, rfl⟩
        rcases (by omega : j < m ∨ j = m) with h | rfl
        · exact ⟨j, h, rfl⟩
        · unfold Lib.keeps at hk
          have hk2 := of_decide_eq_false hk
          have h0 : j ≠ 0 := fun e => hk2 (.inl e)
          refine ⟨j - 1, by omega, ?_⟩
          rcases Classical.em (d[j]! = d[j - 1]!) with e | e
          · exact e
          · exact absurd (.inr e) hk2

def srt (l : List (List UInt8)) : List (List UInt8) := Lib.compact (l.mergeSort fun x y => decide (x ≤ y))

theorem srt_asc (l : List (List UInt8)) : AscL (srt l) ∧ ∀ x, x ∈ srt l ↔ x ∈ l := by
  obtain ⟨S, hS⟩ : ∃ S, S = l.mergeSort (fun x y => decide (x ≤ y)) := ⟨_, rfl⟩
  have hp : S.Pairwise (fun a b => a ≤ b) := by
    have := List.pairwise_mergeSort (le := fun x y : List UInt8 => decide (x ≤ y)) (fun a b c h1 h2 => by simp only [decide_eq_true_eq] at *; exact Std.le_trans h1 h2) (fun a b => by simp only [Bool.or_eq_true, decide_eq_true_eq]; exact Std.le_total) l
    rw [← hS] at this
    exact this.imp (fun {a b} h => of_decide_eq_true h)
  have hm : ∀ x, x ∈ S ↔ x ∈ l := fun x => by rw [hS]; exact List.mem_mergeSort
  unfold srt
  rw [← hS]
  unfold Lib.compact
  have hsz : S.toArray.size = S.length := by simp
  have hget : ∀ i, i < S.length → S.toArray[i]! = S.getD i [] := fun i hi => by simp [List.getD, hi]
  obtain ⟨h1, h2⟩ := compact_asc S.toArray (fun i j hij hj => by
    rw [hsz] at hj
    rw [hget i (by omega), hget j hj]
    rcases (by omega : i = j ∨ i < j) with rfl | h
    · exact Std.le_refl _
    · have := List.pairwise_iff_getElem.1 hp i j (by omega) hj h
      simpa [List.getD, List.getElem?_eq_getElem (show i < S.length by omega), List.getElem?_eq_getElem hj] using this) S.length (by rw [hsz]; exact Nat.le_refl _)
  refine ⟨h1, fun x => ?_⟩
  rw [h2, ← hm]
  constructor
  · rintro ⟨j, hj, rfl⟩
    rw [hget j hj, List.getD_eq_getElem?_getD, List.getElem?_eq_getElem hj]
    exact List.getElem_mem hj
  · intro hx
    obtain ⟨j, hj, rfl⟩ := List.mem_iff_getElem.1 hx
    exact ⟨j, hj, by rw [hget j hj, List.getD_eq_getElem?_getD, List.getElem?_eq_getElem hj]; rfl⟩

/-- Put into its place. -/
def insL (R : List (List UInt8)) (k : Nat) (x : List UInt8) : List (List UInt8) := R.take k ++ x :: R.drop k

theorem ins_asc {R : List (List UInt8)} {k : Nat} {x : List UInt8} (h : AscL R) (h1 : ∀ y ∈ R.take k, bytesBefore y x = true) (h2 : ∀ y ∈ R.drop k, bytesBefore x y = true) : AscL (insL R k x) := by
  unfold AscL insL at *
  rw [← List.take_append_drop k R] at h
  obtain ⟨a1, a2, a3⟩ := List.pairwise_append.1 h
  refine List.pairwise_append.2 ⟨a1, List.pairwise_cons.2 ⟨h2, a2⟩, fun a ha b hb => ?_⟩
  rcases List.mem_cons.1 hb with rfl | hb
  · exact h1 a ha
  · exact a3 a ha b hb

theorem ins_mem (R : List (List UInt8)) (k : Nat) (x y : List UInt8) : y ∈ insL R k x ↔ y ∈ R ∨ y = x := by
  unfold insL
  rw [List.mem_append, List.mem_cons]
  conv => rhs; rw [← List.take_append_drop k R, List.mem_append]
  constructor
  · rintro (h | h | h)
    · exact .inl (.inl h)
    · exact .inr h
    · exact .inl (.inr h)
  · rintro ((h | h) | h)
    · exact .inl h
    · exact .inr (.inr h)
    · exact .inr (.inl h)

/-! values and lists of them -/
def sameIn (n : List UInt8) (zs : List (List UInt8)) : Bool := zs.any (fun z => sameB n z)

theorem sameB_comm (a b : List UInt8) : sameB a b = sameB b a := by unfold sameB; congr 1; exact propext ⟨Eq.symm, Eq.symm⟩

def valsL (ls : List FldM) (zs : List (List UInt8)) : List (List UInt8) := (ls.filter (fun f => sameIn (fnm f) zs)).map fvl

def cutsL (vs : List (List UInt8)) : List (List UInt8) := vs.flatMap (fun v => splitL v 44)

def tidyL (ps : List (List UInt8)) : List (List UInt8) := (ps.map trimL).filter (fun x => !x.isEmpty)

def listL (vs : List (List UInt8)) : List (List UInt8) := tidyL (cutsL vs)

theorem cutsL_app (a b : List (List UInt8)) : cutsL (a ++ b) = cutsL a ++ cutsL b := by unfold cutsL; rw [List.flatMap_append]

theorem tidyL_app (a b : List (List UInt8)) : tidyL (a ++ b) = tidyL a ++ tidyL b := by unfold tidyL; rw [List.map_append, List.filter_append]

theorem listL_app (a b : List (List UInt8)) : listL (a ++ b) = listL a ++ listL b := by unfold listL; rw [cutsL_app, tidyL_app]

end Go.Proofs.Ytfgpcajjnpmoeaa
