/- Messages as bytes, in plain words: entries, snapshots, messages; what is written is read, what is read was written; a byte more, or fewer, is none: no dump. -/
import Derived.Test.YtiblaengkkpbiaaKit
import Derived.Test.YtiblaengkkpbiaaRow
import Derived.Test.YtiblaengkkpbiaaFrm0
import Derived.Test.YtiblaengkkpbiaaKp0
import Derived.Test.YtiblaengkkpbiaaMg0
namespace Go.Proofs.Ytiblaengkkpbiaa
open Go.RowKit Go.Proofs

def smallE (e : EntM) : Prop := smallI [e.ix, e.tm, e.kd] ∧ smallI e.ms

def smallS (s : SnpM) : Prop := smallI [s.ix, s.tm] ∧ smallI s.ms

def smallM (m : MsgM) : Prop := smallI [m.kd, m.fr, m.to, m.tm, m.ix, m.lt, m.cm] ∧ (∀ e ∈ m.es, smallE e) ∧ smallS m.sn

theorem intW_back3 {x : Int} {l : List Int} (h : natsB l = true) (hs : smallI l) (hx : x ∈ l) (r : List UInt8) (b : Bool) : numR 8 (intW x ++ r, b) = (x, r, b) := intW_back ((natsB_iff _).1 h x hx) (hs x hx) r b

theorem bytes_back (d : ByteArray) : (⟨d.data.toList.toArray⟩ : ByteArray) = d := by cases d; rfl

theorem entR1_back (e : EntM) (r : List UInt8) (b : Bool) (h : entB e = true) (hs : smallE e) : entR1 (entW e ++ r, b) = (e, r, b) := by
  unfold entB at h
  simp only [Bool.and_eq_true, decide_eq_true_eq] at h
  obtain ⟨⟨h1, h2⟩, h3⟩ := h
  have e0 : entW e ++ r = intW e.ix ++ (intW e.tm ++ (intW e.kd ++ (txtW e.d ++ (lstW e.ms ++ r)))) := by
    unfold entW
    simp only [intsW_cons, intsW_nil, List.append_nil, List.append_assoc]
  unfold entR1
  rw [e0, intW_back3 h1 hs.1 (by simp)]
  dsimp only
  rw [intW_back3 h1 hs.1 (by simp)]
  dsimp only
  rw [intW_back3 h1 hs.1 (by simp)]
  dsimp only
  rw [txtR_back _ _ _ (by omega)]
  dsimp only
  rw [lstR_back _ _ _ h3 hs.2, bytes_back]

theorem entR1_once {s : List UInt8 × Bool} {e : EntM} {r : List UInt8} (h : entR1 s = (e, r, false)) : s = (entW e ++ r, false) := by
  unfold entR1 at h
  simp only [Prod.mk.injEq] at h
  obtain ⟨h1, h2⟩ := h
  have e5 := lstR_once (l := (lstR (txtR (numR 8 (numR 8 (numR 8 s).2).2).2).2).1) (r := r) (by rw [← h2])
  have e4 := txtR_once (l := (txtR (numR 8 (numR 8 (numR 8 s).2).2).2).1) (by rw [← e5])
  have e3 := intW_once (x := (numR 8 (numR 8 (numR 8 s).2).2).1) (by rw [← e4])
  have e2 := intW_once (x := (numR 8 (numR 8 s).2).1) (by rw [← e3])
  have e1 := intW_once (x := (numR 8 s).1) (by rw [← e2])
  rw [e1, ← h1]
  unfold entW
  simp only [intsW_cons, intsW_nil, List.append_nil, List.append_assoc]

theorem entsW_cons (e : EntM) (l : List EntM) : entsW (e :: l) = entW e ++ entsW l := by unfold entsW; simp

theorem entsW_snoc (l : List EntM) (e : EntM) : entsW (l ++ [e]) = entsW l ++ entW e := by unfold entsW; simp

theorem entsR_back : ∀ (l : List EntM) (r : List UInt8) (b : Bool), l.all entB = true → (∀ e ∈ l, smallE e) → entsR l.length (entsW l ++ r, b) = (l, r, b)
  | [], r, b, _, _ => rfl
  | e :: l, r, b, h, hs => by
    simp only [List.all_cons, Bool.and_eq_true] at h
    rw [List.length_cons, entsR, entsW_cons, List.append_assoc, entR1_back e _ b h.1 (hs e (by simp)), entsR_back l r b h.2 (fun x hx => hs x (by simp [hx]))]

theorem entsR_once : ∀ {n : Nat} {s : List UInt8 × Bool} {l : List EntM} {r : List UInt8}, entsR n s = (l, r, false) → s = (entsW l ++ r, false) ∧ l.length = n
  | 0, s, l, r, h => by
    rw [entsR] at h
    simp only [Prod.mk.injEq] at h
    obtain ⟨rfl, rfl⟩ := h
    exact ⟨rfl, rfl⟩
  | n + 1, s, l, r, h => by
    rw [entsR] at h
    simp only [Prod.mk.injEq] at h
    obtain ⟨h1, h2⟩ := h
    obtain ⟨e1, e2⟩ := entsR_once (n := n) (s := (entR1 s).2) (l := (entsR n (entR1 s).2).1) (r := r) (by rw [← h2])
    have e3 := entR1_once (s := s) (e := (entR1 s).1) (r := entsW (entsR n (entR1 s).2).1 ++ r) (by rw [← e1])
    refine ⟨?_, by rw [← h1, List.length_cons, e2]⟩
    rw [← h1, entsW_cons, List.append_assoc]
    exact e3

theorem snpR_back (s : SnpM) (r : List UInt8) (b : Bool) (h : snpB s = true) (hs : smallS s) : snpR (snpW s ++ r, b) = (s, r, b) := by
  unfold snpB at h
  simp only [Bool.and_eq_true, decide_eq_true_eq] at h
  obtain ⟨⟨h1, h2⟩, h3⟩ := h
  have e0 : snpW s ++ r = intW s.ix ++ (intW s.tm ++ (lstW s.ms ++ (txtW s.d ++ r))) := by
    unfold snpW
    simp only [intsW_cons, intsW_nil, List.append_nil, List.append_assoc]
  unfold snpR
  rw [e0, intW_back3 h1 hs.1 (by simp)]
  dsimp only
  rw [intW_back3 h1 hs.1 (by simp)]
  dsimp only
  rw [lstR_back _ _ _ h3 hs.2]
  dsimp only
  rw [txtR_back _ _ _ (by omega), bytes_back]

theorem snpR_once {s : List UInt8 × Bool} {e : SnpM} {r : List UInt8} (h : snpR s = (e, r, false)) : s = (snpW e ++ r, false) := by
  unfold snpR at h
  simp only [Prod.mk.injEq] at h
  obtain ⟨h1, h2⟩ := h
  have e5 := txtR_once (l := (txtR (lstR (numR 8 (numR 8 s).2).2).2).1) (r := r) (by rw [← h2])
  have e4 := lstR_once (l := (lstR (numR 8 (numR 8 s).2).2).1) (by rw [← e5])
  have e2 := intW_once (x := (numR 8 (numR 8 s).2).1) (by rw [← e4])
  have e1 := intW_once (x := (numR 8 s).1) (by rw [← e2])
  rw [e1, ← h1]
  unfold snpW
  simp only [intsW_cons, intsW_nil, List.append_nil, List.append_assoc]

theorem okMB_parts {m : MsgM} (h : okMB m = true) : (1 ≤ m.kd ∧ m.kd ≤ 5) ∧ (1 ≤ m.fr ∧ m.fr ≤ 9) ∧ (1 ≤ m.to ∧ m.to ≤ 9) ∧ natsB [m.tm, m.ix, m.lt, m.cm] = true ∧ entsB m.es = true ∧ snpB m.sn = true ∧ emptyB (unlM m) = true := by
  unfold okMB ndB at h
  simp only [Bool.and_eq_true, decide_eq_true_eq] at h
  obtain ⟨⟨⟨⟨⟨⟨⟨h1, h2⟩, h3⟩, h4⟩, h5⟩, h6⟩, h7⟩, h8⟩ := h
  exact ⟨⟨h1, h2⟩, h3, h4, h5, h6, h7, h8⟩

theorem sn_zero {s : SnpM} (h1 : s.ix = 0) (h2 : s.tm = 0) (h3 : s.ms.length = 0) (h4 : s.d.size = 0) : s = zeroSn := by
  obtain ⟨a, b, c, d⟩ := s
  simp only at h1 h2 h3 h4
  subst h1 h2
  have hc : c = [] := List.eq_nil_of_length_eq_zero h3
  subst hc
  have hd : d.data.toList = [] := List.eq_nil_of_length_eq_zero (by rw [size_data]; exact h4)
  have hd2 := mk_list d hd
  rw [hd2]
  rfl

theorem emptyB_parts {m : MsgM} (h : emptyB m = true) : m.ix = 0 ∧ m.lt = 0 ∧ m.cm = 0 ∧ m.yes = false ∧ m.es = [] ∧ m.sn = zeroSn := by
  unfold emptyB at h
  simp only [Bool.and_eq_true, decide_eq_true_eq, beq_iff_eq, Bool.not_eq_true'] at h
  obtain ⟨⟨⟨⟨⟨⟨⟨⟨h1, h2⟩, h3⟩, h4⟩, h5⟩, h6⟩, h7⟩, h8⟩, h9⟩ := h
  exact ⟨h1, h2, h3, h4, List.eq_nil_of_length_eq_zero h5, sn_zero h6 h7 h8 h9⟩

theorem headR_back (m : MsgM) (r : List UInt8) (b : Bool) (h : okMB m = true) (hs : smallM m) : headR (layS 1 m.kd.toNat ++ intsW [m.fr, m.to, m.tm] ++ r, b) = (⟨m.kd, m.fr, m.to, m.tm, 0, 0, 0, false, [], zeroSn⟩, r, b) := by
  obtain ⟨h1, h2, h3, h4, _⟩ := okMB_parts h
  have e0 : layS 1 m.kd.toNat ++ intsW [m.fr, m.to, m.tm] ++ r = layS 1 m.kd.toNat ++ (intW m.fr ++ (intW m.to ++ (intW m.tm ++ r))) := by
    simp only [intsW_cons, intsW_nil, List.append_nil, List.append_assoc]
  unfold headR
  rw [e0, numR_back _ _ (by omega) (by omega)]
  dsimp only
  rw [intW_back (by omega) (by omega)]
  dsimp only
  rw [intW_back (by omega) (by omega)]
  dsimp only
  rw [intW_back3 h4 (fun n hn => by rcases List.mem_cons.1 hn with rfl | hn; exact hs.1 _ (by simp); rcases List.mem_cons.1 hn with rfl | hn; exact hs.1 _ (by simp); rcases List.mem_cons.1 hn with rfl | hn; exact hs.1 _ (by simp); rcases List.mem_cons.1 hn with rfl | hn; exact hs.1 _ (by simp); simp at hn) (by simp)]
  dsimp only
  rw [show ((m.kd.toNat : Nat) : Int) = m.kd by omega]

theorem msgR_back (m : MsgM) (r : List UInt8) (b : Bool) (h : okMB m = true) (hs : smallM m) : msgR (msgW m ++ r, b) = (m, r, b) := by
  obtain ⟨h1, h2, h3, h4, h5, h6, h7⟩ := okMB_parts h
  have hsI : smallI [m.tm, m.ix, m.lt, m.cm] := fun n hn => hs.1 n (by simp only [List.mem_cons, List.not_mem_nil, or_false] at hn; rcases hn with rfl | rfl | rfl | rfl <;> simp)
  unfold msgR msgW
  rw [List.append_assoc, headR_back m _ b h hs]
  dsimp only
  unfold bodyR bodyW
  dsimp only
  obtain ⟨kd, fr, to, tm, ix, lt, cm, yes, es, sn⟩ := m
  dsimp only at h1 h2 h3 h4 h5 h6 h7 hsI ⊢
  have hkd : kd = 1 ∨ kd = 2 ∨ kd = 3 ∨ kd = 4 ∨ kd = 5 := by omega
  rcases hkd with rfl | rfl | rfl | rfl | rfl
  · obtain ⟨g1, g2, g3, g4, g5, g6⟩ := emptyB_parts h7
    simp [unlM] at g1 g2 g3 g4 g5 g6
    subst g3 g4 g5 g6
    simp only [if_true, intsW_cons, intsW_nil, List.append_nil, List.append_assoc]
    rw [intW_back3 h4 hsI (by simp)]
    dsimp only
    rw [intW_back3 h4 hsI (by simp)]
  · obtain ⟨g1, g2, g3, g4, g5, g6⟩ := emptyB_parts h7
    simp [unlM] at g1 g2 g3 g4 g5 g6
    subst g1 g2 g3 g5 g6
    rw [if_neg (by decide), if_pos rfl, if_neg (by decide), if_pos rfl, yesR_back]
  · obtain ⟨g1, g2, g3, g4, g5, g6⟩ := emptyB_parts h7
    simp [unlM] at g1 g2 g3 g4 g5 g6
    subst g4 g6
    unfold entsB at h5
    simp only [Bool.and_eq_true, decide_eq_true_eq] at h5
    rw [if_neg (by decide), if_neg (by decide), if_pos rfl, if_neg (by decide), if_neg (by decide), if_pos rfl]
    simp only [intsW_cons, intsW_nil, List.append_nil, List.append_assoc]
    rw [intW_back3 h4 hsI (by simp)]
    dsimp only
    rw [intW_back3 h4 hsI (by simp)]
    dsimp only
    rw [intW_back3 h4 hsI (by simp)]
    dsimp only
    rw [numR_back _ _ (by omega) (by omega)]
    dsimp only
    rw [Int.toNat_natCast, entsR_back es r b h5.2 hs.2.1]
  · obtain ⟨g1, g2, g3, g4, g5, g6⟩ := emptyB_parts h7
    simp [unlM] at g1 g2 g3 g4 g5 g6
    subst g2 g3 g5 g6
    rw [if_neg (by decide), if_neg (by decide), if_neg (by decide), if_pos rfl, if_neg (by decide), if_neg (by decide), if_neg (by decide), if_pos rfl]
    simp only [intsW_cons, intsW_nil, List.append_nil, List.append_assoc]
    rw [yesR_back]
    dsimp only
    rw [intW_back3 h4 hsI (by simp)]
  · obtain ⟨g1, g2, g3, g4, g5, g6⟩ := emptyB_parts h7
    simp [unlM] at g1 g2 g3 g4 g5 g6
    subst g1 g2 g3 g4 g5
    rw [if_neg (by decide), if_neg (by decide), if_neg (by decide), if_neg (by decide), if_pos rfl, if_neg (by decide), if_neg (by decide), if_neg (by decide), if_neg (by decide), if_pos rfl, snpR_back sn r b h6 hs.2.2]

theorem msgR_once {s : List UInt8 × Bool} {m : MsgM} {r : List UInt8} (h : msgR s = (m, r, false)) (hk : 1 ≤ m.kd ∧ m.kd ≤ 5) : s = (msgW m ++ r, false) := by
  unfold msgR at h
  obtain ⟨q, hq⟩ : ∃ q, q = headR s := ⟨_, rfl⟩
  rw [← hq] at h
  have hhead : ∀ r', q.2 = (r', false) → s = (layS 1 q.1.kd.toNat ++ intsW [q.1.fr, q.1.to, q.1.tm] ++ r', false) := fun r' hr => by
    unfold headR at hq
    rw [hq] at hr ⊢
    dsimp only at hr ⊢
    have e3 := intW_once (x := (numR 8 (numR 8 (numR 8 (numR 1 s).2).2).2).1) (r := r') (by rw [← hr])
    have e2 := intW_once (x := (numR 8 (numR 8 (numR 1 s).2).2).1) (by rw [← e3])
    have e1 := intW_once (x := (numR 8 (numR 1 s).2).1) (by rw [← e2])
    obtain ⟨e0, _⟩ := numR_once (x := (numR 1 s).1) (by rw [← e1])
    refine e0.trans ?_
    simp only [intsW_cons, intsW_nil, List.append_nil, List.append_assoc]
  have hz : q.1.yes = false ∧ q.1.ix = 0 ∧ q.1.lt = 0 ∧ q.1.cm = 0 ∧ q.1.es = [] ∧ q.1.sn = zeroSn := by rw [hq]; unfold headR; exact ⟨rfl, rfl, rfl, rfl, rfl, rfl⟩
  obtain ⟨⟨kd, fr, to, tm, ix, lt, cm, yes, es, sn⟩, t⟩ := q
  dsimp only at h hhead hz
  have hkd : kd = m.kd := by
    unfold bodyR at h
    dsimp only at h
    split at h
    · simp only [Prod.mk.injEq] at h; rw [← h.1]
    split at h
    · simp only [Prod.mk.injEq] at h; rw [← h.1]
    split at h
    · simp only [Prod.mk.injEq] at h; rw [← h.1]
    split at h
    · simp only [Prod.mk.injEq] at h; rw [← h.1]
    split at h
    · simp only [Prod.mk.injEq] at h; rw [← h.1]
    · simp only [Prod.mk.injEq] at h; rw [← h.1]
  have hkd5 : kd = 1 ∨ kd = 2 ∨ kd = 3 ∨ kd = 4 ∨ kd = 5 := by omega
  unfold msgW
  clear hz hq hkd hk
  unfold bodyR at h
  dsimp only at h
  rcases hkd5 with rfl | rfl | rfl | rfl | rfl
  · rw [if_pos rfl] at h
    simp only [Prod.mk.injEq] at h
    obtain ⟨rfl, h2⟩ := h
    have e2 := intW_once (x := (numR 8 (numR 8 t).2).1) (r := r) (by rw [← h2])
    have e1 := intW_once (x := (numR 8 t).1) (by rw [← e2])
    rw [hhead _ e1]
    unfold bodyW
    dsimp only
    rw [if_pos rfl]
    simp only [intsW_cons, intsW_nil, List.append_nil, List.append_assoc]
  · rw [if_neg (by decide), if_pos rfl] at h
    simp only [Prod.mk.injEq] at h
    obtain ⟨rfl, h2⟩ := h
    have e1 := yesR_once (y := (yesR t).1) (r := r) (by rw [← h2])
    rw [hhead _ e1]
    unfold bodyW
    dsimp only
    rw [if_neg (by decide), if_pos rfl]
    simp only [intsW_cons, intsW_nil, List.append_nil, List.append_assoc]
  · rw [if_neg (by decide), if_neg (by decide), if_pos rfl] at h
    simp only [Prod.mk.injEq] at h
    obtain ⟨rfl, h2⟩ := h
    obtain ⟨e5, e6⟩ := entsR_once (l := (entsR (numR 1 (numR 8 (numR 8 (numR 8 t).2).2).2).1.toNat (numR 1 (numR 8 (numR 8 (numR 8 t).2).2).2).2).1) (r := r) (by rw [← h2])
    obtain ⟨e4, _⟩ := numR_once (x := (numR 1 (numR 8 (numR 8 (numR 8 t).2).2).2).1) (by rw [← e5])
    have e3 := intW_once (x := (numR 8 (numR 8 (numR 8 t).2).2).1) (by rw [← e4])
    have e2 := intW_once (x := (numR 8 (numR 8 t).2).1) (by rw [← e3])
    have e1 := intW_once (x := (numR 8 t).1) (by rw [← e2])
    rw [hhead _ e1]
    unfold bodyW
    dsimp only
    rw [if_neg (by decide), if_neg (by decide), if_pos rfl, e6]
    simp only [intsW_cons, intsW_nil, List.append_nil, List.append_assoc]
  · rw [if_neg (by decide), if_neg (by decide), if_neg (by decide), if_pos rfl] at h
    simp only [Prod.mk.injEq] at h
    obtain ⟨rfl, h2⟩ := h
    have e2 := intW_once (x := (numR 8 (yesR t).2).1) (r := r) (by rw [← h2])
    have e1 := yesR_once (y := (yesR t).1) (by rw [← e2])
    rw [hhead _ e1]
    unfold bodyW
    dsimp only
    rw [if_neg (by decide), if_neg (by decide), if_neg (by decide), if_pos rfl]
    simp only [intsW_cons, intsW_nil, List.append_nil, List.append_assoc]
  · rw [if_neg (by decide), if_neg (by decide), if_neg (by decide), if_neg (by decide), if_pos rfl] at h
    simp only [Prod.mk.injEq] at h
    obtain ⟨rfl, h2⟩ := h
    have e1 := snpR_once (e := (snpR t).1) (r := r) (by rw [← h2])
    rw [hhead _ e1]
    unfold bodyW
    dsimp only
    rw [if_neg (by decide), if_neg (by decide), if_neg (by decide), if_neg (by decide), if_pos rfl]
    simp only [intsW_cons, intsW_nil, List.append_nil, List.append_assoc]

/-- What is read is small. -/
theorem numR_lt (n : Nat) (s : List UInt8 × Bool) : (numR n s).1 < 9223372036854775808 := by
  unfold numR
  split
  · decide
  · dsimp only; omega

theorem intsR_small : ∀ (n : Nat) (s : List UInt8 × Bool), smallI (intsR n s).1
  | 0, s => fun n hn => by simp [intsR] at hn
  | k + 1, s => fun n hn => by
    rw [intsR] at hn
    rcases List.mem_cons.1 hn with rfl | hn
    · exact numR_lt _ _
    · exact intsR_small k _ n hn

theorem lstR_small (s : List UInt8 × Bool) : smallI (lstR s).1 := by unfold lstR; exact intsR_small _ _

theorem small3 {a b c : Int} (ha : a < 9223372036854775808) (hb : b < 9223372036854775808) (hc : c < 9223372036854775808) : smallI [a, b, c] := fun n hn => by
  simp only [List.mem_cons, List.not_mem_nil, or_false] at hn
  rcases hn with rfl | rfl | rfl <;> assumption

theorem small2 {a b : Int} (ha : a < 9223372036854775808) (hb : b < 9223372036854775808) : smallI [a, b] := fun n hn => by
  simp only [List.mem_cons, List.not_mem_nil, or_false] at hn
  rcases hn with rfl | rfl <;> assumption

theorem entR1_eq (s : List UInt8 × Bool) : (entR1 s).1 = ⟨(numR 8 s).1, (numR 8 (numR 8 s).2).1, (numR 8 (numR 8 (numR 8 s).2).2).1, ⟨(txtR (numR 8 (numR 8 (numR 8 s).2).2).2).1.toArray⟩, (lstR (txtR (numR 8 (numR 8 (numR 8 s).2).2).2).2).1⟩ := by unfold entR1; rfl

theorem entR1_small (s : List UInt8 × Bool) : smallE (entR1 s).1 := by
  have h1 := numR_lt 8 s
  have h2 := numR_lt 8 (numR 8 s).2
  have h3 := numR_lt 8 (numR 8 (numR 8 s).2).2
  have h := lstR_small (txtR (numR 8 (numR 8 (numR 8 s).2).2).2).2
  rw [entR1_eq]
  generalize numR 8 s = q1 at *
  generalize numR 8 q1.2 = q2 at *
  generalize numR 8 q2.2 = q3 at *
  generalize txtR q3.2 = q4 at *
  generalize lstR q4.2 = q5 at *
  exact ⟨small3 h1 h2 h3, h⟩

theorem entsR_small : ∀ (n : Nat) (s : List UInt8 × Bool), ∀ e ∈ (entsR n s).1, smallE e
  | 0, s => fun n hn => by simp [entsR] at hn
  | k + 1, s => fun n hn => by
    rw [entsR] at hn
    rcases List.mem_cons.1 hn with rfl | hn
    · exact entR1_small _
    · exact entsR_small k _ n hn

theorem snpR_eq (s : List UInt8 × Bool) : (snpR s).1 = ⟨(numR 8 s).1, (numR 8 (numR 8 s).2).1, (lstR (numR 8 (numR 8 s).2).2).1, ⟨(txtR (lstR (numR 8 (numR 8 s).2).2).2).1.toArray⟩⟩ := by unfold snpR; rfl

theorem snpR_small (s : List UInt8 × Bool) : smallS (snpR s).1 := by
  have h1 := numR_lt 8 s
  have h2 := numR_lt 8 (numR 8 s).2
  have h := lstR_small (numR 8 (numR 8 s).2).2
  rw [snpR_eq]
  generalize numR 8 s = q1 at *
  generalize numR 8 q1.2 = q2 at *
  generalize lstR q2.2 = q3 at *
  generalize txtR q3.2 = q4 at *
  exact ⟨small2 h1 h2, h⟩

theorem zeroSn_small : smallS zeroSn := ⟨fun n hn => by simp [zeroSn] at hn; subst hn; decide, fun n hn => by simp [zeroSn] at hn⟩

theorem msgR_small (s : List UInt8 × Bool) : smallM (msgR s).1 := by
  have hh : ∀ n ∈ [(headR s).1.kd, (headR s).1.fr, (headR s).1.to, (headR s).1.tm], n < 9223372036854775808 := fun n hn => by
    unfold headR at hn
    dsimp only at hn
    simp only [List.mem_cons, List.not_mem_nil, or_false] at hn
    rcases hn with h | h | h | h
    · rw [h]; exact numR_lt 1 s
    · rw [h]; exact numR_lt 8 (numR 1 s).2
    · rw [h]; exact numR_lt 8 (numR 8 (numR 1 s).2).2
    · rw [h]; exact numR_lt 8 (numR 8 (numR 8 (numR 1 s).2).2).2
  have hz : (headR s).1.ix = 0 ∧ (headR s).1.lt = 0 ∧ (headR s).1.cm = 0 ∧ (headR s).1.es = [] ∧ (headR s).1.sn = zeroSn := by unfold headR; exact ⟨rfl, rfl, rfl, rfl, rfl⟩
  unfold msgR
  obtain ⟨q, hq⟩ : ∃ q, q = headR s := ⟨_, rfl⟩
  rw [← hq] at hh hz ⊢
  clear hq
  obtain ⟨⟨kd, fr, to, tm, ix, lt, cm, yes, es, sn⟩, t⟩ := q
  dsimp only at hh hz ⊢
  obtain ⟨rfl, rfl, rfl, rfl, rfl⟩ := hz
  have h1 := hh kd (by simp)
  have h2 := hh fr (by simp)
  have h3 := hh to (by simp)
  have h4 := hh tm (by simp)
  have key : ∀ (a b c : Int) (es : List EntM) (sn : SnpM) (y : Bool), a < 9223372036854775808 → b < 9223372036854775808 → c < 9223372036854775808 → (∀ e ∈ es, smallE e) → smallS sn → smallM ⟨kd, fr, to, tm, a, b, c, y, es, sn⟩ := fun a b c es sn y ha hb hc he hs => ⟨fun n hn => by
    simp only [List.mem_cons, List.not_mem_nil, or_false] at hn
    rcases hn with rfl | rfl | rfl | rfl | rfl | rfl | rfl <;> assumption, he, hs⟩
  have hne : ∀ e ∈ ([] : List EntM), smallE e := fun e he => by simp at he
  unfold bodyR
  dsimp only
  by_cases k1 : kd = 1
  · rw [if_pos k1]
    exact key (numR 8 t).1 (numR 8 (numR 8 t).2).1 0 [] zeroSn yes (numR_lt _ _) (numR_lt _ _) (by decide) hne zeroSn_small
  rw [if_neg k1]
  by_cases k2 : kd = 2
  · rw [if_pos k2]
    exact key 0 0 0 [] zeroSn (yesR t).1 (by decide) (by decide) (by decide) hne zeroSn_small
  rw [if_neg k2]
  by_cases k3 : kd = 3
  · rw [if_pos k3]
    exact key (numR 8 t).1 (numR 8 (numR 8 t).2).1 (numR 8 (numR 8 (numR 8 t).2).2).1 (entsR (numR 1 (numR 8 (numR 8 (numR 8 t).2).2).2).1.toNat (numR 1 (numR 8 (numR 8 (numR 8 t).2).2).2).2).1 zeroSn yes (numR_lt _ _) (numR_lt _ _) (numR_lt _ _) (entsR_small _ _) zeroSn_small
  rw [if_neg k3]
  by_cases k4 : kd = 4
  · rw [if_pos k4]
    exact key (numR 8 (yesR t).2).1 0 0 [] zeroSn (yesR t).1 (numR_lt _ _) (by decide) (by decide) hne zeroSn_small
  rw [if_neg k4]
  by_cases k5 : kd = 5
  · rw [if_pos k5]
    exact key 0 0 0 [] (snpR t).1 yes (by decide) (by decide) (by decide) hne (snpR_small _)
  rw [if_neg k5]
  exact key 0 0 0 [] zeroSn yes (by decide) (by decide) (by decide) hne zeroSn_small

/-- What Decode tells: the message, if there is one. -/
def goodR (l : List UInt8) : Bool := !(msgR (l, false)).2.2 && decide ((msgR (l, false)).2.1.length = 0) && okMB (msgR (l, false)).1

def decR (l : List UInt8) : MsgM := if goodR l = true then (msgR (l, false)).1 else zeroMs

theorem goodR_parts {l : List UInt8} (h : goodR l = true) : msgR (l, false) = (decR l, [], false) ∧ okMB (decR l) = true := by
  have h0 := h
  unfold goodR at h
  simp only [Bool.and_eq_true, decide_eq_true_eq, Bool.not_eq_true'] at h
  obtain ⟨⟨h1, h2⟩, h3⟩ := h
  unfold decR
  rw [if_pos h0]
  exact ⟨Prod.ext rfl (Prod.ext (List.eq_nil_of_length_eq_zero h2) h1), h3⟩

theorem goodR_mk {l : List UInt8} {m : MsgM} (h : msgR (l, false) = (m, [], false)) (hm : okMB m = true) : goodR l = true ∧ decR l = m := by
  have hg : goodR l = true := by
    unfold goodR
    rw [h]
    simp [hm]
  exact ⟨hg, by unfold decR; rw [if_pos hg, h]⟩

theorem dec_once {l : List UInt8} (h : goodR l = true) : msgW (decR l) = l := by
  obtain ⟨h1, h2⟩ := goodR_parts h
  have h3 := msgR_once h1 (okMB_parts h2).1
  rw [List.append_nil] at h3
  exact (congrArg Prod.fst h3).symm

theorem dec_back {m : MsgM} (h : okMB m = true) (hs : smallM m) : goodR (msgW m) = true ∧ decR (msgW m) = m := by
  have := msgR_back m [] false h hs
  rw [List.append_nil] at this
  exact goodR_mk this h

theorem dec_more {m : MsgM} (h : okMB m = true) (hs : smallM m) (x : UInt8) : goodR (msgW m ++ [x]) = false := by
  unfold goodR
  rw [msgR_back m [x] false h hs]
  rfl

theorem decR_small {l : List UInt8} (h : goodR l = true) : smallM (decR l) := by
  unfold decR
  rw [if_pos h]
  exact msgR_small _

theorem dec_cut {m : MsgM} (h : okMB m = true) (hs : smallM m) {k : Nat} (hk : k < (msgW m).length) : goodR ((msgW m).take k) = false := by
  cases hg : goodR ((msgW m).take k) with
  | false => rfl
  | true =>
    exfalso
    obtain ⟨g1, g2⟩ := goodR_parts hg
    have h3 := dec_once hg
    have h4 := msgR_back m [] false h hs
    have h5 : msgW m = msgW (decR ((msgW m).take k)) ++ (msgW m).drop k := by rw [h3, List.take_append_drop]
    have h6 := msgR_back (decR ((msgW m).take k)) ((msgW m).drop k) false g2 (decR_small hg)
    rw [← h5] at h6
    rw [List.append_nil] at h4
    rw [h4] at h6
    have h7 := congrArg (fun q => q.2.1.length) h6
    simp only [List.length_nil, List.length_drop] at h7
    omega

end Go.Proofs.Ytiblaengkkpbiaa
