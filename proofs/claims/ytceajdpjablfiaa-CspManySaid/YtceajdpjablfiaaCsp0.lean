/- csp in plain words: directives, their reading, their writing, the first of some names. -/
import Derived.Test.YtceajdpjablfiaaKit
import Derived.Test.YtceajdpjablfiaaPlain
import Derived.Test.YtceajdpjablfiaaAsc4
import Derived.Test.YtceajdpjablfiaaSha
import Derived.Test.YtceajdpjablfiaaHst0
import Derived.Test.YtceajdpjablfiaaHdr10
namespace Go.Proofs.Ytceajdpjablfiaa
open Go.RowKit Go.Proofs

/-- A directive: its name and its sources. -/
structure DirM where
  cdn : List UInt8
  cdl : List (List UInt8)

def ascB (l : List UInt8) : Bool := l.all (fun c => decide (c.toNat < 128))

def dirO (p : List UInt8) : Option DirM :=
  if ascB p = true then (match wordsL p with | [] => none | x :: r => some ⟨lowL x, r⟩) else none

def cmetB (ds : List DirM) (n : List UInt8) : Bool := ds.any (fun d => decide (d.cdn = n))

def caddD (out : List DirM) (p : List UInt8) : List DirM :=
  match dirO p with
  | none => out
  | some d => if cmetB out d.cdn = true then out else out ++ [d]

def cspP (ps : List (List UInt8)) : List DirM := ps.foldl caddD []

def cspL (l : List UInt8) : List DirM := cspP (splitL l 59)

theorem cspP_nil : cspP [] = [] := rfl

theorem cspP_snoc {ps : List (List UInt8)} {k : Nat} {p : List UInt8} (h : ps[k]? = some p) : cspP (ps.take (k + 1)) = caddD (cspP (ps.take k)) p := by
  rw [take_succ_of h]
  unfold cspP
  rw [List.foldl_append]
  rfl

theorem cadd_none {out : List DirM} {p : List UInt8} (h : dirO p = none) : caddD out p = out := by unfold caddD; rw [h]

theorem cadd_met {out : List DirM} {p : List UInt8} {d : DirM} (h : dirO p = some d) (hm : cmetB out d.cdn = true) : caddD out p = out := by unfold caddD; rw [h]; exact if_pos hm

theorem cadd_new {out : List DirM} {p : List UInt8} {d : DirM} (h : dirO p = some d) (hm : cmetB out d.cdn = false) : caddD out p = out ++ [d] := by unfold caddD; rw [h]; exact if_neg (by rw [hm]; simp)

theorem cmet_snoc (ds : List DirM) (d : DirM) (n : List UInt8) : cmetB (ds ++ [d]) n = (cmetB ds n || decide (d.cdn = n)) := by
  unfold cmetB
  rw [List.any_append]
  simp

theorem cmet_mem {ds : List DirM} {n : List UInt8} : cmetB ds n = true ↔ ∃ d ∈ ds, d.cdn = n := by
  unfold cmetB
  simp

theorem cmet_no {ds : List DirM} {n : List UInt8} (h : cmetB ds n = false) : ∀ d ∈ ds, d.cdn ≠ n := by
  intro d hd e
  rw [cmet_mem.2 ⟨d, hd, e⟩] at h
  cases h

/-! words -/
theorem isBl_lowB (c : UInt8) : isBl (lowB c) = isBl c := byte_all (p := fun c => isBl (lowB c) = isBl c) (by decide +kernel) c

theorem low_asc (c : UInt8) (h : c.toNat < 128) : (lowB c).toNat < 128 := by
  have hh : ∀ c : UInt8, decide (c.toNat < 128 → (lowB c).toNat < 128) = true := fun c => byte_all (p := fun c => decide (c.toNat < 128 → (lowB c).toNat < 128) = true) (by decide +kernel) c
  exact of_decide_eq_true (hh c) h

theorem low_semi (c : UInt8) (h : lowB c = 59) : c = 59 := by
  have hh : ∀ c : UInt8, decide (lowB c = 59 → c = 59) = true := fun c => byte_all (p := fun c => decide (lowB c = 59 → c = 59) = true) (by decide +kernel) c
  exact of_decide_eq_true (hh c) h

def neatB (c : UInt8) : Prop := isBl c = false ∧ c.toNat < 128 ∧ c ≠ 59

def neatW (x : List UInt8) : Prop := x ≠ [] ∧ ∀ c ∈ x, neatB c

def neatD (d : DirM) : Prop := neatW d.cdn ∧ lowL d.cdn = d.cdn ∧ ∀ x ∈ d.cdl, neatW x

theorem cwords_mem : ∀ (l cur : List UInt8), (∀ c ∈ cur, isBl c = false) → ∀ x ∈ wordsGo cur l, x ≠ [] ∧ ∀ c ∈ x, isBl c = false ∧ (c ∈ cur ∨ c ∈ l)
  | [], cur, hc, x, hx => by
    rw [wordsGo] at hx
    split at hx
    · cases hx
    · rename_i h
      rw [List.mem_singleton.1 hx]
      exact ⟨h, fun c hcc => ⟨hc c hcc, .inl hcc⟩⟩
  | c :: r, cur, hc, x, hx => by
    rw [wordsGo] at hx
    split at hx
    · have hr : ∀ x ∈ wordsGo [] r, x ≠ [] ∧ ∀ b ∈ x, isBl b = false ∧ (b ∈ cur ∨ b ∈ c :: r) := fun x hx => by
        obtain ⟨h1, h2⟩ := cwords_mem r [] (fun _ h => by cases h) x hx
        refine ⟨h1, fun b hb => ⟨(h2 b hb).1, .inr ?_⟩⟩
        rcases (h2 b hb).2 with h | h
        · cases h
        · exact List.mem_cons_of_mem _ h
      split at hx
      · exact hr x hx
      · rename_i h
        rcases List.mem_cons.1 hx with rfl | hx
        · exact ⟨h, fun b hb => ⟨hc b hb, .inl hb⟩⟩
        · exact hr x hx
    · rename_i h
      obtain ⟨h1, h2⟩ := cwords_mem r (cur ++ [c]) (fun d hd => by
        rcases List.mem_append.1 hd with hd | hd
        · exact hc d hd
        · rw [List.mem_singleton.1 hd]; simpa using h) x hx
      refine ⟨h1, fun b hb => ⟨(h2 b hb).1, ?_⟩⟩
      rcases (h2 b hb).2 with h | h
      · rcases List.mem_append.1 h with h | h
        · exact .inl h
        · exact .inr (by rw [List.mem_singleton.1 h]; exact List.mem_cons_self ..)
      · exact .inr (List.mem_cons_of_mem _ h)

theorem asc_mem {p : List UInt8} (h : ascB p = true) : ∀ c ∈ p, c.toNat < 128 := by
  intro c hc
  unfold ascB at h
  exact of_decide_eq_true (List.all_eq_true.1 h c hc)

theorem cword_neat {p : List UInt8} (ha : ascB p = true) (hs : (59 : UInt8) ∉ p) {x : List UInt8} (hx : x ∈ wordsL p) : neatW x := by
  obtain ⟨h1, h2⟩ := cwords_mem p [] (fun _ h => by cases h) x hx
  refine ⟨h1, fun c hc => ?_⟩
  obtain ⟨h3, h4⟩ := h2 c hc
  rcases h4 with h4 | h4
  · cases h4
  · exact ⟨h3, asc_mem ha c h4, fun e => hs (by rw [← e]; exact h4)⟩

theorem lowL_twice (l : List UInt8) : lowL (lowL l) = lowL l := by
  unfold lowL
  rw [List.map_map]
  apply List.map_congr_left
  intro c _
  exact byte_all (p := fun c => lowB (lowB c) = lowB c) (by decide +kernel) c

theorem neat_low {x : List UInt8} (h : neatW x) : neatW (lowL x) := by
  refine ⟨fun e => h.1 (List.map_eq_nil_iff.1 e), fun c hc => ?_⟩
  obtain ⟨b, hb, rfl⟩ := List.mem_map.1 hc
  obtain ⟨h1, h2, h3⟩ := h.2 b hb
  exact ⟨by rw [isBl_lowB]; exact h1, low_asc b h2, fun e => h3 (low_semi b e)⟩

theorem dirO_some {p : List UInt8} {d : DirM} (h : dirO p = some d) : ascB p = true ∧ ∃ x r, wordsL p = x :: r ∧ d = ⟨lowL x, r⟩ := by
  unfold dirO at h
  split at h
  · rename_i ha
    refine ⟨ha, ?_⟩
    split at h
    · cases h
    · rename_i x r hw
      exact ⟨x, r, hw, (Option.some.inj h).symm⟩
  · cases h

theorem dirO_neat {p : List UInt8} {d : DirM} (hs : (59 : UInt8) ∉ p) (h : dirO p = some d) : neatD d := by
  obtain ⟨ha, x, r, hw, rfl⟩ := dirO_some h
  refine ⟨neat_low (cword_neat ha hs (by rw [hw]; exact List.mem_cons_self ..)), lowL_twice x, fun y hy => cword_neat ha hs (by rw [hw]; exact List.mem_cons_of_mem _ hy)⟩

/-! what was read -/
def apartD (ds : List DirM) : Prop := ds.Pairwise (fun a b => a.cdn ≠ b.cdn)

theorem apart_snoc {ds : List DirM} {d : DirM} (h : apartD ds) (hm : cmetB ds d.cdn = false) : apartD (ds ++ [d]) := by
  unfold apartD
  rw [List.pairwise_append]
  refine ⟨h, List.pairwise_singleton _ _, fun a ha b hb => ?_⟩
  rw [List.mem_singleton.1 hb]
  exact cmet_no hm a ha

theorem cadd_good {out : List DirM} {p : List UInt8} (hs : (59 : UInt8) ∉ p) (h1 : ∀ d ∈ out, neatD d) (h2 : apartD out) : (∀ d ∈ caddD out p, neatD d) ∧ apartD (caddD out p) := by
  cases hd : dirO p with
  | none => rw [cadd_none hd]; exact ⟨h1, h2⟩
  | some d =>
    cases hm : cmetB out d.cdn with
    | true => rw [cadd_met hd hm]; exact ⟨h1, h2⟩
    | false =>
      rw [cadd_new hd hm]
      refine ⟨fun e he => ?_, apart_snoc h2 hm⟩
      rcases List.mem_append.1 he with he | he
      · exact h1 e he
      · rw [List.mem_singleton.1 he]; exact dirO_neat hs hd

theorem cfold_good : ∀ (ps : List (List UInt8)) (out : List DirM), (∀ p ∈ ps, (59 : UInt8) ∉ p) → (∀ d ∈ out, neatD d) → apartD out → (∀ d ∈ ps.foldl caddD out, neatD d) ∧ apartD (ps.foldl caddD out)
  | [], out, _, h1, h2 => ⟨h1, h2⟩
  | p :: r, out, hs, h1, h2 => by
    obtain ⟨h3, h4⟩ := cadd_good (hs p (List.mem_cons_self ..)) h1 h2
    exact cfold_good r _ (fun q hq => hs q (List.mem_cons_of_mem _ hq)) h3 h4

theorem csplit_free : ∀ (l cur : List UInt8), (59 : UInt8) ∉ cur → ∀ p ∈ splitGo 59 cur l, (59 : UInt8) ∉ p
  | [], cur, h, p, hp => by
    rw [splitGo] at hp
    rw [List.mem_singleton.1 hp]
    exact h
  | c :: r, cur, h, p, hp => by
    rw [splitGo] at hp
    split at hp
    · rcases List.mem_cons.1 hp with rfl | hp
      · exact h
      · exact csplit_free r [] (by simp) p hp
    · rename_i hc
      refine csplit_free r (cur ++ [c]) (fun hm => ?_) p hp
      rcases List.mem_append.1 hm with hm | hm
      · exact h hm
      · exact hc (List.mem_singleton.1 hm).symm

theorem csp_good (l : List UInt8) : (∀ d ∈ cspL l, neatD d) ∧ apartD (cspL l) := cfold_good _ [] (csplit_free l [] (by simp)) (fun d h => by cases h) List.Pairwise.nil

theorem cfold_pre : ∀ (ps : List (List UInt8)) (out : List DirM), ∃ t, ps.foldl caddD out = out ++ t
  | [], out => ⟨[], by simp⟩
  | p :: r, out => by
    obtain ⟨t, ht⟩ := cfold_pre r (caddD out p)
    rw [List.foldl_cons, ht]
    unfold caddD
    cases dirO p with
    | none => exact ⟨t, rfl⟩
    | some d =>
      dsimp only
      split
      · exact ⟨t, rfl⟩
      · exact ⟨d :: t, by simp⟩

theorem csplit_app : ∀ (a b cur : List UInt8), splitGo 59 cur (a ++ 59 :: b) = splitGo 59 cur a ++ splitGo 59 [] b
  | [], b, cur => by simp [splitGo]
  | c :: r, b, cur => by
    rw [List.cons_append, splitGo, splitGo]
    split
    · rw [csplit_app r b [], List.cons_append]
    · rw [csplit_app r b _]

theorem csp_first (a b : List UInt8) : ∃ t, cspL (a ++ 59 :: b) = cspL a ++ t := by
  unfold cspL splitL cspP
  rw [csplit_app, List.foldl_append]
  exact cfold_pre _ _

/-! written, and read again -/
def dirT (d : DirM) : List UInt8 := d.cdn ++ d.cdl.flatMap (fun x => 32 :: x)

def cspT : List DirM → List UInt8
  | [] => []
  | d :: r => dirT d ++ r.flatMap (fun e => 59 :: 32 :: dirT e)

theorem cspT_snoc : ∀ (ds : List DirM) (d : DirM), ds ≠ [] → cspT (ds ++ [d]) = cspT ds ++ 59 :: 32 :: dirT d
  | [], d, h => absurd rfl h
  | e :: r, d, _ => by
    show dirT e ++ (r ++ [d]).flatMap (fun e => 59 :: 32 :: dirT e) = (dirT e ++ r.flatMap (fun e => 59 :: 32 :: dirT e)) ++ 59 :: 32 :: dirT d
    rw [List.flatMap_append]
    simp

theorem cwords_on : ∀ (x cur r : List UInt8), (∀ c ∈ x, isBl c = false) → wordsGo cur (x ++ r) = wordsGo (cur ++ x) r
  | [], cur, r, _ => by simp
  | c :: x, cur, r, h => by
    rw [List.cons_append, wordsGo_on (h c (List.mem_cons_self ..)), cwords_on x _ r (fun b hb => h b (List.mem_cons_of_mem _ hb))]
    simp

theorem cwords_row : ∀ (xs : List (List UInt8)) (cur : List UInt8), cur ≠ [] → (∀ x ∈ xs, neatW x) → wordsGo cur (xs.flatMap (fun x => 32 :: x)) = cur :: xs
  | [], cur, h, _ => by simp [wordsGo, h]
  | x :: r, cur, h, hx => by
    have h1 := hx x (List.mem_cons_self ..)
    rw [List.flatMap_cons, List.cons_append, wordsGo_cut (by decide) h, cwords_on x [] _ (fun c hc => (h1.2 c hc).1), List.nil_append, cwords_row r x h1.1 (fun y hy => hx y (List.mem_cons_of_mem _ hy))]

theorem words_dir {d : DirM} (h : neatD d) : wordsL (dirT d) = d.cdn :: d.cdl := by
  unfold wordsL dirT
  rw [cwords_on _ _ _ (fun c hc => (h.1.2 c hc).1), List.nil_append]
  exact cwords_row _ _ h.1.1 h.2.2

theorem dirT_byte {d : DirM} (h : neatD d) : ∀ c ∈ dirT d, c.toNat < 128 ∧ c ≠ 59 := by
  intro c hc
  unfold dirT at hc
  rcases List.mem_append.1 hc with hc | hc
  · exact (h.1.2 c hc).2
  · obtain ⟨x, hx, hc⟩ := List.mem_flatMap.1 hc
    rcases List.mem_cons.1 hc with rfl | hc
    · exact ⟨by decide, by decide⟩
    · exact ((h.2.2 x hx).2 c hc).2

theorem asc_of {p : List UInt8} (h : ∀ c ∈ p, c.toNat < 128) : ascB p = true := by
  unfold ascB
  rw [List.all_eq_true]
  exact fun c hc => decide_eq_true (h c hc)

theorem dirO_dir {d : DirM} (h : neatD d) : dirO (dirT d) = some d := by
  unfold dirO
  rw [if_pos (asc_of fun c hc => (dirT_byte h c hc).1), words_dir h]
  show some (⟨lowL d.cdn, d.cdl⟩ : DirM) = some d
  rw [h.2.1]

theorem dirO_blank {d : DirM} (h : neatD d) : dirO (32 :: dirT d) = some d := by
  unfold dirO
  have e : wordsL (32 :: dirT d) = d.cdn :: d.cdl := by
    rw [← words_dir h]
    unfold wordsL
    rw [wordsGo_pass (by decide)]
  rw [if_pos (asc_of fun c hc => by
    rcases List.mem_cons.1 hc with rfl | hc
    · decide
    · exact (dirT_byte h c hc).1), e]
  show some (⟨lowL d.cdn, d.cdl⟩ : DirM) = some d
  rw [h.2.1]

theorem csplit_row : ∀ (r : List DirM) (p : List UInt8), (59 : UInt8) ∉ p → (∀ d ∈ r, neatD d) → splitGo 59 [] (p ++ r.flatMap (fun e => 59 :: 32 :: dirT e)) = p :: r.map (fun e => 32 :: dirT e)
  | [], p, h, _ => by simp [splitGo_none 59 p [] h]
  | d :: r, p, h, hd => by
    rw [List.flatMap_cons, List.cons_append, splitGo_pre 59 p [] _ h, List.nil_append, List.map_cons]
    have := csplit_row r (32 :: dirT d) (fun hm => by
      rcases List.mem_cons.1 hm with hm | hm
      · cases hm
      · exact (dirT_byte (hd d (List.mem_cons_self ..)) 59 hm).2 rfl) (fun e he => hd e (List.mem_cons_of_mem _ he))
    rw [List.cons_append] at this
    rw [List.cons_append, this]

theorem cfold_all : ∀ (ps : List (List UInt8)) (ds out : List DirM), ps.map dirO = ds.map some → apartD (out ++ ds) → ps.foldl caddD out = out ++ ds
  | [], [], out, _, _ => by simp
  | [], d :: r, out, h, _ => by simp at h
  | p :: ps, [], out, h, _ => by simp at h
  | p :: ps, d :: r, out, h, ha => by
    simp only [List.map_cons, List.cons.injEq] at h
    have hm : cmetB out d.cdn = false := by
      rw [Bool.eq_false_iff]
      intro e
      obtain ⟨x, hx, hn⟩ := cmet_mem.1 e
      unfold apartD at ha
      exact (List.pairwise_append.1 ha).2.2 x hx d (List.mem_cons_self ..) hn
    rw [List.foldl_cons, cadd_new h.1 hm, cfold_all ps r (out ++ [d]) h.2 (by simpa using ha)]
    simp

theorem csp_back {ds : List DirM} (h1 : ∀ d ∈ ds, neatD d) (h2 : apartD ds) : cspL (cspT ds) = ds := by
  cases ds with
  | nil => rfl
  | cons d r =>
    have hd := h1 d (List.mem_cons_self ..)
    have hr : ∀ e ∈ r, neatD e := fun e he => h1 e (List.mem_cons_of_mem _ he)
    unfold cspL splitL cspP cspT
    rw [csplit_row r (dirT d) (fun hm => (dirT_byte hd 59 hm).2 rfl) hr]
    refine cfold_all _ (d :: r) [] ?_ h2
    rw [List.map_cons, List.map_cons, dirO_dir hd, List.map_map]
    congr 1
    apply List.map_congr_left
    intro e he
    exact dirO_blank (hr e he)

/-! the first of some names -/
def cfindO (ds : List DirM) (n : List UInt8) : Option DirM := ds.find? (fun d => decide (d.cdn = n))

def cpickO (ds : List DirM) : List (List UInt8) → Option DirM
  | [] => none
  | n :: r => match cfindO ds n with | some d => some d | none => cpickO ds r

theorem cfind_none {ds : List DirM} {n : List UInt8} : cfindO ds n = none ↔ cmetB ds n = false := by
  unfold cfindO cmetB
  rw [List.find?_eq_none, List.any_eq_false]

theorem cfind_at {ds : List DirM} {n : List UInt8} {i : Nat} {d : DirM} (hi : ds[i]? = some d) (hn : d.cdn = n) (h : cmetB (ds.take i) n = false) : cfindO ds n = some d := by
  obtain ⟨r, e⟩ : ∃ r, ds = ds.take i ++ d :: r := by
    obtain ⟨hl, rfl⟩ := List.getElem?_eq_some_iff.1 hi
    exact ⟨ds.drop (i + 1), by rw [List.getElem_cons_drop, List.take_append_drop]⟩
  unfold cfindO
  rw [e, List.find?_append, show (ds.take i).find? (fun d => decide (d.cdn = n)) = none from cfind_none.2 h]
  simp [hn]

theorem cmet_take {ds : List DirM} {n : List UInt8} {i : Nat} {d : DirM} (hi : ds[i]? = some d) (hn : d.cdn ≠ n) (h : cmetB (ds.take i) n = false) : cmetB (ds.take (i + 1)) n = false := by
  rw [take_succ_of hi, cmet_snoc, h, decide_eq_false hn]
  rfl

theorem cpick_at {ds : List DirM} {ns : List (List UInt8)} {k : Nat} {n : List UInt8} {d : DirM} (hk : ns[k]? = some n) (hd : cfindO ds n = some d) (h : cpickO ds (ns.take k) = none) : cpickO ds ns = some d := by
  induction ns generalizing k with
  | nil => simp at hk
  | cons m r ih =>
    cases k with
    | zero =>
      simp at hk
      subst hk
      simp [cpickO, hd]
    | succ k =>
      rw [List.take_succ_cons] at h
      unfold cpickO at h ⊢
      cases hm : cfindO ds m with
      | some e => rw [hm] at h; cases h
      | none =>
        rw [hm] at h
        exact ih (by simpa using hk) h

theorem cpick_snoc : ∀ (ds : List DirM) (ns : List (List UInt8)) (n : List UInt8), cpickO ds ns = none → cfindO ds n = none → cpickO ds (ns ++ [n]) = none
  | ds, [], n, _, h => by simp [cpickO, h]
  | ds, m :: r, n, h, hn => by
    rw [List.cons_append]
    unfold cpickO at h ⊢
    cases hm : cfindO ds m with
    | some e => rw [hm] at h; cases h
    | none =>
      rw [hm] at h
      exact cpick_snoc ds r n h hn

theorem cpick_next {ds : List DirM} {ns : List (List UInt8)} {k : Nat} {n : List UInt8} (hk : ns[k]? = some n) (hd : cmetB ds n = false) (h : cpickO ds (ns.take k) = none) : cpickO ds (ns.take (k + 1)) = none := by
  rw [take_succ_of hk]
  exact cpick_snoc ds _ n h (cfind_none.2 hd)

theorem cpick_one (ds : List DirM) (n : List UInt8) : cpickO ds [n] = cfindO ds n := by
  unfold cpickO
  cases cfindO ds n <;> rfl

theorem cfind_met (ds : List DirM) (n : List UInt8) : (cfindO ds n).isSome = cmetB ds n := by
  cases h : cfindO ds n with
  | none => rw [cfind_none.1 h]; rfl
  | some d =>
    have hm : cmetB ds n = true := by
      cases e : cmetB ds n with
      | true => rfl
      | false =>
        rw [cfind_none.2 e] at h
        cases h
    rw [hm]
    rfl

theorem cpick_mem {ds : List DirM} : ∀ {ns : List (List UInt8)} {d : DirM}, cpickO ds ns = some d → d ∈ ds
  | [], d, h => by cases h
  | n :: r, d, h => by
    unfold cpickO at h
    split at h
    · rename_i e he
      cases h
      exact List.mem_of_find?_eq_some he
    · exact cpick_mem h

/-! how long -/
theorem cwords_tot : ∀ (l cur : List UInt8), llTot (wordsGo cur l) ≤ cur.length + l.length + 1
  | [], cur => by
    rw [wordsGo]
    split
    · simp [llTot]
    · simp only [llTot, List.length_nil]; omega
  | c :: r, cur => by
    have h1 := cwords_tot r []
    have h2 := cwords_tot r (cur ++ [c])
    rw [List.length_append] at h2
    simp only [List.length_nil, List.length_cons] at h1 h2
    rw [wordsGo]
    split
    · split
      · simp only [List.length_cons]; omega
      · simp only [llTot, List.length_cons]; omega
    · simp only [List.length_cons]; omega

theorem csplit_tot (sep : UInt8) : ∀ l cur : List UInt8, llTot (splitGo sep cur l) = cur.length + l.length + 1
  | [], cur => by simp only [splitGo, llTot, List.length_nil]; omega
  | c :: r, cur => by
    rw [splitGo]
    split
    · simp only [llTot, csplit_tot sep r [], List.length_cons, List.length_nil]; omega
    · rw [csplit_tot sep r (cur ++ [c])]
      simp only [List.length_append, List.length_cons, List.length_nil]
      omega

/-- Bytes of a directive, one more for each text. -/
def dirN (d : DirM) : Nat := llTot (d.cdn :: d.cdl)

def dirsN : List DirM → Nat
  | [] => 0
  | d :: r => dirN d + dirsN r

theorem dirsN_app : ∀ a b : List DirM, dirsN (a ++ b) = dirsN a + dirsN b
  | [], b => by simp [dirsN]
  | d :: r, b => by simp only [List.cons_append, dirsN, dirsN_app r b]; omega

theorem dirsN_mem : ∀ {ds : List DirM} {d : DirM}, d ∈ ds → dirN d ≤ dirsN ds
  | e :: r, d, h => by
    simp only [dirsN]
    rcases List.mem_cons.1 h with rfl | h
    · omega
    · have := dirsN_mem h; omega

theorem dirsN_len : ∀ ds : List DirM, ds.length ≤ dirsN ds
  | [] => Nat.zero_le _
  | d :: r => by have := dirsN_len r; simp only [dirsN, List.length_cons, dirN, llTot]; omega

theorem dirO_tot {p : List UInt8} {d : DirM} (h : dirO p = some d) : dirN d ≤ p.length + 1 := by
  obtain ⟨_, x, r, hw, rfl⟩ := dirO_some h
  have h1 := cwords_tot p []
  have h2 : (lowL x).length = x.length := by unfold lowL; rw [List.length_map]
  unfold wordsL at hw
  rw [hw] at h1
  unfold dirN
  simp only [llTot, List.length_nil] at h1 ⊢
  omega

theorem cadd_tot (out : List DirM) (p : List UInt8) : dirsN (caddD out p) ≤ dirsN out + p.length + 1 := by
  cases hd : dirO p with
  | none => rw [cadd_none hd]; omega
  | some d =>
    cases hm : cmetB out d.cdn with
    | true => rw [cadd_met hd hm]; omega
    | false =>
      rw [cadd_new hd hm, dirsN_app]
      have := dirO_tot hd
      simp only [dirsN]
      omega

theorem cfold_tot : ∀ (ps : List (List UInt8)) (out : List DirM), dirsN (ps.foldl caddD out) ≤ dirsN out + llTot ps
  | [], out => by simp
  | p :: r, out => by
    have h1 := cfold_tot r (caddD out p)
    have h2 := cadd_tot out p
    rw [List.foldl_cons]
    simp only [llTot]
    omega

theorem cspP_tot (ps : List (List UInt8)) : dirsN (cspP ps) ≤ llTot ps := by
  have h := cfold_tot ps []
  simp only [dirsN] at h
  unfold cspP
  omega

theorem csp_tot (l : List UInt8) : dirsN (cspL l) ≤ l.length + 1 := by
  have h1 := cspP_tot (splitL l 59)
  have h2 := csplit_tot 59 l []
  unfold splitL at h1
  rw [h2] at h1
  unfold cspL splitL
  simp only [List.length_nil] at h1
  omega

theorem dirT_len : ∀ d : DirM, (dirT d).length + 1 = dirN d := by
  intro d
  unfold dirT dirN
  rw [List.length_append]
  simp only [llTot]
  have : ∀ xs : List (List UInt8), (xs.flatMap (fun x => 32 :: x)).length = llTot xs := by
    intro xs
    induction xs with
    | nil => rfl
    | cons x r ih => rw [List.flatMap_cons, List.length_append, ih]; simp only [List.length_cons, llTot]; omega
  rw [this]
  omega

theorem cspT_len : ∀ ds : List DirM, (cspT ds).length ≤ 2 * dirsN ds
  | [] => Nat.zero_le _
  | d :: r => by
    have h1 := dirT_len d
    have h2 : (r.flatMap (fun e => 59 :: 32 :: dirT e)).length ≤ 2 * dirsN r := by
      clear h1
      induction r with
      | nil => exact Nat.zero_le _
      | cons e t ih =>
        have h3 := dirT_len e
        rw [List.flatMap_cons, List.length_append]
        simp only [List.length_cons, dirsN]
        have : 1 ≤ dirN e := by unfold dirN llTot; omega
        omega
    unfold cspT
    rw [List.length_append]
    simp only [dirsN]
    omega

theorem cspT_take (ds : List DirM) (k : Nat) : (cspT (ds.take k)).length ≤ 2 * dirsN ds := by
  have h1 := cspT_len (ds.take k)
  have h2 : dirsN (ds.take k) ≤ dirsN ds := by
    have := dirsN_app (ds.take k) (ds.drop k)
    rw [List.take_append_drop] at this
    omega
  omega

end Go.Proofs.Ytceajdpjablfiaa
