/- The code's disk in memory: what each write leaves. -/
import Derived.Deep.MidRow
import Derived.Test.YtfiocghgjjandaaKit
import Derived.Test.YtfiocghgjjandaaRow
import Derived.Test.YtfiocghgjjandaaFp
import Derived.Test.YtfiocghgjjandaaRdk0
import Derived.Test.YtfiocghgjjandaaDsk0
import Derived.Test.YtfiocghgjjandaaDsk2
import Derived.Test.YtfiocghgjjandaaDsk4
namespace Go.Proofs.Ytfiocghgjjandaa
open Go.RowKit Go.Proofs Go.Maps

def Up (F : Nat → Prop) (B : Nat) : Nat → Prop := fun k => F k ∨ B ≤ k

def RecAt (w : World) (F : Nat → Prop) (x : Rec) : Prop :=
  F x.g ∧ Rw w 0 x.g 78 [x.u, .int .i64 x.f.syn] ∧ OwnF w F 5 1 x.u x.f.b.length (x.f.b.map byteV) ∧ x.f.syn ≤ x.f.b.length

def ApartR (a b : Rec) : Prop := a.g ≠ b.g ∧ ∀ k, a.u.ownBlock = some k → b.u.ownBlock ≠ some k

theorem apartR_symm {a b : Rec} (h : ApartR a b) : ApartR b a := ⟨fun e => h.1 e.symm, fun k hk h2 => h.2 k h2 hk⟩

def FilesAt (w : World) (F : Nat → Prop) (mv : Value) (rs : List Rec) : Prop :=
  MapV w mv rs ∧ (∀ b, mv = .map (some b) → F b) ∧ (∀ x ∈ rs, RecAt w F x) ∧ rs.Pairwise ApartR ∧ SortM (rs.map (·.f))

structure CodM where
  room : Nat
  fs : List FileM
  ops : Nat
  cut : Bool
  left : Nat

def CodAt (w : World) (F : Nat → Prop) (g : Nat) (D : CodM) : Prop :=
  F g ∧ ∃ mv rs, Rw w 0 g 47 [.int .i64 D.room, mv, .int .i64 D.ops, .bool D.cut, .int .i64 D.left] ∧ FilesAt w F mv rs ∧ rs.map (·.f) = D.fs

theorem recAt_more {w : World} {F G : Nat → Prop} {x : Rec} (h : RecAt w F x) (hG : ∀ k, F k → G k) : RecAt w G x := ⟨hG _ h.1, h.2.1, ownF_more h.2.2.1 hG, h.2.2.2⟩

theorem filesAt_more {w : World} {F G : Nat → Prop} {mv : Value} {rs : List Rec} (h : FilesAt w F mv rs) (hG : ∀ k, F k → G k) : FilesAt w G mv rs :=
  ⟨h.1, fun b hb => hG b (h.2.1 b hb), fun x hx => recAt_more (h.2.2.1 x hx) hG, h.2.2.2⟩

theorem codAt_more {w : World} {F G : Nat → Prop} {g : Nat} {D : CodM} (h : CodAt w F g D) (hG : ∀ k, F k → G k) : CodAt w G g D := by
  obtain ⟨hF, mv, rs, hr, hfs, hD⟩ := h
  exact ⟨hG _ hF, mv, rs, hr, filesAt_more hfs hG, hD⟩

theorem rw_type {w : World} {g g2 : Nat} {e1 e2 : TypeId} {c1 c2 : List Value} (h1 : Rw w 0 g e1 c1) (h2 : Rw w 0 g2 e2 c2) (he : e1 ≠ e2) : g ≠ g2 := by
  intro e
  subst e
  have := h1.2.symm.trans h2.2
  injection this with this
  injection this with _ h3 _
  exact he h3

theorem map_ne {w : World} {b g : Nat} {rs : List Rec} {e : TypeId} {cs : List Value} (h : MapAt w b rs) (h2 : Rw w 0 g e cs) : b ≠ g := by
  intro he
  subst he
  obtain ⟨es, clock, hb, _⟩ := h
  rw [h2.2] at hb
  cases hb

theorem map_own {w : World} {b : Nat} {rs : List Rec} {e : TypeId} {v : Value} {n : Nat} {xs : List Value} (h : MapAt w b rs) (h2 : w.ownsRow 0 e 1 v n xs) : v.ownBlock ≠ some b := by
  obtain ⟨es, clock, hb, _⟩ := h
  intro hv
  rcases h2.2 with ⟨rfl, _⟩ | ⟨g2, cap, cur, rfl, _, hh, _⟩
  · simp [Value.ownBlock] at hv
  · simp [Value.ownBlock] at hv
    subst hv
    rw [hb] at hh
    cases hh

theorem mapV_lt {w : World} {mv : Value} {rs : List Rec} (h : MapV w mv rs) {b : Nat} (hb : mv = .map (some b)) : MapAt w b rs ∧ b < w.heap.size := by
  subst hb
  rcases h with ⟨h, _⟩ | ⟨b2, h, hm⟩
  · cases h
  · cases h
    exact ⟨hm, World.ownsMap.lt hm⟩

theorem mapV_same {w w' : World} {mv : Value} {rs rs' : List Rec} (h : MapV w mv rs) (hrs : rs'.map entR = rs.map entR) (hb : ∀ b, mv = .map (some b) → w'.heap[b]? = w.heap[b]?) : MapV w' mv rs' := by
  have hl : rs'.length = rs.length := by have := congrArg List.length hrs; simpa using this
  rcases h with ⟨hm, rfl⟩ | ⟨b, hm, h⟩
  · exact .inl ⟨hm, List.eq_nil_of_length_eq_zero (by simpa using hl)⟩
  · have := mapAt_same h (hb b hm)
    unfold MapAt at this
    exact .inr ⟨b, hm, by unfold MapAt; rw [hrs, hl]; exact this⟩

theorem recAt_keep {w w' : World} {F G : Nat → Prop} {x : Rec} (h : RecAt w F x) (hk : Kept G w w') (h1 : ¬ G x.g) (h2 : ∀ k, x.u.ownBlock = some k → ¬ G k) : RecAt w' F x :=
  ⟨h.1, rw_kept h.2.1 hk h1, ownF_keep h.2.2.1 hk h2, h.2.2.2⟩

/-- Blocks outside, and the disk's own, may turn. -/
theorem filesAt_keep {w w' : World} {F G : Nat → Prop} {mv : Value} {rs : List Rec} (h : FilesAt w F mv rs) (hk : Kept G w w') (hG : ∀ k, G k → ¬ F k ∨ ∃ cs, Rw w 0 k 47 cs) : FilesAt w' F mv rs := by
  have hrec : ∀ x ∈ rs, ¬ G x.g ∧ ∀ k, x.u.ownBlock = some k → ¬ G k := fun x hx => by
    have hx := h.2.2.1 x hx
    refine ⟨fun hg => ?_, fun k hk2 hg => ?_⟩
    · rcases hG _ hg with h1 | ⟨cs, h1⟩
      · exact h1 hx.1
      · exact rw_type hx.2.1 h1 (by decide) rfl
    · rcases hG _ hg with h1 | ⟨cs, h1⟩
      · exact h1 (hx.2.2.1.2 k hk2)
      · exact own_type hx.2.2.1.1 h1 (by decide) hk2
  refine ⟨mapV_same h.1 rfl (fun b hb => ?_), h.2.1, fun x hx => recAt_keep (h.2.2.1 x hx) hk (hrec x hx).1 (hrec x hx).2, h.2.2.2⟩
  obtain ⟨hm, hlt⟩ := mapV_lt h.1 hb
  refine hk.blk b hlt (fun hg => ?_)
  rcases hG _ hg with h1 | ⟨cs, h1⟩
  · exact h1 (h.2.1 b hb)
  · exact map_ne hm h1 rfl

/-- One file's row in place of another of its name. -/
def setR (s : List UInt8) (y : Rec) (rs : List Rec) : List Rec := rs.map (fun x => if x.f.name = s then y else x)

theorem setR_mem {s : List UInt8} {y z : Rec} {rs : List Rec} (h : z ∈ setR s y rs) : z = y ∨ (z ∈ rs ∧ z.f.name ≠ s) := by
  obtain ⟨x, hx, rfl⟩ := List.mem_map.1 h
  by_cases hn : x.f.name = s
  · rw [if_pos hn]; exact .inl rfl
  · rw [if_neg hn]; exact .inr ⟨hx, hn⟩

theorem setR_f (s : List UInt8) (y : Rec) (rs : List Rec) : (setR s y rs).map (·.f) = setM s (fun _ => y.f) (rs.map (·.f)) := by
  unfold setR setM
  rw [List.map_map, List.map_map]
  apply List.map_congr_left
  intro x _
  show (if x.f.name = s then y else x).f = if x.f.name = s then y.f else x.f
  split <;> rfl

theorem names_eq {rs : List Rec} (hs : SortM (rs.map (·.f))) {x z : Rec} (hx : x ∈ rs) (hz : z ∈ rs) (hn : x.f.name = z.f.name) : x = z := by
  unfold SortM at hs
  rw [List.pairwise_map] at hs
  rcases List.pairwise_iff_getElem.1 hs with hp
  obtain ⟨i, hi, rfl⟩ := List.getElem_of_mem hx
  obtain ⟨j, hj, rfl⟩ := List.getElem_of_mem hz
  rcases Nat.lt_trichotomy i j with h | rfl | h
  · exact absurd hn (bef_ne (hp i j hi hj h))
  · rfl
  · exact absurd hn.symm (bef_ne (hp j i hj hi h))

theorem setR_ent {s : List UInt8} {x y : Rec} {rs : List Rec} (hs : SortM (rs.map (·.f))) (hx : x ∈ rs) (hn : x.f.name = s) (hg : y.g = x.g) (hf : y.f.name = s) : (setR s y rs).map entR = rs.map entR := by
  unfold setR
  rw [List.map_map]
  apply List.map_congr_left
  intro z hz
  show entR (if z.f.name = s then y else z) = entR z
  split
  · rename_i h
    have := names_eq hs hx hz (hn.trans h.symm)
    subst this
    unfold entR
    rw [hg, hf, hn]
  · rfl

theorem setM_sort {s : List UInt8} {h : FileM → FileM} {fs : List FileM} (hs : SortM fs) (hn : ∀ f, f.name = s → (h f).name = s) : SortM (setM s h fs) := by
  unfold SortM setM at *
  rw [List.pairwise_map]
  have hname : ∀ f : FileM, (if f.name = s then h f else f).name = f.name := fun f => by
    split
    · rename_i e; rw [hn f e, e]
    · rfl
  exact hs.imp (fun {a b} hab => by rw [hname, hname]; exact hab)

theorem pair_set {p : Rec → Rec → Prop} {s : List UInt8} {y : Rec} (hsym : ∀ a b, p a b → p b a) : ∀ {rs : List Rec}, rs.Pairwise p → rs.Pairwise (fun a b => a.f.name ≠ b.f.name) → (∀ z ∈ rs, z.f.name ≠ s → p y z) → (setR s y rs).Pairwise p
  | [], _, _, _ => List.Pairwise.nil
  | x :: r, h, hd, hy => by
    have h2 := List.pairwise_cons.1 h
    have d2 := List.pairwise_cons.1 hd
    have ih := pair_set (s := s) (y := y) hsym h2.2 d2.2 (fun z hz => hy z (by simp [hz]))
    unfold setR at ih ⊢
    rw [List.map_cons]
    refine List.pairwise_cons.2 ⟨fun z hz => ?_, ih⟩
    obtain ⟨q, hq, rfl⟩ := List.mem_map.1 hz
    by_cases hx : x.f.name = s
    · have hqn : q.f.name ≠ s := fun e => d2.1 q hq (hx.trans e.symm)
      rw [if_pos hx, if_neg hqn]
      exact hy q (by simp [hq]) hqn
    · rw [if_neg hx]
      by_cases hqn : q.f.name = s
      · rw [if_pos hqn]
        exact hsym _ _ (hy x (by simp) hx)
      · rw [if_neg hqn]
        exact h2.1 q hq

theorem sortM_names {rs : List Rec} (hs : SortM (rs.map (·.f))) : rs.Pairwise (fun a b => a.f.name ≠ b.f.name) := by
  unfold SortM at hs
  rw [List.pairwise_map] at hs
  exact hs.imp (fun {a b} h => bef_ne h)

theorem filesAt_set {w w' : World} {F : Nat → Prop} {mv : Value} {rs : List Rec} {x : Rec} (h : FilesAt w F mv rs) (hx : x ∈ rs) (hk : Kept (fun k => k = x.g ∨ x.u.ownBlock = some k) w w') {m : List UInt8} {syn : Nat} {u : Value}
    (hr : Rw w' 0 x.g 78 [u, .int .i64 syn]) (ho : w'.ownsRow 0 5 1 u m.length (m.map byteV)) (hu : ∀ k, u.ownBlock = some k → x.u.ownBlock = some k ∨ w.heap.size ≤ k) (hsyn : syn ≤ m.length) :
    FilesAt w' (Up F w.heap.size) mv (setR x.f.name ⟨⟨x.f.name, m, syn⟩, x.g, u⟩ rs) := by
  have hX := h.2.2.1 x hx
  have hne : ∀ z ∈ rs, z.f.name ≠ x.f.name → ApartR x z := fun z hz hn => by
    have hp := h.2.2.2.1
    obtain ⟨i, hi, rfl⟩ := List.getElem_of_mem hx
    obtain ⟨j, hj, rfl⟩ := List.getElem_of_mem hz
    rcases Nat.lt_trichotomy i j with h | rfl | h
    · exact List.pairwise_iff_getElem.1 hp i j hi hj h
    · exact absurd rfl hn
    · exact apartR_symm (List.pairwise_iff_getElem.1 hp j i hj hi h)
  refine ⟨mapV_same h.1 (setR_ent h.2.2.2.2 hx rfl rfl rfl) (fun b hb => ?_), fun b hb => .inl (h.2.1 b hb), fun z hz => ?_, ?_, ?_⟩
  · obtain ⟨hm, hlt⟩ := mapV_lt h.1 hb
    refine hk.blk b hlt (fun hg => ?_)
    rcases hg with hg | hg
    · exact map_ne hm hX.2.1 hg
    · exact map_own hm hX.2.2.1.1 hg
  · rcases setR_mem hz with rfl | ⟨hz, hn⟩
    · refine ⟨.inl hX.1, hr, ⟨ho, fun k hk2 => ?_⟩, hsyn⟩
      rcases hu k hk2 with h1 | h1
      · exact .inl (hX.2.2.1.2 k h1)
      · exact .inr h1
    · have hZ := h.2.2.1 z hz
      have ha := hne z hz hn
      refine recAt_more (recAt_keep hZ hk (fun hg => ?_) (fun k hk2 hg => ?_)) (fun k hk2 => .inl hk2)
      · rcases hg with hg | hg
        · exact ha.1 hg.symm
        · exact own_type hX.2.2.1.1 hZ.2.1 (by decide) hg
      · rcases hg with hg | hg
        · subst hg
          exact own_type hZ.2.2.1.1 hX.2.1 (by decide) hk2
        · exact ha.2 k hg hk2
  · refine pair_set (fun a b => apartR_symm) h.2.2.2.1 (sortM_names h.2.2.2.2) (fun z hz hn => ?_)
    have ha := hne z hz hn
    refine ⟨ha.1, fun k hk2 hz2 => ?_⟩
    rcases hu k hk2 with h1 | h1
    · exact ha.2 k h1 hz2
    · have := ownF_blk (h.2.2.1 z hz).2.2.1 hz2
      omega
  · rw [setR_f]
    exact setM_sort h.2.2.2.2 (fun _ _ => rfl)

/-- One file more, or in the place of one of its name. -/
theorem filesAt_put {w w' : World} {F : Nat → Prop} {mv : Value} {rs : List Rec} {x : Rec} {gd : Nat} {cs : List Value} {room ops left : Int} {cut : Bool} (h : FilesAt w F mv rs) (hd : Rw w 0 gd 47 cs) (hx : RecAt w F x) (ha : ∀ y ∈ rs, ApartR x y)
    (hp : DputV w w' gd room mv ops cut left (putR x rs)) :
    ∃ b, Rw w' 0 gd 47 [.int .i64 room, .map (some b), .int .i64 ops, .bool cut, .int .i64 left] ∧ FilesAt w' (Up F w.heap.size) (.map (some b)) (putR x rs) ∧ Kept (fun k => k = gd ∨ F k) w w' := by
  obtain ⟨b, hb, hr, hm, hk⟩ := hp
  have hrec : ∀ y, RecAt w F y → RecAt w' (Up F w.heap.size) y := fun y hy => by
    refine recAt_more (recAt_keep hy hk (fun hg => ?_) (fun k hk2 hg => ?_)) (fun k hk2 => .inl hk2)
    · rcases hg with hg | hg
      · exact rw_type hy.2.1 hd (by decide) hg
      · exact map_ne (mapV_lt h.1 hg).1 hy.2.1 rfl
    · rcases hg with hg | hg
      · subst hg
        exact own_type hy.2.2.1.1 hd (by decide) hk2
      · exact map_own (mapV_lt h.1 hg).1 hy.2.2.1.1 hk2
  refine ⟨b, hr, ⟨.inr ⟨b, rfl, hm⟩, fun b2 hb2 => ?_, fun y hy => ?_, ?_, ?_⟩, ?_⟩
  · cases hb2
    rcases hb with hb | hb
    · exact .inl (h.2.1 b hb)
    · exact .inr hb
  · rcases putR_mem hy with rfl | ⟨hy, _⟩
    · exact hrec _ hx
    · exact hrec y (h.2.2.1 y hy)
  · exact insR_pair (fun a b => apartR_symm) (List.Pairwise.filter _ h.2.2.2.1) (fun y hy => ha y (dropR_mem.1 hy).1)
  · rw [putR_f]
    exact putM_sort h.2.2.2.2
  · refine ⟨hk.os, hk.tape, hk.output, hk.size, fun k hlt hn => hk.blk k hlt (fun hg => ?_)⟩
    rcases hg with hg | hg
    · exact hn (.inl hg)
    · exact hn (.inr (h.2.1 k hg))

/-- One file less. -/
theorem filesAt_drop {w w' : World} {F : Nat → Prop} {b : Nat} {rs : List Rec} {s : List UInt8} (h : FilesAt w F (.map (some b)) rs) (hm : MapAt w' b (dropR s rs)) (hk : Kept (fun k => k = b) w w') : FilesAt w' F (.map (some b)) (dropR s rs) := by
  obtain ⟨hM, _⟩ := mapV_lt h.1 rfl
  refine ⟨.inr ⟨b, rfl, hm⟩, h.2.1, fun y hy => ?_, List.Pairwise.filter _ h.2.2.2.1, ?_⟩
  · have hy := h.2.2.1 y (dropR_mem.1 hy).1
    refine recAt_keep hy hk (fun hg => map_ne hM hy.2.1 hg.symm) (fun k hk2 hg => ?_)
    subst hg
    exact map_own hM hy.2.2.1.1 hk2
  · rw [dropR_f]
    exact dropM_sort h.2.2.2.2

end Go.Proofs.Ytfiocghgjjandaa
