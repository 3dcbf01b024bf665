/- Contracts: the code's Copy. -/
import Derived.BigRegion
import Derived.Deep.RegionHeld3
import Derived.Maps.OwnSet
import Derived.Test.YtfiocghgjjandaaProg
import Derived.Test.YtfiocghgjjandaaKit
import Derived.Test.YtfiocghgjjandaaRow
import Derived.Test.YtfiocghgjjandaaFp
import Derived.Test.YtfiocghgjjandaaRdk0
import Derived.Test.YtfiocghgjjandaaDsk0
import Derived.Test.YtfiocghgjjandaaDsk2
import Derived.Test.YtfiocghgjjandaaDsk3
import Derived.Test.YtfiocghgjjandaaDsk6
namespace Go.Proofs.Ytfiocghgjjandaa
open Go.RowKit Go.Proofs Go.Maps

/-- A copy under way. -/
def TwinAt (w wr : World) (g : Nat) (D : CodM) (fs : List FileM) : Prop :=
  ∃ mv rs, Rw wr 0 g 47 [.int .i64 D.room, mv, .int .i64 D.ops, .bool D.cut, .int .i64 D.left] ∧ FilesAt wr (fun k => w.heap.size ≤ k) mv rs ∧ rs.map (·.f) = fs

theorem twinAt_keep {w w1 w2 : World} {g : Nat} {D : CodM} {fs : List FileM} (h : TwinAt w w1 g D fs) (hb : Below w1.heap.size w1 w2) : TwinAt w w2 g D fs := by
  obtain ⟨mv, rs, hr, hfs, hD⟩ := h
  exact ⟨mv, rs, Rw.below hr hb, filesAt_keep hfs (kept_below (F := fun _ => False) hb) (fun _ hk => hk.elim), hD⟩

theorem rangeV_lt {w : World} {r : Nat} {mv : Value} {rs : List Rec} {left : Lit → Bool} {cnt : Nat} (h : RangeV w r mv rs left cnt) : ∃ m s q c, w.heap[r]? = some (.mapIter m s q c) := by
  rcases h with ⟨_, _, a, s, b, hh⟩ | ⟨b, _, h⟩
  · exact ⟨_, _, _, _, hh⟩
  · obtain ⟨es, clock, since, seen, c0, _, _, _, _, hr2, _⟩ := h
    exact ⟨_, _, _, _, hr2⟩

theorem twin_put {w w0 w1 : World} {g : Nat} {D : CodM} {fs : List FileM} {f : FileM} {s : ByteArray} {v : Value} {r : Nat} {mvd : Value} {rsd : List Rec} {left : Lit → Bool} {cnt : Nat} (h : TwinAt w w0 g D fs) (hb : Below w0.heap.size w0 w1) (hg : w.heap.size ≤ g) (hk0 : Kept (fun _ => False) w w0) (ho : w1.ownsRow w0.heap.size 5 1 v f.b.length (f.b.map byteV))
    (hsyn : f.syn ≤ f.b.length) (hs : s.data.toList = f.name) (hm : s.size ≤ maxLen) (hn : fs.length < 1099511627776) (hrg : RangeV w0 r mvd rsd left cnt) (hmd : ∀ b, mvd = .map (some b) → b < w.heap.size) :
    Calls Try.prog 37 #[.pointer (some ⟨g, 0, none⟩), .string s, .pointer (some ⟨w1.heap.size, 0, none⟩)] (w1.alloc (.cells #[v, .int .i64 f.syn] 78)) fun e w' =>
      e = .returned (.tuple #[]) ∧ TwinAt w w' g D (putM f fs) ∧ Kept (fun _ => False) w w' ∧ RangeV w' r mvd rsd left cnt := by
  obtain ⟨mv, rs, hr0, hfs0, hD⟩ := h
  have hk : Kept (fun _ => False) w w1 := kept_trans hk0 (kept_below hb)
  have hsz := hk.size
  have hr := Rw.below hr0 hb
  have hfs := filesAt_keep hfs0 (kept_below (F := fun _ => False) hb) (fun _ hk => hk.elim)
  obtain ⟨w2, hw2⟩ : ∃ w2, w2 = w1.alloc (.cells #[v, .int .i64 f.syn] 78) := ⟨_, rfl⟩
  have hk2 : Kept (fun _ => False) w1 w2 := by rw [hw2]; exact kept_alloc (kept_refl _ _) _
  have hb2 : Below w1.heap.size w1 w2 := below_kept hk2
  have hr2 := rw_kept hr hk2 (fun h => h)
  have hfs2 := filesAt_keep hfs hk2 (fun _ hk => hk.elim)
  have hrg2 : RangeV w2 r mvd rsd left cnt := rangeV_kept (rangeV_kept hrg (kept_below (F := fun _ => False) hb) (fun h => h) (fun _ _ h => h)) hk2 (fun h => h) (fun _ _ h => h)
  have hrl : rs.length = fs.length := by have := congrArg List.length hD; simpa using this
  have hvb : ∀ k, v.ownBlock = some k → w0.heap.size ≤ k := fun k hk => by
    rcases ho.2 with ⟨rfl, _⟩ | ⟨g2, cap, cur, rfl, hb, _⟩
    · simp [Value.ownBlock] at hk
    · simp [Value.ownBlock] at hk
      omega
  have hx : RecAt w2 (fun k => w.heap.size ≤ k) ⟨f, w1.heap.size, v⟩ :=
    ⟨hsz, by rw [hw2]; exact Rw.alloc w1 _ _ (Nat.zero_le _), ⟨own_mono (own_below ho hb2) (Nat.zero_le _), fun k hk => Nat.le_trans hk0.size (hvb k hk)⟩, hsyn⟩
  have hap : ∀ y ∈ rs, ApartR ⟨f, w1.heap.size, v⟩ y := fun y hy => by
    refine ⟨fun e => ?_, fun k hk2 hk3 => ?_⟩
    · have := Rw.size (hfs.2.2.1 y hy).2.1
      simp only at e
      omega
    · have h1 := ownF_blk (hfs0.2.2.1 y hy).2.2.1 hk3
      have h2 := hvb k hk2
      omega
  rw [← hw2]
  refine (dput_any g D.room mv D.ops D.cut D.left rs ⟨f, w1.heap.size, v⟩ s w2 hr2 hfs2.1 hs hm (by omega)).mono ?_
  rintro e w3 ⟨rfl, hd⟩
  have hk3 : Kept (fun k => k = g ∨ mv = .map (some k)) w2 w3 := by obtain ⟨_, _, _, _, h⟩ := hd; exact h
  obtain ⟨b, hr3, hfs3, _⟩ := filesAt_put hfs2 hr2 hx hap hd
  refine ⟨rfl, ⟨_, _, hr3, filesAt_more hfs3 (fun k hk => hk.elim id (fun h => Nat.le_trans hsz (Nat.le_trans hb2.size h))), by rw [putR_f, hD]⟩, kept_then (kept_then hk hk2 (fun _ h => h.elim)) hk3 (fun k hk => .inr ?_), rangeV_kept hrg2 hk3 (fun h => ?_) (fun b hb h => ?_)⟩
  · rcases hk with rfl | hk
    · exact hg
    · exact hfs.2.1 k hk
  · obtain ⟨m, a, q, c, hh⟩ := rangeV_lt hrg2
    rcases h with rfl | h
    · rw [hr2.2] at hh
      cases hh
    · obtain ⟨es, clock, hmb, _⟩ := (mapV_lt hfs2.1 h).1
      rw [hmb] at hh
      cases hh
  · have h1 := hmd b hb
    rcases h with rfl | h
    · omega
    · have := hfs2.2.1 b h
      omega

theorem mapV_map {w : World} {mv : Value} {rs : List Rec} (h : MapV w mv rs) : ∃ m, mv = .map m := by
  rcases h with ⟨h, _⟩ | ⟨b, h, _⟩
  · exact ⟨none, h⟩
  · exact ⟨some b, h⟩

/-- What is no longer to come, in its order. -/
def gone (lf : Lit → Bool) (rs : List Rec) : List FileM := (rs.filter (fun x => !lf (.string x.f.name))).map (·.f)

theorem gone_none {lf : Lit → Bool} {rs : List Rec} (h : ∀ x ∈ rs, lf (.string x.f.name) = true) : gone lf rs = [] := by
  unfold gone
  rw [List.filter_eq_nil_iff.2 (fun x hx => by simp [h x hx])]
  rfl

theorem gone_all {lf : Lit → Bool} {rs : List Rec} (h : ∀ x ∈ rs, lf (.string x.f.name) = false) : gone lf rs = rs.map (·.f) := by
  unfold gone
  rw [List.filter_eq_self.2 (fun x hx => by simp [h x hx])]

theorem gone_cons (lf : Lit → Bool) (y : Rec) (r : List Rec) : gone lf (y :: r) = if lf (.string y.f.name) then gone lf r else y.f :: gone lf r := by
  unfold gone
  rw [List.filter_cons]
  cases lf (.string y.f.name) <;> rfl

theorem gone_next {lf : Lit → Bool} {x : Rec} : ∀ {rs : List Rec}, SortM (rs.map (·.f)) → x ∈ rs → lf (.string x.f.name) = true → insM x.f (gone lf rs) = gone (fun z => lf z && !z.sameKey (.string x.f.name)) rs
  | y :: r, hs, hx, hl => by
    have hs2 := List.pairwise_cons.1 hs
    have hself : (Lit.string x.f.name).sameKey (.string x.f.name) = true := by show (x.f.name == x.f.name) = true; simp
    have hoth : ∀ z : Rec, z.f.name ≠ x.f.name → (Lit.string z.f.name).sameKey (.string x.f.name) = false := fun z hz => by
      show (z.f.name == x.f.name) = false
      rw [beq_eq_false_iff_ne]
      exact hz
    rw [gone_cons, gone_cons]
    rcases List.mem_cons.1 hx with rfl | hx
    · have hsame : gone (fun z => lf z && !z.sameKey (.string x.f.name)) r = gone lf r := by
        unfold gone
        congr 1
        apply List.filter_congr
        intro z hz
        have := bef_ne (hs2.1 z.f (List.mem_map.2 ⟨z, hz, rfl⟩))
        simp [hoth z (fun e => this e.symm)]
      rw [hsame, hl, hself]
      simp only [if_true, Bool.not_true, Bool.and_false]
      have hall : ∀ f ∈ gone lf r, bytesBefore x.f.name f.name = true := fun f hf => by
        unfold gone at hf
        obtain ⟨z, hz, rfl⟩ := List.mem_map.1 hf
        exact hs2.1 z.f (List.mem_map.2 ⟨z, (List.mem_filter.1 hz).1, rfl⟩)
      cases hg : gone lf r with
      | nil => rfl
      | cons a t =>
        unfold insM
        rw [if_pos (hall a (by rw [hg]; simp))]
        rfl
    · have hyx := hs2.1 x.f (List.mem_map.2 ⟨x, hx, rfl⟩)
      have ih := gone_next hs2.2 hx hl
      rw [hoth y (bef_ne hyx)]
      cases lf (.string y.f.name) with
      | true =>
        simp only [if_true, Bool.not_false, Bool.and_true]
        exact ih
      | false =>
        simp only [Bool.false_and]
        rw [if_neg (by decide), if_neg (by decide)]
        unfold insM
        have hb : bytesBefore x.f.name y.f.name = false := by
          cases hq : bytesBefore x.f.name y.f.name with
          | false => rfl
          | true =>
            have := bef_trans hq hyx
            rw [bef_irr] at this
            cases this
        rw [hb, if_neg (by decide), ih]

theorem gone_put {lf : Lit → Bool} {x : Rec} {rs : List Rec} (hs : SortM (rs.map (·.f))) (hx : x ∈ rs) (hl : lf (.string x.f.name) = true) : putM x.f (gone lf rs) = gone (fun z => lf z && !z.sameKey (.string x.f.name)) rs := by
  unfold putM
  rw [dropM_none, gone_next hs hx hl]
  intro f hf e
  unfold gone at hf
  obtain ⟨z, hz, rfl⟩ := List.mem_map.1 hf
  have h1 := (List.mem_filter.1 hz).2
  rw [e, hl] at h1
  cases h1

theorem gone_len (lf : Lit → Bool) (rs : List Rec) : (gone lf rs).length ≤ rs.length := by
  unfold gone
  rw [List.length_map]
  exact List.length_filter_le _ _

end Go.Proofs.Ytfiocghgjjandaa
