/- Contracts: the code's Crash. -/
import Derived.BigRegion
import Derived.Deep.RegionHeld3
import Derived.Maps.OwnSet
import Derived.Test.YtfiocghgjjandaaProg
import Derived.Test.YtfiocghgjjandaaKit
import Derived.Test.YtfiocghgjjandaaRow
import Derived.Test.YtfiocghgjjandaaFp
import Derived.Test.YtfiocghgjjandaaRdk0
import Derived.Test.YtfiocghgjjandaaDsk0
import Derived.Test.YtfiocghgjjandaaDsk2
import Derived.Test.YtfiocghgjjandaaDsk4
import Derived.Test.YtfiocghgjjandaaDsk6
namespace Go.Proofs.Ytfiocghgjjandaa
open Go.RowKit Go.Proofs Go.Maps

/-- What a crash leaves. -/
def lastM (f : FileM) (q : Nat) : FileM := ⟨f.name, f.b.take (f.syn + q), f.syn + q⟩

def crashL : List FileM → List Int → List FileM
  | [], _ => []
  | f :: r, ps => if f.syn < f.b.length then (match ps with
      | [] => lastM f 0 :: crashL r []
      | p :: q => lastM f (p % ((f.b.length - f.syn + 1 : Nat) : Int)).toNat :: crashL r q) else lastM f 0 :: crashL r ps

def crashM (D : CodM) (ps : List Int) : CodM := ⟨D.room, crashL D.fs ps, 0, false, 0⟩

theorem crashL_skip {f : FileM} {r : List FileM} {ps : List Int} (h : ¬ f.syn < f.b.length) : crashL (f :: r) ps = lastM f 0 :: crashL r ps := by
  unfold crashL
  rw [if_neg h]
  cases r <;> rfl

theorem crashL_none {f : FileM} {r : List FileM} : crashL (f :: r) [] = lastM f 0 :: crashL r [] := by
  by_cases h : f.syn < f.b.length
  · simp only [crashL, if_pos h]
  · simp only [crashL, if_neg h]

theorem crashL_take {f : FileM} {r : List FileM} {p : Int} {q : List Int} (h : f.syn < f.b.length) : crashL (f :: r) (p :: q) = lastM f (p % ((f.b.length - f.syn + 1 : Nat) : Int)).toNat :: crashL r q := by rw [crashL, if_pos h]

theorem insM_last {x : FileM} : ∀ {fs : List FileM}, (∀ f ∈ fs, bytesBefore f.name x.name = true) → insM x fs = fs ++ [x]
  | [], _ => rfl
  | y :: r, h => by
    unfold insM
    have hb : bytesBefore x.name y.name = false := by
      cases hq : bytesBefore x.name y.name with
      | false => rfl
      | true =>
        have := bef_trans hq (h y (by simp))
        rw [bef_irr] at this
        cases this
    rw [hb, if_neg (by decide), insM_last (fun f hf => h f (by simp [hf]))]
    rfl

theorem putM_last {x : FileM} {fs : List FileM} (h : ∀ f ∈ fs, bytesBefore f.name x.name = true) : putM x fs = fs ++ [x] := by
  unfold putM
  rw [dropM_none (fun f hf e => by have := h f hf; rw [e, bef_irr] at this; cases this)]
  exact insM_last h

/-- A crash under way: k files are done, the picks ps are left. -/
def CrashI (fs : List FileM) (ps0 : List Int) (k : Nat) (ps : List Int) (done : List FileM) : Prop :=
  crashL fs ps0 = done ++ crashL (fs.drop k) ps ∧ done.map (·.name) = (fs.take k).map (·.name)

theorem crashI_next {fs : List FileM} {ps0 ps ps' : List Int} {k : Nat} {done : List FileM} {f : FileM} {q : Nat} (h : CrashI fs ps0 k ps done) (hf : fs[k]? = some f) (hn : crashL (f :: fs.drop (k + 1)) ps = lastM f q :: crashL (fs.drop (k + 1)) ps') :
    CrashI fs ps0 (k + 1) ps' (done ++ [lastM f q]) := by
  have hd : fs.drop k = f :: fs.drop (k + 1) := by
    obtain ⟨hk, rfl⟩ := List.getElem?_eq_some_iff.1 hf
    exact List.drop_eq_getElem_cons hk
  refine ⟨?_, ?_⟩
  · rw [h.1, hd, hn, List.append_assoc]
    rfl
  · rw [List.map_append, h.2, take_succ_of hf, List.map_append]
    rfl

theorem crashI_put {fs : List FileM} {ps0 ps : List Int} {k : Nat} {done : List FileM} {f : FileM} {q : Nat} (h : CrashI fs ps0 k ps done) (hs : SortM fs) (hf : fs[k]? = some f) : putM (lastM f q) done = done ++ [lastM f q] := by
  refine putM_last (fun y hy => ?_)
  have hy2 : y.name ∈ done.map (·.name) := List.mem_map.2 ⟨y, hy, rfl⟩
  rw [h.2] at hy2
  obtain ⟨z, hz, hzn⟩ := List.mem_map.1 hy2
  obtain ⟨j, hj, rfl⟩ := List.getElem_of_mem hz
  obtain ⟨hk, rfl⟩ := List.getElem?_eq_some_iff.1 hf
  rw [List.length_take] at hj
  rw [List.getElem_take] at hzn
  show bytesBefore y.name (fs[k]).name = true
  rw [← hzn]
  exact List.pairwise_iff_getElem.1 hs j k (by omega) hk (by omega)

/-- The new disk under way. -/
def NewAt (w wr : World) (g : Nat) (room : Int) (fs : List FileM) : Prop :=
  ∃ mv rs, Rw wr 0 g 47 [.int .i64 room, mv, .int .i64 0, .bool false, .int .i64 0] ∧ FilesAt wr (fun k => w.heap.size ≤ k) mv rs ∧ rs.map (·.f) = fs

theorem newAt_keep {w w1 w2 : World} {g : Nat} {room : Int} {fs : List FileM} (h : NewAt w w1 g room fs) (hb : Below w1.heap.size w1 w2) : NewAt w w2 g room fs := by
  obtain ⟨mv, rs, hr, hfs, hD⟩ := h
  exact ⟨mv, rs, Rw.below hr hb, filesAt_keep hfs (kept_below (F := fun _ => False) hb) (fun _ hk => hk.elim), hD⟩

/-- The end of a round: a new file into the new disk. -/
theorem new_put {w w0 w1 : World} {g : Nat} {room : Nat} {fs : List FileM} {f : FileM} {s : ByteArray} {v : Value} (h : NewAt w w0 g room fs) (hb : Below w0.heap.size w0 w1) (hg : w.heap.size ≤ g) (hk0 : Kept (fun _ => False) w w0) (ho : w1.ownsRow w0.heap.size 5 1 v f.b.length (f.b.map byteV))
    (hsyn : f.syn ≤ f.b.length) (hs : s.data.toList = f.name) (hm : s.size ≤ maxLen) (hn : fs.length < 1099511627776) :
    Calls Try.prog 37 #[.pointer (some ⟨g, 0, none⟩), .string s, .pointer (some ⟨w1.heap.size, 0, none⟩)] (w1.alloc (.cells #[v, .int .i64 f.syn] 78)) fun e w' =>
      e = .returned (.tuple #[]) ∧ NewAt w w' g room (putM f fs) ∧ Kept (fun _ => False) w w' ∧ ∀ (u : Value) (n : Nat) (xs : List Value), w0.ownsRow w.heap.size 9 1 u n xs → w'.ownsRow w.heap.size 9 1 u n xs := by
  obtain ⟨mv, rs, hr0, hfs0, hD⟩ := h
  have hk : Kept (fun _ => False) w w1 := kept_trans hk0 (kept_below hb)
  have hsz := hk.size
  have hr := Rw.below hr0 hb
  have hfs := filesAt_keep hfs0 (kept_below (F := fun _ => False) hb) (fun _ hk => hk.elim)
  obtain ⟨w2, hw2⟩ : ∃ w2, w2 = w1.alloc (.cells #[v, .int .i64 f.syn] 78) := ⟨_, rfl⟩
  have hk2 : Kept (fun _ => False) w1 w2 := by rw [hw2]; exact kept_alloc (kept_refl _ _) _
  have hb2 : Below w1.heap.size w1 w2 := below_kept hk2
  have hr2 := rw_kept hr hk2 (fun h => h)
  have hfs2 := filesAt_keep hfs hk2 (fun _ hk => hk.elim)
  have hrl : rs.length = fs.length := by have := congrArg List.length hD; simpa using this
  have hvb : ∀ k, v.ownBlock = some k → w0.heap.size ≤ k := fun k hk => by
    rcases ho.2 with ⟨rfl, _⟩ | ⟨g2, cap, cur, rfl, hb, _⟩
    · simp [Value.ownBlock] at hk
    · simp [Value.ownBlock] at hk
      omega
  have hx : RecAt w2 (fun k => w.heap.size ≤ k) ⟨f, w1.heap.size, v⟩ :=
    ⟨hsz, by rw [hw2]; exact Rw.alloc w1 _ _ (Nat.zero_le _), ⟨own_mono (own_below ho hb2) (Nat.zero_le _), fun k hk => Nat.le_trans hk0.size (hvb k hk)⟩, hsyn⟩
  have hap : ∀ y ∈ rs, ApartR ⟨f, w1.heap.size, v⟩ y := fun y hy => by
    refine ⟨fun e => ?_, fun k hk2 hk3 => ?_⟩
    · have := Rw.size (hfs.2.2.1 y hy).2.1
      simp only at e
      omega
    · have h1 := ownF_blk (hfs0.2.2.1 y hy).2.2.1 hk3
      have h2 := hvb k hk2
      omega
  rw [← hw2]
  refine (dput_any g room mv 0 false 0 rs ⟨f, w1.heap.size, v⟩ s w2 hr2 hfs2.1 hs hm (by omega)).mono ?_
  rintro e w3 ⟨rfl, hd⟩
  have hk3 : Kept (fun k => k = g ∨ mv = .map (some k)) w2 w3 := by obtain ⟨_, _, _, _, h⟩ := hd; exact h
  obtain ⟨b, hr3, hfs3, _⟩ := filesAt_put hfs2 hr2 hx hap hd
  refine ⟨rfl, ⟨_, _, hr3, filesAt_more hfs3 (fun k hk => hk.elim id (fun h => Nat.le_trans hsz (Nat.le_trans hb2.size h))), by rw [putR_f, hD]⟩, kept_then (kept_then hk hk2 (fun _ h => h.elim)) hk3 (fun k hk => .inr ?_), fun u n xs hu => ?_⟩
  · rcases hk with rfl | hk
    · exact hg
    · exact hfs.2.1 k hk
  · have hu2 := own_below (own_below hu hb) hb2
    refine ⟨hu2.1, ?_⟩
    rcases hu2.2 with h | ⟨g2, cap, cur, rfl, hb, hh, r⟩
    · exact .inl h
    · refine .inr ⟨g2, cap, cur, rfl, hb, ?_, r⟩
      have hlt : g2 < w2.heap.size := (Array.getElem?_eq_some_iff.1 hh).1
      rw [hk3.blk g2 hlt (fun h => ?_)]
      · exact hh
      · rcases h with h | h
        · exact own_type hu2 hr2 (by decide) (by rw [h]; rfl)
        · exact map_own (mapV_lt hfs2.1 h).1 (own_mono hu2 (Nat.zero_le _)) rfl

end Go.Proofs.Ytfiocghgjjandaa
