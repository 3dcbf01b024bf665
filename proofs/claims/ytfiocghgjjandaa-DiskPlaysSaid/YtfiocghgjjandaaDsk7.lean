/- Contracts: the code's Append. -/
import Derived.BigRegion
import Derived.Deep.RegionHeld3
import Derived.Maps.OwnSet
import Derived.Test.YtfiocghgjjandaaProg
import Derived.Test.YtfiocghgjjandaaKit
import Derived.Test.YtfiocghgjjandaaRow
import Derived.Test.YtfiocghgjjandaaCod5
import Derived.Test.YtfiocghgjjandaaFp
import Derived.Test.YtfiocghgjjandaaRdk0
import Derived.Test.YtfiocghgjjandaaDsk0
import Derived.Test.YtfiocghgjjandaaDsk1
import Derived.Test.YtfiocghgjjandaaDsk4
import Derived.Test.YtfiocghgjjandaaDsk5
import Derived.Test.YtfiocghgjjandaaDsk6
namespace Go.Proofs.Ytfiocghgjjandaa
open Go.RowKit Go.Proofs Go.Maps

def tickM (D : CodM) : CodM := ⟨D.room, D.fs, D.ops + 1, D.cut, if D.cut then D.left - 1 else D.left⟩

def goesM (D : CodM) : Bool := !D.cut || decide (D.left ≠ 0)

def addM (fs : List FileM) (s m : List UInt8) : List FileM := match findM fs s with | none => putM ⟨s, m, 0⟩ fs | some f => setM s (fun _ => ⟨s, f.b ++ m, f.syn⟩) fs

def fullM (D : CodM) (s : List UInt8) (n : Nat) : Bool := ((findM D.fs s).isNone && decide (64 ≤ D.fs.length)) || !decide (sizeM D.fs + n ≤ D.room)

def withM (D : CodM) (fs : List FileM) : CodM := ⟨D.room, fs, D.ops, D.cut, D.left⟩

def appM (D : CodM) (s m : List UInt8) : Int × CodM :=
  if goesM D = false then (6, tickM D) else if nameB s = false then (1, tickM D) else if fullM D s m.length = true then (3, tickM D) else (0, withM (tickM D) (addM D.fs s m))

def CodOk (D : CodM) : Prop := D.room < 1099511627776 ∧ sizeM D.fs ≤ D.room ∧ D.ops < 4611686018427387904 ∧ D.left < 9223372036854775808 ∧ D.fs.length < 1099511627776

/-- What a call on a disk leaves. -/
def CodV (w w' : World) (F : Nat → Prop) (g : Nat) (D : CodM) : Prop := CodAt w' (Up F w.heap.size) g D ∧ Kept F w w'

theorem setM_ins {s : List UInt8} {x y : FileM} (hx : x.name = s) (hy : y.name = s) : ∀ {fs : List FileM}, (∀ f ∈ fs, f.name ≠ s) → setM s (fun _ => y) (insM x fs) = insM y fs
  | [], _ => by simp [insM, setM, hx]
  | f :: r, h => by
    have hf : f.name ≠ s := h f (by simp)
    have ih := setM_ins hx hy (fs := r) (fun f hf => h f (by simp [hf]))
    have hr : setM s (fun _ => y) r = r := by
      unfold setM
      refine (List.map_congr_left (fun f hf => ?_)).trans (List.map_id r)
      rw [if_neg (h f (by simp [hf]))]
      rfl
    unfold insM
    rw [hx, hy]
    split
    · unfold setM at hr ⊢
      simp only [List.map_cons, hx, if_true, if_neg hf, hr]
    · unfold setM at ih ⊢
      simp only [List.map_cons, if_neg hf, ih]

theorem setM_put {s b m : List UInt8} {i : Nat} {fs : List FileM} : setM s (fun _ => ⟨s, m, i⟩) (putM ⟨s, b, i⟩ fs) = putM ⟨s, m, i⟩ fs :=
  setM_ins (x := ⟨s, b, i⟩) (y := ⟨s, m, i⟩) rfl rfl (fun _ hf => (dropM_mem.1 hf).2)

theorem Try.infoFile : (Try.prog.info? 78).map (fun i => (i.zero, i.size)) = some (some (.agg #[.slice none 0 0, .int .i64 0]), 2) := by kernel_rfl

theorem putR_self (x : Rec) (rs : List Rec) : x ∈ putR x rs := insR_mem.2 (.inl rfl)

theorem findR_none_f {rs : List Rec} {fs : List FileM} {s : List UInt8} (hf : rs.map (·.f) = fs) (h : findR rs s = none) : findM fs s = none := by rw [← hf, ← findR_f, h]; rfl

theorem findR_some_f {rs : List Rec} {fs : List FileM} {s : List UInt8} {x : Rec} (hf : rs.map (·.f) = fs) (h : findR rs s = some x) : findM fs s = some x.f := by rw [← hf, ← findR_f, h]; rfl

/-- Behind performs. -/
theorem perf_any (F : Nat → Prop) (g : Nat) (D : CodM) (w : World) (mv : Value) (rs : List Rec) (hF : F g) (hr : Rw w 0 g 47 [.int .i64 D.room, mv, .int .i64 D.ops, .bool D.cut, .int .i64 D.left]) (hfs : FilesAt w F mv rs) (hok : CodOk D) :
    Calls Try.prog 34 #[.pointer (some ⟨g, 0, none⟩)] w fun e w' => e = .returned (.bool (goesM D)) ∧
      Rw w' 0 g 47 [.int .i64 D.room, mv, .int .i64 (tickM D).ops, .bool D.cut, .int .i64 (tickM D).left] ∧ FilesAt w' F mv rs ∧ Kept F w w' := by
  refine (performs_any g D.room mv D.ops D.cut D.left w hr hok.2.2.1 hok.2.2.2.1).mono ?_
  rintro e w1 ⟨rfl, hr1, hk1⟩
  refine ⟨rfl, hr1, filesAt_keep hfs hk1 (fun k hk => .inr ⟨_, hk ▸ hr⟩), kept_mono hk1 (fun k hk => .inl (hk ▸ hF))⟩

theorem codAt_of {w : World} {F : Nat → Prop} {g : Nat} {D : CodM} {mv : Value} {rs : List Rec} (hF : F g) (hr : Rw w 0 g 47 [.int .i64 D.room, mv, .int .i64 D.ops, .bool D.cut, .int .i64 D.left]) (hfs : FilesAt w F mv rs) (hD : rs.map (·.f) = D.fs) : CodAt w F g D := ⟨hF, mv, rs, hr, hfs, hD⟩

theorem codV_same {w w1 w2 : World} {F : Nat → Prop} {g : Nat} {D : CodM} {mv : Value} {rs : List Rec} (hF : F g) (hr : Rw w1 0 g 47 [.int .i64 D.room, mv, .int .i64 D.ops, .bool D.cut, .int .i64 D.left]) (hfs : FilesAt w1 F mv rs) (hD : rs.map (·.f) = D.fs) (hk : Kept F w w1) (hb : Below w1.heap.size w1 w2) : CodV w w2 F g D :=
  ⟨codAt_more (codAt_of hF (Rw.below hr hb) (filesAt_keep hfs (kept_below (F := fun _ => False) hb) (fun _ hk => hk.elim)) hD) (fun _ hk => .inl hk), kept_trans hk (kept_below hb)⟩

theorem filesAt_cells {w : World} {F : Nat → Prop} {mv : Value} {rs : List Rec} (h : FilesAt w F mv rs) : CellsOf w rs := fun x hx => by
  obtain ⟨_, hr, ho, _⟩ := h.2.2.1 x hx
  obtain ⟨a, c, hu⟩ := own_len ho.1
  exact ⟨a, c, by rw [← hu]; exact hr.cell rfl⟩

/-- Append's end: the parts go behind a file that is there. -/
theorem app_add {F : Nat → Prop} {g : Nat} {mv : Value} {rs : List Rec} {x : Rec} {room : Nat} {o1 l1 : Nat} {cut : Bool} {m : List UInt8} {w w1 w2 : World} (hF : F g) (hr : Rw w1 0 g 47 [.int .i64 room, mv, .int .i64 o1, .bool cut, .int .i64 l1]) (hfs : FilesAt w1 F mv rs)
    (hx : x ∈ rs) (ha : AddV w1 w2 x.g x.u x.f.syn m) (hle : x.f.b.length ≤ m.length) (hb : w.heap.size ≤ w1.heap.size) :
    CodAt w2 (Up F w.heap.size) g ⟨room, setM x.f.name (fun _ => ⟨x.f.name, m, x.f.syn⟩) (rs.map (·.f)), o1, cut, l1⟩ ∧ Kept F w1 w2 := by
  obtain ⟨u, hr2, ho2, hk2, hu2⟩ := ha
  have hX := hfs.2.2.1 x hx
  have hset := filesAt_set hfs hx hk2 hr2 ho2 hu2 (Nat.le_trans hX.2.2.2 hle)
  refine ⟨⟨.inl hF, mv, _, rw_kept hr hk2 (fun hg => ?_), filesAt_more hset (fun k hk => hk.elim .inl (fun h => .inr (Nat.le_trans hb h))), ?_⟩, kept_mono hk2 (fun k hk => ?_)⟩
  · rcases hg with hg | hg
    · exact rw_type hX.2.1 hr (by decide) hg.symm
    · exact own_type hX.2.2.1.1 hr (by decide) hg
  · rw [setR_f]
  · rcases hk with rfl | hk
    · exact .inl hX.1
    · exact .inl (hX.2.2.1.2 k hk)

end Go.Proofs.Ytfiocghgjjandaa
