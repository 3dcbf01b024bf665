/- Ranging over a map of files; contracts: the code's add and holds. -/
import Derived.BigRegion
import Derived.Deep.RegionHeld3
import Derived.Maps.AppendAt
import Derived.Maps.RangeWalk
import Derived.Laws.IdiomRangeMap
import Derived.Test.YtfiocghgjjandaaProg
import Derived.Test.YtfiocghgjjandaaKit
import Derived.Test.YtfiocghgjjandaaRow
import Derived.Test.YtfiocghgjjandaaFp
import Derived.Test.YtfiocghgjjandaaRdk0
import Derived.Test.YtfiocghgjjandaaDsk0
namespace Go.Proofs.Ytfiocghgjjandaa
open Go.RowKit Go.Proofs Go.Maps

/-- 'for .. range m' under way: the map nil or a block. -/
def RangeV (w : World) (r : Nat) (mv : Value) (rs : List Rec) (left : Lit → Bool) (cnt : Nat) : Prop :=
  (mv = .map none ∧ rs = [] ∧ ∃ a s b, w.heap[r]? = some (.mapIter none a s b)) ∨ ∃ b, mv = .map (some b) ∧ w.ranges Try.prog 9 ptrR b r rs.length (.map (rs.map entR)) left cnt

def rangeCnt (w : World) (mv : Value) (r : Nat) : Nat := match mv with | .map (some b) => w.rangeLeft b r | _ => 0

theorem rangeV_kept {w w' : World} {r : Nat} {mv : Value} {rs : List Rec} {left : Lit → Bool} {cnt : Nat} {F : Nat → Prop} (h : RangeV w r mv rs left cnt) (hk : Kept F w w') (hr : ¬ F r) (hb : ∀ b, mv = .map (some b) → ¬ F b) : RangeV w' r mv rs left cnt := by
  rcases h with ⟨hm, hrs, a, s, b, hh⟩ | ⟨b, hm, h⟩
  · refine .inl ⟨hm, hrs, a, s, b, ?_⟩
    rw [hk.blk r (Array.getElem?_eq_some_iff.1 hh).1 hr]
    exact hh
  · have h1 := World.ownsMap.lt (World.ranges.owns h)
    have h2 := World.ranges.lt h
    obtain ⟨es, clock, since, seen, c0, hb2, F2, hs, hD, hr2, rest⟩ := h
    exact .inr ⟨b, hm, es, clock, since, seen, c0, (hk.blk b h1 (hb b hm)).trans hb2, F2, hs, hD, (hk.blk r h2 hr).trans hr2, rest⟩

theorem rangeV_cnt {w : World} {r : Nat} {mv : Value} {rs : List Rec} {left : Lit → Bool} {cnt : Nat} (h : RangeV w r mv rs left cnt) (hne : rs ≠ []) : rangeCnt w mv r = cnt := by
  rcases h with ⟨_, h, _⟩ | ⟨b, rfl, h⟩
  · exact absurd h hne
  · exact World.ranges.left_eq h

theorem next_nil_at (w : World) (r : Nat) (ty : TypeId) (a : Nat) (s : Array Nat) (b : Nat) (h : w.heap[r]? = some (.mapIter none a s b)) :
    (Instr.next (.pointer (some ⟨r, 0, none⟩)) false ty).run Try.prog w = .ok (.tuple #[.bool false]) w := by
  simp only [Instr.next, getObj, Sem.run_bind, Sem.run, h, Result.andThen]
  rfl

theorem wpList_range_v {ops : Array Oper} {rest : List Oper} {o : Oper} {a : Act} {w : World} {Q : Exit → Act → World → Prop} (hg : o.guard = none) (m : Operand) (hop : o.op = Op.range 45 m) (mv : Value) (rs : List Rec)
    (hm : a.eval m = mv) (hv : MapV w mv rs)
    (hK : ∀ w' cnt, RangeV w' w.heap.size mv rs (Maps.has (.map (rs.map entR))) cnt → w.grownBy w' none → w'.heap.size = w.heap.size + 1 → wpList Try.prog ops Q rest (a.put o.dst (.pointer (some ⟨w.heap.size, 0, none⟩))) w') :
    wpList Try.prog ops Q (o :: rest) a w := by
  rcases hv with ⟨rfl, rfl⟩ | ⟨b, rfl, hown⟩
  · refine wpList_plain hg fun K' hK' => ?_
    have hrun := run_range_nilMap (P := Try.prog) w 45 _ _ Try.underlying45
    unfold Oper.wp
    simp [execOp, hop, hm, hrun, Result.andThen]
    exact hK' _ _ (hK _ 0 (.inl ⟨rfl, rfl, 0, #[], 0, heap_alloc_new w _⟩) (World.grownBy_alloc w _ none) (by simp))
  · exact wpList_range_own w hg m _ hop 9 73 Try.keyS Try.underlying45 ptrR b rs.length (.map (rs.map entR)) hm hown (fun w' h1 h2 h3 => hK w' _ (.inr ⟨b, rfl, h1⟩) h2 h3)

def ptrV : Option Nat → Value
  | none => .pointer none
  | some g => .pointer (some ⟨g, 0, none⟩)

theorem ptrR_inv (v : Value) (y : DataW Unit × List MemPlace) (h : ptrR v = some y) : ∃ c, v = ptrV c := by
  unfold ptrR at h
  split at h
  · exact ⟨none, rfl⟩
  · exact ⟨some _, rfl⟩
  · cases h

theorem wpList_next_recs {ops : Array Oper} {rest : List Oper} {o : Oper} {a : Act} {w : World} {Q : Exit → Act → World → Prop} (hg : o.guard = none) (it : Operand) (hop : o.op = Op.next it false) (r : Nat) (mv : Value) (rs : List Rec) (left : Lit → Bool) (cnt : Nat)
    (hit : a.eval it = .pointer (some ⟨r, 0, none⟩)) (h : RangeV w r mv rs left cnt)
    (hDone : (∀ x ∈ rs, left (.string x.f.name) = false) → wpList Try.prog ops Q rest (a.put o.dst (.tuple #[.bool false])) w)
    (hMore : ∀ (x : Rec) (s : ByteArray) (w' : World) (cnt' : Nat), x ∈ rs → s.data.toList = x.f.name → s.size ≤ maxLen → left (.string x.f.name) = true → RangeV w' r mv rs (fun z => left z && !z.sameKey (.string x.f.name)) cnt' → cnt' < cnt →
      w.grownBy w' (some r) → w'.heap.size = w.heap.size → (Instr.entry (.pointer (some ⟨r, 0, none⟩))).run Try.prog w' = .ok (.tuple #[.string s, .pointer (some ⟨x.g, 0, none⟩)]) w' → wpList Try.prog ops Q rest (a.put o.dst (.tuple #[.bool true, .string s, .pointer (some ⟨x.g, 0, none⟩)])) w') :
    wpList Try.prog ops Q (o :: rest) a w := by
  rcases h with ⟨rfl, rfl, q, s, b, hh⟩ | ⟨b, rfl, h⟩
  · refine wpList_plain hg fun K' hK' => ?_
    have hrun := next_nil_at w r o.type q s b hh
    unfold Oper.wp
    simp [execOp, hop, hit, hrun, Result.andThen]
    exact hK' _ _ (hDone (fun x hx => by simp at hx))
  · refine wpList_next_ranges w hg it hop 9 Try.keyS ptrR Value.string ptrV (fun key kl hk => ?_) ptrR_inv b r rs.length _ left cnt hit h (fun _ h2 => hDone (fun x _ => h2 _)) ?_
    · obtain ⟨s, hs, _⟩ := WideMaps.string_of_keyOf Try.underlying9 hk
      exact ⟨s, hs⟩
    · intro s c kl y w' cnt' hk hl hR hat hrg hlt hgr hsz hen
      obtain ⟨s2, hs2, hkl, hs3⟩ := WideMaps.string_of_keyOf Try.underlying9 hk
      cases hs2
      subst hkl
      have ha := fun z => (entR_at s.data.toList z rs).symm.trans (hat z)
      cases hq : findR rs s.data.toList with
      | none =>
        have h1 := ha .nil
        have h2 := ha (.lit (.bool true))
        rw [hq] at h1 h2
        rw [← h1] at h2
        cases h2
      | some x =>
        have h1 := ha .nil
        rw [hq] at h1
        obtain ⟨hx, hxn⟩ := findR_some hq
        have hc : ptrV c = .pointer (some ⟨x.g, 0, none⟩) := by
          obtain ⟨y1, y2⟩ := y
          simp only at h1
          rw [← h1] at hR
          exact ptr_some hR
        rw [hc] at hen ⊢
        rw [← hxn] at hl hrg
        exact hMore x s w' cnt' hx hxn.symm hs3 hl (.inr ⟨b, rfl, hrg⟩) hlt hgr hsz hen

/-- The bytes of the files that are still to come. -/
def leftSum (left : Lit → Bool) (rs : List Rec) : Nat := ((rs.filter (fun x => left (.string x.f.name))).map (fun x => x.f.b.length)).sum

theorem leftSum_all {left : Lit → Bool} {rs : List Rec} (h : ∀ x ∈ rs, left (.string x.f.name) = true) : leftSum left rs = sizeM (rs.map (·.f)) := by
  unfold leftSum sizeM
  rw [List.filter_eq_self.2 h, List.map_map]
  rfl

theorem leftSum_none {left : Lit → Bool} {rs : List Rec} (h : ∀ x ∈ rs, left (.string x.f.name) = false) : leftSum left rs = 0 := by
  unfold leftSum
  rw [List.filter_eq_nil_iff.2 (fun x hx => by simp [h x hx])]
  rfl

theorem leftSum_next {left : Lit → Bool} {x : Rec} : ∀ {rs : List Rec}, rs.Pairwise (fun a b => a.f.name ≠ b.f.name) → x ∈ rs → left (.string x.f.name) = true →
    leftSum left rs = x.f.b.length + leftSum (fun z => left z && !z.sameKey (.string x.f.name)) rs
  | y :: r, hp, hx, hl => by
    have hp2 := List.pairwise_cons.1 hp
    have hstep : ∀ lf : Lit → Bool, leftSum lf (y :: r) = (if lf (.string y.f.name) then y.f.b.length else 0) + leftSum lf r := fun lf => by
      unfold leftSum
      rw [List.filter_cons]
      split <;> simp
    rw [hstep, hstep]
    rcases List.mem_cons.1 hx with rfl | hx
    · have hs : leftSum (fun z => left z && !z.sameKey (.string x.f.name)) r = leftSum left r := by
        unfold leftSum
        congr 2
        apply List.filter_congr
        intro z hz
        have := hp2.1 z hz
        have h2 : (Lit.string z.f.name).sameKey (.string x.f.name) = false := by
          show (z.f.name == x.f.name) = false
          rw [beq_eq_false_iff_ne]
          exact fun e => this e.symm
        simp [h2]
      rw [hs]
      have h3 : (Lit.string x.f.name).sameKey (.string x.f.name) = true := by show (x.f.name == x.f.name) = true; simp
      simp [hl, h3]
    · have ih := leftSum_next hp2.2 hx hl
      have h2 : (Lit.string y.f.name).sameKey (.string x.f.name) = false := by
        show (y.f.name == x.f.name) = false
        rw [beq_eq_false_iff_ne]
        exact hp2.1 x hx
      rw [ih]
      simp only [h2, Bool.not_false, Bool.and_true]
      omega

theorem has_all (rs : List Rec) : ∀ x ∈ rs, Maps.has (H := Unit) (.map (rs.map entR)) (.string x.f.name) = true := fun x hx => by
  rw [has_eq, List.any_eq_true]
  exact ⟨entR x, List.mem_map.2 ⟨x, hx, rfl⟩, by show (x.f.name == x.f.name) = true; simp⟩

end Go.Proofs.Ytfiocghgjjandaa
