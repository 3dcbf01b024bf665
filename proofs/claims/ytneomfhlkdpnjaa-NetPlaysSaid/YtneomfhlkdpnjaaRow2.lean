/- Rows more: a part of a block, an element of an array by value, a copy into a block. -/
import Derived.Deep.MidRow
import Derived.Laws.CopyOwn
import Derived.Shelf.Abstract
import Derived.Test.YtneomfhlkdpnjaaKit
import Derived.Test.YtneomfhlkdpnjaaRow
import Derived.Test.YtneomfhlkdpnjaaSha
namespace Go.Proofs.Ytneomfhlkdpnjaa
open Go.RowKit Go.Proofs

theorem setCells_mid {base g : Nat} {e : TypeId} : ∀ (ys : List Value) (w : World) (pre xs post : List Value), Rw w base g e (pre ++ (xs ++ post)) → xs.length = ys.length → Rw (w.setCells g pre.length ys) base g e (pre ++ (ys ++ post))
  | [], w, pre, xs, post, h, hl => by
    have : xs = [] := List.eq_nil_of_length_eq_zero hl
    subst this
    exact h
  | y :: ys, w, pre, [], post, h, hl => by simp at hl
  | y :: ys, w, pre, x :: xs, post, h, hl => by
    have h1 := h.stored pre.length y
    have e1 : (pre ++ (x :: xs ++ post)).set pre.length y = (pre ++ [y]) ++ (xs ++ post) := by simp
    rw [e1] at h1
    have := setCells_mid ys _ (pre ++ [y]) xs post h1 (by simpa using hl)
    rw [List.length_append, List.append_assoc] at this
    exact this

theorem Rw.storedMid {w : World} {base g : Nat} {e : TypeId} {pre xs post : List Value} (h : Rw w base g e (pre ++ (xs ++ post))) (o : Nat) (ys : List Value) (ho : pre.length = o) (hl : xs.length = ys.length) : Rw (w.setCells g o ys) base g e (pre ++ (ys ++ post)) := by
  subst ho
  exact setCells_mid ys w pre xs post h hl

theorem Save.puts {B g : Nat} : ∀ (ys : List Value) (o : Nat) {a w : World}, Save B g a w → Save B g a (w.setCells g o ys)
  | [], _, _, _, h => h
  | y :: ys, o, _, w, h => by
    rw [World.setCells]
    exact Save.puts ys (o + 1) (h.put o y)

theorem Save.ofBelow {B B' g : Nat} {w w' : World} (h : Below B' w w') (hB : B ≤ B') : Save B g w w' := Save.of (h.mono hB)

theorem Save.less {B B' g : Nat} {w w' : World} (h : Save B' g w w') (hB : B ≤ B') : Save B g w w' := ⟨h.os, h.tape, h.output, h.size, fun k hk hg => h.block k (by omega) hg⟩

theorem Rw.drew {w w' : World} {base g : Nat} {e : TypeId} {xs : List Value} (h : Rw w base g e xs) (hd : Drew w w') : Rw w' base g e xs := by
  obtain ⟨m, rfl⟩ := hd
  exact h

/-- 'a[i]' of an array by value. -/
theorem run_index_row {P : Program} {t e : TypeId} {n m : Nat} {cs : Array Value} {ki kk : IntKind} {v : Value} (h : P.underlying t = some (.array n e)) (he : P.underlying e = some (.int kk)) (hs : (P.info? e).map (·.size) = some 1) (hm : m < n) (hv : cs[m]? = some v) (w : World) :
    (Instr.index t (.agg cs) (.int ki (m : Int))).run P w = .ok v w := by
  have ha := run_isAgg_plain he rfl w
  cases hq : P.info? e with
  | none => simp [hq] at hs
  | some i =>
    have hsz : i.size = 1 := by simpa [hq] using hs
    simp [Instr.index, run_underlying h, asIntOf, part, ha, sizeOf, typeInfo, hq, hsz, hv, Sem.run_bind, go_sem]
    intro hc
    omega

theorem wpList_index_row {P : Program} {ops : Array Oper} {rest : List Oper} {o : Oper} {a : Act} {w : World} {Q : Exit → Act → World → Prop} (hg : o.guard = none) (t : TypeId) (x i : Operand) (ho : o.op = .index t x i)
    {e : TypeId} {n m : Nat} {cs : Array Value} {ki kk : IntKind} (v : Value) (h : P.underlying t = some (.array n e)) (he : P.underlying e = some (.int kk)) (hs : (P.info? e).map (·.size) = some 1)
    (hx : a.eval x = .agg cs) (hi : a.eval i = .int ki (m : Int)) (hm : m < n) (hv : cs[m]? = some v) (hk : wpList P ops Q rest (a.put o.dst v) w) : wpList P ops Q (o :: rest) a w := by
  refine wpList_plain hg fun K hK => ?_
  have hrun := run_index_row (ki := ki) h he hs hm hv w
  unfold Oper.wp
  simp [execOp, ho, hx, hi, hrun, Result.andThen]
  exact hK _ _ hk

/-- A copy into block g: all other blocks stay. -/
theorem setRow_save {B g : Nat} {a w : World} (h : Save B g a w) (cs : Array Value) : Save B g a (w.setRow g cs) :=
  h.trans ⟨rfl, rfl, rfl, by simp [World.setRow], fun k _ hk => setRow_other w g k cs hk⟩

theorem step_copy_save {P : Program} {ops : Array Oper} {o : Oper} {a : Act} {w : World} {K : Act → World → Prop} {Q : Exit → Act → World → Prop} {E : Prop} (hgd : o.guard = none) (d s : Operand) (dT sT : TypeId)
    (ho : o.op = .call { callee := .builtin .copy, args := #[d, s], argTypes := #[dT, sT] }) (elem : TypeId) (hu : P.underlying dT = some (.slice elem)) (hsz : (P.info? elem).map (·.size) = some 1)
    (dLen dCap sLen sCap : Nat) (g off : Nat) (ad : Addr) (hd : a.eval d = .slice (some ⟨g, off, none⟩) dLen dCap) (hs : a.eval s = .slice (some ad) sLen sCap)
    (pre xs post : List Value) (t : TypeId) (base : Nat) (hg : Rw w base g t (pre ++ (xs ++ post))) (hoff : pre.length = off) (ys : List Value) (hn : ys.length = Nat.min sLen dLen) (hxs : xs.length = ys.length)
    (hsrc : ∀ j v, ys[j]? = some v → w.cell? (ad.add j) = some v) (h1 : ∀ v ∈ ys, v.oneCell' = true) (B : Nat) (w0 : World) (hb : Save B g w0 w)
    (h : ∀ w', Hid (Rw w' base g t (pre ++ (ys ++ post))) → Hid (Save B g w0 w') → K (a.put o.dst (goInt ys.length)) w') :
    if Region.wanted o (yielded ops a.tmps) = true then Oper.wp P o a w K Q else E := by
  have hw : Region.wanted o (yielded ops a.tmps) = true := by simp [Region.wanted, hgd]
  rw [if_pos hw]
  subst hoff
  have hrun := run_copy_row (P := P) w dT sT o.type elem g pre.length dLen dCap ad sLen sCap _ t ys hu hsz hg.2 hn hsrc (by simp; omega) h1
  unfold Oper.wp
  simp [execOp, ho, resolve, invoke, builtin, hd, hs, hrun, Result.andThen]
  refine h _ (Lib.hid ⟨hg.1, ?_⟩) (Lib.hid (setRow_save hb _))
  rw [setRow_heap w g _ _ t _ hg.2]
  rw [← hxs, List.drop_left]

end Go.Proofs.Ytneomfhlkdpnjaa
