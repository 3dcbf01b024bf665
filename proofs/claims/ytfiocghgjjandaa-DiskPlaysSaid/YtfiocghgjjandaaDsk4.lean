/- Contracts: the code's add and holds. -/
import Derived.BigRegion
import Derived.Deep.RegionHeld3
import Derived.Maps.AppendAt
import Derived.Test.YtfiocghgjjandaaProg
import Derived.Test.YtfiocghgjjandaaKit
import Derived.Test.YtfiocghgjjandaaInfo
import Derived.Test.YtfiocghgjjandaaRow
import Derived.Test.YtfiocghgjjandaaSha
import Derived.Test.YtfiocghgjjandaaCod5
import Derived.Test.YtfiocghgjjandaaCod7
import Derived.Test.YtfiocghgjjandaaCod9
import Derived.Test.YtfiocghgjjandaaJoin
import Derived.Test.YtfiocghgjjandaaFp
import Derived.Test.YtfiocghgjjandaaRdk0
namespace Go.Proofs.Ytfiocghgjjandaa
open Go.RowKit Go.Proofs Go.Maps

theorem wpList_append_sla {P : Program} {w : World} {ops : Array Oper} {rest : List Oper} {o : Oper} {a : Act} {Q : Exit → Act → World → Prop} (hgd : o.guard = none) (s x : Operand) (t : TypeId)
    (ho : o.op = .call { callee := .builtin .append, args := #[s, x], argTypes := #[t, t] })
    (base : Nat) (e : TypeId) (i : TypeInfo) (z : Value) (ht : P.underlying t = some (.slice e)) (hi : P.info? e = some i) (hz : i.zero = some z)
    (hsize : i.size = 1) (hby : i.bytes = 1) (hzs : z.cells.size = 1)
    (v : Value) (n : Nat) (xs : List Value) (hs : a.eval s = v) (hown : w.ownsRow base e 1 v n xs)
    (u : Value) (l : List UInt8) (hx : a.eval x = u) (B : Nat) (hl : ByteSl w B u l) (hn : n + l.length < 1099511627776) (hbase : base ≤ w.heap.size)
    (h : ∀ v' w', w'.ownsRow base e 1 v' (n + l.length) (xs ++ l.map byteV) → w.grownBy w' v.ownBlock → (v'.ownBlock = v.ownBlock ∨ v'.ownBlock = some w.heap.size) → wpList P ops Q rest (a.put o.dst v') w') : wpList P ops Q (o :: rest) a w := by
  rcases hl with ⟨rfl, rfl⟩ | ⟨ad, c, rfl, hc, hlies⟩
  · refine wpList_append_own_none hgd s x t ho base e i 1 ht hi v n xs hs hown hx ?_
    refine h v w ?_ (World.grownBy.refl _ _) (.inl rfl)
    rw [List.map_nil, List.append_nil]
    exact hown
  · refine wpList_append_own_at _ hgd s x t ho base e i z 1 1 ht hi hz hsize hby hzs (by decide) v n xs hs hown ad l.length c (l.map byteV) hx (by simp) ?_ byteV_one (by unfold maxLen; omega) (by omega) hbase ?_
    · intro j u hj
      rcases hlies with rfl | ⟨b, o, ha, _, hb⟩
      · simp at hj
      · cases ha
        rw [Addr.add_mid]
        rw [List.getElem?_map] at hj
        obtain ⟨y, hy, rfl⟩ := Option.map_eq_some_iff.1 hj
        exact hb j y hy
    · intro v' w' hown' hg _ hloc
      exact h v' w' hown' hg hloc

theorem parts_cells {w : World} {B n C : Nat} {A : Option Addr} {ls : List (List UInt8)} (h : PartsB w B (.slice A n C) ls) {k : Nat} {m : List UInt8} (hm : ls[k]? = some m) :
    ∃ b o, A = some ⟨b, o, none⟩ ∧ ∃ u, w.cell? ⟨b, o + k, none⟩ = some u ∧ ByteSl w B u m := by
  have hne : ls ≠ [] := by intro e; rw [e] at hm; simp at hm
  obtain ⟨A2, C2, hv, hc⟩ := PartsB.len h
  cases hv
  obtain ⟨b, o, rfl, hb, hcells⟩ := hc.resolve_left hne
  exact ⟨b, o, rfl, hcells k m hm⟩

/-- An owned row apart from a written cell's block. -/
theorem own_set {w : World} {base : Nat} {e : TypeId} {size : Nat} {v : Value} {n : Nat} {xs : List Value} (h : w.ownsRow base e size v n xs) {g : Nat} (hg : v.ownBlock ≠ some g) (j : Nat) (u : Value) : (w.setCell ⟨g, j, none⟩ u).ownsRow base e size v n xs := by
  refine ⟨h.1, ?_⟩
  rcases h.2 with h | ⟨g2, cap, cur, hv, hb, hh, r⟩
  · exact .inl h
  · refine .inr ⟨g2, cap, cur, hv, hb, ?_, r⟩
    simp only [World.setCell, Array.getElem?_modify]
    subst hv
    rw [if_neg (fun e => hg (by rw [e]; rfl))]
    exact hh

theorem own_type {w : World} {base : Nat} {e e2 : TypeId} {v : Value} {n g : Nat} {xs cs : List Value} (h : w.ownsRow base e 1 v n xs) (hr : Rw w 0 g e2 cs) (he : e ≠ e2) : v.ownBlock ≠ some g :=
  types_apart (F := fun _ => True) ⟨own_mono h (Nat.zero_le _), fun _ _ => trivial⟩ hr.2 he

theorem rw_grown {w w' : World} {g : Nat} {e : TypeId} {cs : List Value} {row : Option Nat} (h : Rw w 0 g e cs) (hg : w.grownBy w' row) (hne : row ≠ some g) : Rw w' 0 g e cs :=
  ⟨Nat.zero_le _, by rw [hg.block g (Rw.size h) (fun e => hne e.symm)]; exact h.2⟩

def AddV (w w' : World) (g : Nat) (u : Value) (syn : Int) (m : List UInt8) : Prop :=
  ∃ u', Rw w' 0 g 78 [u', .int .i64 syn] ∧ w'.ownsRow 0 5 1 u' m.length (m.map byteV) ∧ Kept (fun k => k = g ∨ u.ownBlock = some k) w w' ∧ ∀ x, u'.ownBlock = some x → u.ownBlock = some x ∨ w.heap.size ≤ x

set_option maxHeartbeats 1000000 in
theorem dadd_any (g : Nat) (l : List UInt8) (u : Value) (syn : Int) (ls : List (List UInt8)) (v : Value) (w : World) (hr : Rw w 0 g 78 [u, .int .i64 syn]) (ho : w.ownsRow 0 5 1 u l.length (l.map byteV))
    (hp : ∀ w', Kept (fun k => k = g ∨ u.ownBlock = some k) w w' → PartsB w' w'.heap.size v ls) (hl : l.length + ls.flatten.length < 1099511627776) (hn : ls.length < 9223372036854775807) :
    Calls Try.prog 38 #[.pointer (some ⟨g, 0, none⟩), v] w fun e w' => e = .returned (.tuple #[]) ∧ AddV w w' g u syn (l ++ ls.flatten) := by
  obtain ⟨i0, hi, hz0, hz1, hz2⟩ := info_parts Try.infoByte
  obtain ⟨A, C, rfl, _⟩ := PartsB.len (hp w (kept_refl _ _))
  obtain ⟨n, hnn⟩ : ∃ n, n = ls.length := ⟨_, rfl⟩
  rw [← hnn] at hn hp ⊢
  have HP := Lib.hid hp
  have HNN := Lib.hid hnn
  have HL := Lib.hid hl
  have HR := Lib.hid hr
  have HO := Lib.hid ho
  have HGS := Lib.hid (Rw.size hr)
  clear hp hnn hl hr ho
  go_enter Try.func38, Try.ntmps38
  go_wp2_with fail
  go_loopw [8] (fun i wr => ∃ k : Nat, k ≤ n ∧ i = .int .i64 k ∧ Hid (AddV w wr g u syn (l ++ (ls.take k).flatten))) (fun i _ => n - (intOf i).toNat)
  case atStart => exact ⟨0, Nat.zero_le _, rfl, Lib.hid ⟨u, HR.out, by simpa using HO.out, kept_refl _ _, fun x hx => .inl hx⟩⟩
  case round =>
    obtain ⟨k, hk, rfl, HA⟩ := hrel
    obtain ⟨w1, hw1⟩ : ∃ w1 : World, w1 = wr := ⟨_, rfl⟩
    subst hw1
    by_cases hlt : k < n
    · obtain ⟨m, hm⟩ : ∃ m, ls[k]? = some m := ⟨_, List.getElem?_eq_getElem (by rw [← HNN.out]; exact hlt)⟩
      obtain ⟨u1, hr1, ho1, hK1, hloc1⟩ := HA.out
      obtain ⟨b, o, rfl, p, hcell, hsl⟩ := parts_cells (HP.out w1 hK1) hm
      have hle := flat_le hm
      obtain ⟨xs, hxs⟩ : ∃ xs, xs = l ++ (ls.take k).flatten := ⟨_, rfl⟩
      rw [← hxs] at ho1
      have hbig : xs.length + m.length < 1099511627776 := by have := HL.out; rw [hxs, List.length_append]; omega
      have HF : Hid (l ++ (ls.take (k + 1)).flatten = xs ++ m) := Lib.hid (by rw [flat_succ hm, hxs, List.append_assoc])
      obtain ⟨a1, q1, rfl⟩ := own_len ho1
      have c0 : w1.cell? ⟨g, 0, none⟩ = some (.slice a1 xs.length q1) := hr1.cell rfl
      have HSL := Lib.hid hsl
      have HAP := Lib.hid (own_type ho1 hr1 (by decide))
      have HR1 := Lib.hid hr1
      have HO1 := Lib.hid ho1
      have HK1 := Lib.hid hK1
      have HLOC := Lib.hid hloc1
      have hy : (k : Int) < (n : Int) := by omega
      have HKL := Lib.hid hlt
      have HBIG := Lib.hid hbig
      clear hm hle hsl hk hr1 ho1 hK1 hloc1 hxs HA hbig hlt
      go_wp2_with (first | (at_builtin; refine wpList_append_sla rfl _ _ 40 rfl 0 5 i0 (.int .u8 0) Try.underlying40 hi hz0 hz1 hz2 rfl _ xs.length _ rfl HO1.out _ m rfl w1.heap.size HSL.out HBIG.out (Nat.zero_le _) ?_; intro v2 w2 hown2 hgrow2 hloc2; obtain ⟨a2, q2, rfl⟩ := own_len hown2; have hr2 := rw_grown HR1.out hgrow2 HAP.out; have d0 := hr2.cell (j := 0) rfl; have e0 := hr2.free 0; have HR2 := Lib.hid hr2; have HO2 := Lib.hid hown2; have HG2 := Lib.hid hgrow2; have HL2 := Lib.hid hloc2; clear hr2 hown2 hgrow2 hloc2) | fail)
      go_roundw
      case rel =>
        refine ⟨k + 1, by have := HKL.out; omega, by go_num, Lib.hid ?_⟩
        rw [HF.out]
        have hne2 : (Value.slice a2 (xs.length + m.length) q2).ownBlock ≠ some g := own_type HO2.out HR2.out (by decide)
        refine ⟨.slice a2 (xs.length + m.length) q2, Rw.stored HR2.out 0 _, ?_, ?_, fun x hx => ?_⟩
        · rw [List.length_append, List.map_append]
          exact own_set HO2.out hne2 0 _
        · refine kept_put (kept_grown HK1.out HG2.out (fun y hy => ?_)) (.inl (.inl rfl)) 0 _
          rcases HLOC.out y hy with h | h
          · exact .inl (.inr h)
          · exact .inr h
        · rcases HL2.out with h | h
          · exact HLOC.out x (h ▸ hx)
          · rw [h] at hx
            cases hx
            exact .inr HK1.out.size
      case measure => have := HKL.out; simp [intOf]; omega
    · have hkn : k = ls.length := by have := HNN.out; omega
      have HX := HA.out
      rw [hkn, List.take_length] at HX
      have HV := Lib.hid HX
      have hy : ¬ (k : Int) < (n : Int) := by omega
      clear hkn HX hk HA hn hlt
      go_wp2_with fail
      go_end0
      exact ⟨rfl, HV.out⟩

end Go.Proofs.Ytfiocghgjjandaa
