/- A struct argument opened: api.Origin, api.URL. -/
import Derived.Test.YtdgmcpdphifmbaaGreatDoorRows
import Derived.Deep.Fields
import Derived.Deep.CondSized
import Derived.OpenShut
import Derived.Test.YtdgmcpdphifmbaaGreatDoorKit
import Derived.Test.YtdgmcpdphifmbaaGreatDoorRow
namespace Go.Proofs.YtdgmcpdphifmbaaGreatDoor
open Go.ChangeShapes Go.WideShapes Go.ChangeAt Go.RowKit Go.Proofs
set_option maxRecDepth 100000

theorem oweights_parts {H : Type} {P : Program} {e : TypeId} {fs : Array Field} {ys : List (DataW H × List MemPlace)} (he : P.underlying e = some (.struct fs)) {j : Nat} {f : Field} {y : DataW H × List MemPlace} (hf : fs[j]? = some f) (hy : ys[j]? = some y) : ∀ n ∈ y.1.weights P f.type, n ∈ DataW.weights P e (.agg (ys.map (·.1)) : DataW H) := fun n hn => by
  simp only [DataW.weights, he]
  refine DataW.weights_mem_each (j := j) (t := f.type) (d := y.1) ?_ ?_ n hn
  · rw [List.getElem?_map, Array.getElem?_toList, hf]
    rfl
  · rw [List.getElem?_map, hy]
    rfl

structure OrgTys (P : Program) (tI tB tS tM : TypeId) (f0 f1 f2 : Field) : Prop where
  orgI : P.underlying tI = some (.int .i64)
  orgB : P.underlying tB = some .bool
  orgS : P.underlying tS = some .string
  orgM : P.underlying tM = some (.struct #[f0, f1, f2])
  orgp0 : f0.offset = 0 ∧ f0.type = tS
  orgp1 : f1.offset = 1 ∧ f1.type = tS
  orgp2 : f2.offset = 2 ∧ f2.type = tI
  orgcI : P.cellsOf tI = 1
  orgcB : P.cellsOf tB = 1
  orgcS : P.cellsOf tS = 1
  orgcM : P.cellsOf tM = 3

theorem open_org {H : Type} {enc : TypeId × Value → H} {P : Program} {W : World} {base : Nat} {held : Bool} {tI tB tS tM : TypeId} {f0 f1 f2 : Field} (T : OrgTys P tI tB tS tM f0 f1 f2)
    {v : Value} {d : DataW H} {ps : List MemPlace} {r : Reach} {b0 : Nat} (hval : Value.okWide P W r b0 tM v) (hd : DataW.Trod enc P W base (fun _ => true) held tM v d ps) (hz : ∀ n ∈ d.weights P tM, n ≤ reachBytes) :
    ∃ (x0 : ByteArray) (x1 : ByteArray) (x2 : Int), v = .agg #[.string x0, .string x1, .int .i64 x2] ∧ x0.size ≤ 140737488351232 ∧ x1.size ≤ 140737488351232 ∧ (-9223372036854775808 ≤ x2 ∧ x2 ≤ 9223372036854775807) := by
  obtain ⟨ca, rfl, hcs⟩ := okWide_struct T.orgM hval
  obtain ⟨fuel, hf⟩ := hd
  obtain ⟨ys, n, _, hx, hcl, hyl, hat⟩ := DataW.trod_struct T.orgM hf
  rw [T.orgcM] at hcl
  have hdx : d = .agg (ys.map (·.1)) := congrArg Prod.fst hx
  have hcl2 : (Value.agg ca).cells.toList = ca.toList := rfl
  rw [hcl2] at hcl hat
  obtain ⟨cl, hca⟩ : ∃ cl, cl = ca.toList := ⟨_, rfl⟩
  rw [← hca] at hcl hat
  match cl, hcl with
  | [c0, c1, c2], _ =>
    have hwp : ∀ (j : Nat) (f : Field) (y : DataW H × List MemPlace), (#[f0, f1, f2] : Array Field)[j]? = some f → ys[j]? = some y → ∀ n ∈ y.1.weights P f.type, n ≤ reachBytes := fun j f y hfj hyj n hn => hz n (by
      rw [hdx]
      exact oweights_parts (ys := ys) T.orgM (j := j) (f := f) hfj hyj n hn)
    have gy : ∀ j, j < 3 → ∃ y, ys[j]? = some y := fun j hj => ⟨_, List.getElem?_eq_getElem (by rw [hyl]; exact hj)⟩
    have h2 : reachBytes = 140737488351232 := by decide
    obtain ⟨y0, hy0⟩ := gy 0 (by decide)
    have a0 := hat 0 f0 rfl
    rw [T.orgp0.1, T.orgp0.2, T.orgcS, hy0] at a0
    obtain ⟨k0, hk0, hs0, _⟩ := DataW.trod_string T.orgS a0
    have w0 := hwp 0 f0 y0 rfl hy0
    rw [T.orgp0.2] at w0
    have z0 : k0.size ≤ 140737488351232 := by
      have := w0 k0.data.toList.length (by rw [hs0]; simp [DataW.weights])
      rw [size_data] at this
      omega
    simp at hk0
    obtain ⟨y1, hy1⟩ := gy 1 (by decide)
    have a1 := hat 1 f1 rfl
    rw [T.orgp1.1, T.orgp1.2, T.orgcS, hy1] at a1
    obtain ⟨k1, hk1, hs1, _⟩ := DataW.trod_string T.orgS a1
    have w1 := hwp 1 f1 y1 rfl hy1
    rw [T.orgp1.2] at w1
    have z1 : k1.size ≤ 140737488351232 := by
      have := w1 k1.data.toList.length (by rw [hs1]; simp [DataW.weights])
      rw [size_data] at this
      omega
    simp at hk1
    obtain ⟨y2, hy2⟩ := gy 2 (by decide)
    have a2 := hat 2 f2 rfl
    rw [T.orgp2.1, T.orgp2.2, T.orgcI, hy2] at a2
    obtain ⟨k2, hk2, _, w2⟩ := DataW.trod_int T.orgI a2
    simp at hk2
    refine ⟨k0, k1, k2, ?_, z0, z1, bounds_i64 w2⟩
    have hca2 : ca = #[c0, c1, c2] := by
      apply Array.toList_inj.1
      rw [← hca]
    rw [hca2, hk0, hk1, hk2]

theorem Tryz.orgTys : ∃ f0 f1 f2, OrgTys Tryz.prog 3 4 9 23 f0 f1 f2 :=
  ⟨_, _, _, Tryz.underlying3, Tryz.underlying4, Tryz.underlying9, Tryz.underlying23, ⟨rfl, rfl⟩, ⟨rfl, rfl⟩, ⟨rfl, rfl⟩, by kernel_rfl, by kernel_rfl, by kernel_rfl, by kernel_rfl⟩

end Go.Proofs.YtdgmcpdphifmbaaGreatDoor
