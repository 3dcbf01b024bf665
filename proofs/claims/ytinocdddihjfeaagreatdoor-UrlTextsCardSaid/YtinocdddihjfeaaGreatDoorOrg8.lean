/- A struct argument opened: api.Origin, api.URL. -/
import Derived.Test.YtinocdddihjfeaaGreatDoorRows
import Derived.Deep.Fields
import Derived.Deep.CondSized
import Derived.OpenShut
import Derived.Test.YtinocdddihjfeaaGreatDoorKit
import Derived.Test.YtinocdddihjfeaaGreatDoorRow
namespace Go.Proofs.YtinocdddihjfeaaGreatDoor
open Go.ChangeShapes Go.WideShapes Go.ChangeAt Go.RowKit Go.Proofs
set_option maxRecDepth 100000

theorem oweights_parts {H : Type} {P : Program} {e : TypeId} {fs : Array Field} {ys : List (DataW H × List MemPlace)} (he : P.underlying e = some (.struct fs)) {j : Nat} {f : Field} {y : DataW H × List MemPlace} (hf : fs[j]? = some f) (hy : ys[j]? = some y) : ∀ n ∈ y.1.weights P f.type, n ∈ DataW.weights P e (.agg (ys.map (·.1)) : DataW H) := fun n hn => by
  simp only [DataW.weights, he]
  refine DataW.weights_mem_each (j := j) (t := f.type) (d := y.1) ?_ ?_ n hn
  · rw [List.getElem?_map, Array.getElem?_toList, hf]
    rfl
  · rw [List.getElem?_map, hy]
    rfl

structure OurlTys (P : Program) (tI tB tS tM : TypeId) (f0 f1 f2 f3 f4 f5 f6 f7 f8 f9 : Field) : Prop where
  ourlI : P.underlying tI = some (.int .i64)
  ourlB : P.underlying tB = some .bool
  ourlS : P.underlying tS = some .string
  ourlM : P.underlying tM = some (.struct #[f0, f1, f2, f3, f4, f5, f6, f7, f8, f9])
  ourlp0 : f0.offset = 0 ∧ f0.type = tS
  ourlp1 : f1.offset = 1 ∧ f1.type = tS
  ourlp2 : f2.offset = 2 ∧ f2.type = tS
  ourlp3 : f3.offset = 3 ∧ f3.type = tS
  ourlp4 : f4.offset = 4 ∧ f4.type = tI
  ourlp5 : f5.offset = 5 ∧ f5.type = tS
  ourlp6 : f6.offset = 6 ∧ f6.type = tB
  ourlp7 : f7.offset = 7 ∧ f7.type = tS
  ourlp8 : f8.offset = 8 ∧ f8.type = tB
  ourlp9 : f9.offset = 9 ∧ f9.type = tS
  ourlcI : P.cellsOf tI = 1
  ourlcB : P.cellsOf tB = 1
  ourlcS : P.cellsOf tS = 1
  ourlcM : P.cellsOf tM = 10

theorem open_ourl {H : Type} {enc : TypeId × Value → H} {P : Program} {W : World} {base : Nat} {held : Bool} {tI tB tS tM : TypeId} {f0 f1 f2 f3 f4 f5 f6 f7 f8 f9 : Field} (T : OurlTys P tI tB tS tM f0 f1 f2 f3 f4 f5 f6 f7 f8 f9)
    {v : Value} {d : DataW H} {ps : List MemPlace} {r : Reach} {b0 : Nat} (hval : Value.okWide P W r b0 tM v) (hd : DataW.Trod enc P W base (fun _ => true) held tM v d ps) (hz : ∀ n ∈ d.weights P tM, n ≤ reachBytes) :
    ∃ (x0 : ByteArray) (x1 : ByteArray) (x2 : ByteArray) (x3 : ByteArray) (x4 : Int) (x5 : ByteArray) (x6 : Bool) (x7 : ByteArray) (x8 : Bool) (x9 : ByteArray), v = .agg #[.string x0, .string x1, .string x2, .string x3, .int .i64 x4, .string x5, .bool x6, .string x7, .bool x8, .string x9] ∧ x0.size ≤ 140737488351232 ∧ x1.size ≤ 140737488351232 ∧ x2.size ≤ 140737488351232 ∧ x3.size ≤ 140737488351232 ∧ (-9223372036854775808 ≤ x4 ∧ x4 ≤ 9223372036854775807) ∧ x5.size ≤ 140737488351232 ∧ x7.size ≤ 140737488351232 ∧ x9.size ≤ 140737488351232 := by
  obtain ⟨ca, rfl, hcs⟩ := okWide_struct T.ourlM hval
  obtain ⟨fuel, hf⟩ := hd
  obtain ⟨ys, n, _, hx, hcl, hyl, hat⟩ := DataW.trod_struct T.ourlM hf
  rw [T.ourlcM] at hcl
  have hdx : d = .agg (ys.map (·.1)) := congrArg Prod.fst hx
  have hcl2 : (Value.agg ca).cells.toList = ca.toList := rfl
  rw [hcl2] at hcl hat
  obtain ⟨cl, hca⟩ : ∃ cl, cl = ca.toList := ⟨_, rfl⟩
  rw [← hca] at hcl hat
  match cl, hcl with
  | [c0, c1, c2, c3, c4, c5, c6, c7, c8, c9], _ =>
    have hwp : ∀ (j : Nat) (f : Field) (y : DataW H × List MemPlace), (#[f0, f1, f2, f3, f4, f5, f6, f7, f8, f9] : Array Field)[j]? = some f → ys[j]? = some y → ∀ n ∈ y.1.weights P f.type, n ≤ reachBytes := fun j f y hfj hyj n hn => hz n (by
      rw [hdx]
      exact oweights_parts (ys := ys) T.ourlM (j := j) (f := f) hfj hyj n hn)
    have gy : ∀ j, j < 10 → ∃ y, ys[j]? = some y := fun j hj => ⟨_, List.getElem?_eq_getElem (by rw [hyl]; exact hj)⟩
    have h2 : reachBytes = 140737488351232 := by decide
    obtain ⟨y0, hy0⟩ := gy 0 (by decide)
    have a0 := hat 0 f0 rfl
    rw [T.ourlp0.1, T.ourlp0.2, T.ourlcS, hy0] at a0
    obtain ⟨k0, hk0, hs0, _⟩ := DataW.trod_string T.ourlS a0
    have w0 := hwp 0 f0 y0 rfl hy0
    rw [T.ourlp0.2] at w0
    have z0 : k0.size ≤ 140737488351232 := by
      have := w0 k0.data.toList.length (by rw [hs0]; simp [DataW.weights])
      rw [size_data] at this
      omega
    simp at hk0
    obtain ⟨y1, hy1⟩ := gy 1 (by decide)
    have a1 := hat 1 f1 rfl
    rw [T.ourlp1.1, T.ourlp1.2, T.ourlcS, hy1] at a1
    obtain ⟨k1, hk1, hs1, _⟩ := DataW.trod_string T.ourlS a1
    have w1 := hwp 1 f1 y1 rfl hy1
    rw [T.ourlp1.2] at w1
    have z1 : k1.size ≤ 140737488351232 := by
      have := w1 k1.data.toList.length (by rw [hs1]; simp [DataW.weights])
      rw [size_data] at this
      omega
    simp at hk1
    obtain ⟨y2, hy2⟩ := gy 2 (by decide)
    have a2 := hat 2 f2 rfl
    rw [T.ourlp2.1, T.ourlp2.2, T.ourlcS, hy2] at a2
    obtain ⟨k2, hk2, hs2, _⟩ := DataW.trod_string T.ourlS a2
    have w2 := hwp 2 f2 y2 rfl hy2
    rw [T.ourlp2.2] at w2
    have z2 : k2.size ≤ 140737488351232 := by
      have := w2 k2.data.toList.length (by rw [hs2]; simp [DataW.weights])
      rw [size_data] at this
      omega
    simp at hk2
    obtain ⟨y3, hy3⟩ := gy 3 (by decide)
    have a3 := hat 3 f3 rfl
    rw [T.ourlp3.1, T.ourlp3.2, T.ourlcS, hy3] at a3
    obtain ⟨k3, hk3, hs3, _⟩ := DataW.trod_string T.ourlS a3
    have w3 := hwp 3 f3 y3 rfl hy3
    rw [T.ourlp3.2] at w3
    have z3 : k3.size ≤ 140737488351232 := by
      have := w3 k3.data.toList.length (by rw [hs3]; simp [DataW.weights])
      rw [size_data] at this
      omega
    simp at hk3
    obtain ⟨y4, hy4⟩ := gy 4 (by decide)
    have a4 := hat 4 f4 rfl
    rw [T.ourlp4.1, T.ourlp4.2, T.ourlcI, hy4] at a4
    obtain ⟨k4, hk4, _, w4⟩ := DataW.trod_int T.ourlI a4
    simp at hk4
    obtain ⟨y5, hy5⟩ := gy 5 (by decide)
    have a5 := hat 5 f5 rfl
    rw [T.ourlp5.1, T.ourlp5.2, T.ourlcS, hy5] at a5
    obtain ⟨k5, hk5, hs5, _⟩ := DataW.trod_string T.ourlS a5
    have w5 := hwp 5 f5 y5 rfl hy5
    rw [T.ourlp5.2] at w5
    have z5 : k5.size ≤ 140737488351232 := by
      have := w5 k5.data.toList.length (by rw [hs5]; simp [DataW.weights])
      rw [size_data] at this
      omega
    simp at hk5
    obtain ⟨y6, hy6⟩ := gy 6 (by decide)
    have a6 := hat 6 f6 rfl
    rw [T.ourlp6.1, T.ourlp6.2, T.ourlcB, hy6] at a6
    obtain ⟨k6, hk6, _⟩ := DataW.trod_bool T.ourlB a6
    simp at hk6
    obtain ⟨y7, hy7⟩ := gy 7 (by decide)
    have a7 := hat 7 f7 rfl
    rw [T.ourlp7.1, T.ourlp7.2, T.ourlcS, hy7] at a7
    obtain ⟨k7, hk7, hs7, _⟩ := DataW.trod_string T.ourlS a7
    have w7 := hwp 7 f7 y7 rfl hy7
    rw [T.ourlp7.2] at w7
    have z7 : k7.size ≤ 140737488351232 := by
      have := w7 k7.data.toList.length (by rw [hs7]; simp [DataW.weights])
      rw [size_data] at this
      omega
    simp at hk7
    obtain ⟨y8, hy8⟩ := gy 8 (by decide)
    have a8 := hat 8 f8 rfl
    rw [T.ourlp8.1, T.ourlp8.2, T.ourlcB, hy8] at a8
    obtain ⟨k8, hk8, _⟩ := DataW.trod_bool T.ourlB a8
    simp at hk8
    obtain ⟨y9, hy9⟩ := gy 9 (by decide)
    have a9 := hat 9 f9 rfl
    rw [T.ourlp9.1, T.ourlp9.2, T.ourlcS, hy9] at a9
    obtain ⟨k9, hk9, hs9, _⟩ := DataW.trod_string T.ourlS a9
    have w9 := hwp 9 f9 y9 rfl hy9
    rw [T.ourlp9.2] at w9
    have z9 : k9.size ≤ 140737488351232 := by
      have := w9 k9.data.toList.length (by rw [hs9]; simp [DataW.weights])
      rw [size_data] at this
      omega
    simp at hk9
    refine ⟨k0, k1, k2, k3, k4, k5, k6, k7, k8, k9, ?_, z0, z1, z2, z3, bounds_i64 w4, z5, z7, z9⟩
    have hca2 : ca = #[c0, c1, c2, c3, c4, c5, c6, c7, c8, c9] := by
      apply Array.toList_inj.1
      rw [← hca]
    rw [hca2, hk0, hk1, hk2, hk3, hk4, hk5, hk6, hk7, hk8, hk9]

theorem Tryz.ourlTys : ∃ f0 f1 f2 f3 f4 f5 f6 f7 f8 f9, OurlTys Tryz.prog 3 4 9 24 f0 f1 f2 f3 f4 f5 f6 f7 f8 f9 :=
  ⟨_, _, _, _, _, _, _, _, _, _, Tryz.underlying3, Tryz.underlying4, Tryz.underlying9, Tryz.underlying24, ⟨rfl, rfl⟩, ⟨rfl, rfl⟩, ⟨rfl, rfl⟩, ⟨rfl, rfl⟩, ⟨rfl, rfl⟩, ⟨rfl, rfl⟩, ⟨rfl, rfl⟩, ⟨rfl, rfl⟩, ⟨rfl, rfl⟩, ⟨rfl, rfl⟩, by kernel_rfl, by kernel_rfl, by kernel_rfl, by kernel_rfl⟩

end Go.Proofs.YtinocdddihjfeaaGreatDoor
