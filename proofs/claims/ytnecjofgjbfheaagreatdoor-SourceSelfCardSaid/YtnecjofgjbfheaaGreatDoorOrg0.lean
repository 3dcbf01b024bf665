/- Origins in plain words; what the code's own package does. -/
import Derived.Laws.StructEq
import Derived.Deep.MidRow
import Derived.Test.YtnecjofgjbfheaaGreatDoorProg
import Derived.Test.YtnecjofgjbfheaaGreatDoorKit
import Derived.Test.YtnecjofgjbfheaaGreatDoorAsc4
import Derived.Test.YtnecjofgjbfheaaGreatDoorRow
import Derived.Test.YtnecjofgjbfheaaGreatDoorRow2
import Derived.Test.YtnecjofgjbfheaaGreatDoorMd1
import Derived.Test.YtnecjofgjbfheaaGreatDoorUrl0
import Derived.Test.YtnecjofgjbfheaaGreatDoorUrl12
namespace Go.Proofs.YtnecjofgjbfheaaGreatDoor
open Go.RowKit Go.Proofs
set_option maxRecDepth 100000

structure OrgM where
  osc : List UInt8
  oho : List UInt8
  opo : Int

def orgZ : OrgM := ⟨[], [], 0⟩

def orgV (o : OrgM) : Value := .agg #[strL o.osc, strL o.oho, .int .i64 o.opo]

def noneO (o : OrgM) : Prop := o.osc = [] ∧ o.oho = [] ∧ o.opo = 0

instance noneO_dec (o : OrgM) : Decidable (noneO o) := inferInstanceAs (Decidable (_ ∧ _))

def ofU (u : UrlM) : OrgM := ⟨u.sch, u.hos, portU u⟩

def sameO (a b : OrgM) : Bool := decide (a.osc = b.osc ∧ a.oho = b.oho ∧ a.opo = b.opo) && !decide (noneO a)

theorem orgEq (S H S2 H2 : ByteArray) (p p2 : Int) (w : World) : (binOp .eql 42 (.agg #[.string S, .string H, .int .i64 p]) (.agg #[.string S2, .string H2, .int .i64 p2])).run Tryz.prog w = .ok (.bool (decide (S.data.toList = S2.data.toList ∧ H.data.toList = H2.data.toList ∧ p = p2))) w := by
  have e1 : (S.toList == S2.toList) = decide (S.data.toList = S2.data.toList) := by rw [ByteArray.toList_eq, ByteArray.toList_eq]; rw [Bool.eq_iff_iff]; simp
  have e2 : (H.toList == H2.toList) = decide (H.data.toList = H2.data.toList) := by rw [ByteArray.toList_eq, ByteArray.toList_eq]; rw [Bool.eq_iff_iff]; simp
  have e3 : (p == p2) = decide (p = p2) := by rw [Bool.eq_iff_iff]; simp
  obtain ⟨b1, h1⟩ : ∃ b, b = decide (S.data.toList = S2.data.toList) := ⟨_, rfl⟩
  obtain ⟨b2, h2⟩ : ∃ b, b = decide (H.data.toList = H2.data.toList) := ⟨_, rfl⟩
  obtain ⟨b3, h3⟩ : ∃ b, b = decide (p = p2) := ⟨_, rfl⟩
  have e4 : decide (S.data.toList = S2.data.toList ∧ H.data.toList = H2.data.toList ∧ p = p2) = (b1 && (b2 && b3)) := by rw [h1, h2, h3, Bool.eq_iff_iff]; simp
  rw [← h1] at e1
  rw [← h2] at e2
  rw [← h3] at e3
  rw [e4, run_eql_struct, run_equalIn_agg w 9999 _ _ _ (by kernel_rfl) (by kernel_rfl)]
  simp only [Program.fieldsOf, Tryz.underlying42]
  cases b1 <;> cases b2 <;> cases b3 <;> simp [go_sem, Op.eqFields, part, e1, e2, e3, Tryz.underlying9, Tryz.underlying3]

theorem onone_any (S H : ByteArray) (p : Int) (w : World) :
    Calls Tryz.prog 98 #[.agg #[.string S, .string H, .int .i64 p]] w fun e w' => e = .returned (.bool (decide (noneO ⟨S.data.toList, H.data.toList, p⟩))) ∧ Below w.heap.size w w' := by
  obtain ⟨B, hB⟩ : ∃ B, B = decide (noneO ⟨S.data.toList, H.data.toList, p⟩) := ⟨_, rfl⟩
  have EQ : ∀ W, (binOp .eql 42 (.agg #[.string S, .string H, .int .i64 p]) (.agg #[.string ⟨#[]⟩, .string ⟨#[]⟩, .int .i64 0])).run Tryz.prog W = .ok (.bool B) W := fun W => by rw [hB]; exact orgEq S H ⟨#[]⟩ ⟨#[]⟩ p 0 W
  rw [← hB]
  have HB := Lib.hid (below_more (Below.refl _ w) (.cells #[.string S, .string H, .int .i64 p] 42))
  clear hB
  go_enter Tryz.func98, Tryz.ntmps98
  go_wp2_with fail
  go_ret
  exact ⟨rfl, HB.out⟩

theorem Tryz.infoOrg : (Tryz.prog.info? 42).map (fun i => (i.zero, i.size)) = some (some (.agg #[.string ⟨#[]⟩, .string ⟨#[]⟩, .int .i64 0]), 3) := by kernel_rfl

theorem Tryz.sizeOrg : (Tryz.prog.info? 42).map (·.size) = some 3 := by kernel_rfl

/-- One result: a row out of a cell. -/
theorem results_row1 {P : Program} {fn : Func} {p : Tmp} {ty : TypeId} (h : fn.results = #[.cell p ty]) (tmps : Array Value) (w : World) (g base : Nat) (t : TypeId) (xs : List Value) (d : TypeDesc)
    (hp : tmps.getD p undef = .pointer (some ⟨g, 0, none⟩)) (hg : Rw w base g t xs)
    (hu : P.underlying ty = some d) (hd : (match d with | .struct _ | .array _ _ => true | _ => false) = true) (hi : (P.info? ty).map (·.size) = some xs.length) :
    (results fn tmps).run P w = .ok (.agg xs.toArray) w := by
  have hl := run_loadVar_row (P := P) w g t ty xs.toArray (0, 0) d hg.2 hu hd (by simpa using hi)
  have hp' : tmps[p]?.getD undef = .pointer (some ⟨g, 0, none⟩) := by simpa using hp
  simp only [results, h]
  simp [hp', asAddr, hl]

def pU (sch : List UInt8) (pt : Int) : Int := if pt = -1 then (defP sch).1 else pt

set_option maxHeartbeats 4000000 in
theorem oOf_any (S U P H T Q F : ByteArray) (pt : Int) (hq hf : Bool) (w : World) :
    Calls Tryz.prog 63 #[.agg #[.string S, .string U, .string P, .string H, .int .i64 pt, .string T, .bool hq, .string Q, .bool hf, .string F]] w fun e w' => e = .returned (.agg #[.string S, .string H, .int .i64 (pU S.data.toList pt)]) ∧ Below w.heap.size w w' := by
  have hz := zero_cells Tryz.infoOrg
  have HPT : Hid (∀ W, Calls Tryz.prog 57 #[.agg #[.string S, .string U, .string P, .string H, .int .i64 pt, .string T, .bool hq, .string Q, .bool hf, .string F]] W fun e w' => e = .returned (.int .i64 (pU S.data.toList pt)) ∧ Below W.heap.size W w') := Lib.hid (fun W => uPortU_any S U P H T Q F pt hq hf W)
  obtain ⟨p, hp⟩ : ∃ p, p = pU S.data.toList pt := ⟨_, rfl⟩
  rw [← hp] at HPT ⊢
  clear hp
  have HR0 : Hid (Rw (w.alloc (.cells #[.string S, .string U, .string P, .string H, .int .i64 pt, .string T, .bool hq, .string Q, .bool hf, .string F] 31)) 0 w.heap.size 31 [.string S, .string U, .string P, .string H, .int .i64 pt, .string T, .bool hq, .string Q, .bool hf, .string F]) := Lib.hid (Rw.alloc w _ _ (Nat.zero_le _))
  have HB0 := Lib.hid (below_more (Below.refl _ w) (.cells #[.string S, .string U, .string P, .string H, .int .i64 pt, .string T, .bool hq, .string Q, .bool hf, .string F] 31))
  go_enter Tryz.func63, Tryz.ntmps63
  go_wp2_with fail
  obtain ⟨wq, hwq⟩ : ∃ wq, wq = (w.alloc (.cells #[.string S, .string U, .string P, .string H, .int .i64 pt, .string T, .bool hq, .string Q, .bool hf, .string F] 31)).alloc (.cells #[.string ⟨#[]⟩, .string ⟨#[]⟩, .int .i64 0] 42) := ⟨_, rfl⟩
  have HU1 : Hid (Rw wq 0 w.heap.size 31 [.string S, .string U, .string P, .string H, .int .i64 pt, .string T, .bool hq, .string Q, .bool hf, .string F]) := Lib.hid (by rw [hwq]; exact Rw.more HR0.out _)
  have HZ1 : Hid (Rw wq 0 (w.heap.size + 1) 42 [.string ⟨#[]⟩, .string ⟨#[]⟩, .int .i64 0]) := Lib.hid (by
    have h : Rw ((w.alloc (.cells #[.string S, .string U, .string P, .string H, .int .i64 pt, .string T, .bool hq, .string Q, .bool hf, .string F] 31)).alloc (.cells #[.string ⟨#[]⟩, .string ⟨#[]⟩, .int .i64 0] 42)) 0 (w.alloc (.cells #[.string S, .string U, .string P, .string H, .int .i64 pt, .string T, .bool hq, .string Q, .bool hf, .string F] 31)).heap.size 42 [.string ⟨#[]⟩, .string ⟨#[]⟩, .int .i64 0] := Rw.alloc _ _ _ (Nat.zero_le _)
    rw [hwq]
    have hs : (w.alloc (.cells #[.string S, .string U, .string P, .string H, .int .i64 pt, .string T, .bool hq, .string Q, .bool hf, .string F] 31)).heap.size = w.heap.size + 1 := Array.size_push ..
    rw [hs] at h
    exact h)
  have HB1 : Hid (Below w.heap.size w wq) := Lib.hid (by rw [hwq]; exact below_more HB0.out _)
  rw [← hwq]
  clear hwq HR0 HB0 hz
  have hd := HU1.out
  have k0 := Rw.cell hd (j := 0) rfl
  have k1 := Rw.cell hd (j := 1) rfl
  have k2 := Rw.cell hd (j := 2) rfl
  have k3 := Rw.cell hd (j := 3) rfl
  have k4 := Rw.cell hd (j := 4) rfl
  have k5 := Rw.cell hd (j := 5) rfl
  have k6 := Rw.cell hd (j := 6) rfl
  have k7 := Rw.cell hd (j := 7) rfl
  have k8 := Rw.cell hd (j := 8) rfl
  have k9 := Rw.cell hd (j := 9) rfl
  clear hd
  go_region_with (first | (go_at_call 57; refine (HPT.out _).mono ?_; rintro e w5 ⟨rfl, hb5⟩; have hu5 := Rw.below (Rw.drew HU1.out ⟨1, rfl⟩) hb5; have hz5 := Rw.below (Rw.drew HZ1.out ⟨1, rfl⟩) hb5; have k0 := Rw.cell hu5 (j := 0) rfl; have k1 := Rw.cell hu5 (j := 1) rfl; have k2 := Rw.cell hu5 (j := 2) rfl; have k3 := Rw.cell hu5 (j := 3) rfl; have k4 := Rw.cell hu5 (j := 4) rfl; have k5 := Rw.cell hu5 (j := 5) rfl; have k6 := Rw.cell hu5 (j := 6) rfl; have k7 := Rw.cell hu5 (j := 7) rfl; have k8 := Rw.cell hu5 (j := 8) rfl; have k9 := Rw.cell hu5 (j := 9) rfl; have c0 := Rw.cell hz5 (j := 0) rfl; have f0 := Rw.free hz5 0; have c1 := Rw.cell hz5 (j := 1) rfl; have f1 := Rw.free hz5 1; have c2 := Rw.cell hz5 (j := 2) rfl; have f2 := Rw.free hz5 2))
  all_goals
    go_wp2_with fail
    have HW := Rw.storedAll hz5 [.string S, .string H, .int .i64 p] rfl
    refine bodyPost_ret (v := .agg #[.string S, .string H, .int .i64 p]) ?_ rfl ⟨rfl, ?_⟩
    case refine_1 => exact results_row1 rfl _ _ (w.heap.size + 1) 0 42 [.string S, .string H, .int .i64 p] _ rfl HW Tryz.underlying42 rfl Tryz.sizeOrg
    exact below_stores (below_then (below_then HB1.out (below_draws (Below.refl _ _) ⟨1, rfl⟩)) hb5) (Nat.le_succ _) [.string S, .string H, .int .i64 p]

theorem osame_any (S H S2 H2 : ByteArray) (p p2 : Int) (w : World) :
    Calls Tryz.prog 62 #[.agg #[.string S, .string H, .int .i64 p], .agg #[.string S2, .string H2, .int .i64 p2]] w fun e w' => e = .returned (.bool (sameO ⟨S.data.toList, H.data.toList, p⟩ ⟨S2.data.toList, H2.data.toList, p2⟩)) ∧ Below w.heap.size w w' := by
  obtain ⟨B, hB⟩ : ∃ B, B = decide (S.data.toList = S2.data.toList ∧ H.data.toList = H2.data.toList ∧ p = p2) := ⟨_, rfl⟩
  obtain ⟨N, hN⟩ : ∃ N, N = decide (noneO ⟨S.data.toList, H.data.toList, p⟩) := ⟨_, rfl⟩
  have EQ : ∀ W, (binOp .eql 42 (.agg #[.string S, .string H, .int .i64 p]) (.agg #[.string S2, .string H2, .int .i64 p2])).run Tryz.prog W = .ok (.bool B) W := fun W => by rw [hB]; exact orgEq S H S2 H2 p p2 W
  have HN := Lib.hid (fun W => onone_any S H p W)
  rw [← hN] at HN
  have hS : sameO ⟨S.data.toList, H.data.toList, p⟩ ⟨S2.data.toList, H2.data.toList, p2⟩ = (B && !N) := by rw [hB, hN]; rfl
  rw [hS]
  have HB := Lib.hid (below_more (below_more (Below.refl _ w) (.cells #[.string S, .string H, .int .i64 p] 42)) (.cells #[.string S2, .string H2, .int .i64 p2] 42))
  clear hB hN hS
  cases B
  · go_enter Tryz.func62, Tryz.ntmps62
    go_wp2_with fail
    go_ret
    exact ⟨rfl, HB.out⟩
  · go_enter Tryz.func62, Tryz.ntmps62
    go_wp2_with fail
    refine (HN.out _).mono ?_
    rintro e w1 ⟨rfl, hb⟩
    have HB1 := Lib.hid (below_then HB.out hb)
    clear hb
    go_wp2_with fail
    go_ret
    exact ⟨by cases N <;> rfl, HB1.out⟩

end Go.Proofs.YtnecjofgjbfheaaGreatDoor
