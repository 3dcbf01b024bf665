/- Contracts: keep: an empty disk mended. -/
import Derived.BigRegion
import Derived.Deep.RegionHeld3
import Derived.Deep.QuietTactic
import Derived.BigQuiet
import Derived.IntWalk
import Derived.Test.YtageldnhchgplaaGreatDoorProg
import Derived.Test.YtageldnhchgplaaGreatDoorKit
import Derived.Test.YtageldnhchgplaaGreatDoorRow
import Derived.Test.YtageldnhchgplaaGreatDoorRow2
import Derived.Test.YtageldnhchgplaaGreatDoorCod7
import Derived.Test.YtageldnhchgplaaGreatDoorDsk0
import Derived.Test.YtageldnhchgplaaGreatDoorDsk1
import Derived.Test.YtageldnhchgplaaGreatDoorDsk6
import Derived.Test.YtageldnhchgplaaGreatDoorDsk7
import Derived.Test.YtageldnhchgplaaGreatDoorDsk9
import Derived.Test.YtageldnhchgplaaGreatDoorDsk11
import Derived.Test.YtageldnhchgplaaGreatDoorDsk12
import Derived.Test.YtageldnhchgplaaGreatDoorDsk17
import Derived.Test.YtageldnhchgplaaGreatDoorDsk18
import Derived.Test.YtageldnhchgplaaGreatDoorDsk20
import Derived.Test.YtageldnhchgplaaGreatDoorStp
import Derived.Test.YtageldnhchgplaaGreatDoorKp6
import Derived.Test.YtageldnhchgplaaGreatDoorKp10
namespace Go.Proofs.YtageldnhchgplaaGreatDoor
open Go.RowKit Go.Proofs

theorem keptZ_less {w0 w w' : World} {Z Y : Nat → Prop} (h : KeptZ w0 w w' Y) (hY : ∀ k, Z k → Y k) : KeptZ w0 w w' Z := ⟨h.1, fun k hk hz => h.2 k hk (hz.imp id (hY k))⟩

set_option maxRecDepth 100000 in
set_option maxHeartbeats 1000000 in
theorem kmend_new {w0 w : World} {Z : Nat → Prop} {g fb : Nat} {D D1 D2 : CodM} (h : DIn w0 w Z g D) (hZf : Z fb) (s : ByteArray) (c0 : w.cell? ⟨fb, 0, none⟩ = some (.pointer (some ⟨g, 0, none⟩))) (c1 : w.cell? ⟨fb, 1, none⟩ = some (.string s))
    (hok : CodOk D) (hok1 : CodOk D1) (hs : s.size ≤ maxLen) (ha : appM D s.data.toList [] = (0, D1)) (hy : synM D1 [s] = (0, D2)) :
    Calls Tryz.prog 16 #[.pointer (some ⟨fb, 0, none⟩), .agg #[.bool true, .bool false, .bool false]] w fun e w' => e = .returned (.int .i64 0) ∧ DIn w0 w' Z g D2 ∧ KeptZ w0 w w' Z := by
  have HB0 := below_more (Below.refl _ w) (.cells #[.bool true, .bool false, .bool false] 57)
  have h' := dIn_new h HB0
  have hlt := block_of_cell c0
  have e0 := HB0.block fb hlt
  have c0' := cell_same c0 e0
  have c1' := cell_same c1 e0
  have hza := zapp_any (dIn_drew h') s [] (.slice none 0 0) hok (.inl ⟨rfl, rfl⟩) (by simp) (by simp)
  rw [show ([] : List (List UInt8)).flatten = [] from rfl, ha] at hza
  have HZA := Lib.hid hza
  have HLT := Lib.hid hlt
  have HOK1 := Lib.hid hok1
  have HS := Lib.hid hs
  have HY := Lib.hid hy
  have HZ := Lib.hid hZf
  have HC0 := Lib.hid c0'
  have HC1 := Lib.hid c1'
  have HK0 : Hid (KeptZ w0 w (w.alloc (.cells #[.bool true, .bool false, .bool false] 57)).drew Z) := Lib.hid ⟨HB0.size, fun k hk _ => HB0.block k hk⟩
  have henter : Enters Tryz.prog 25 := enters_of Tryz.func25 (by kernel_rfl) rfl
  have henter2 : Enters Tryz.prog 28 := enters_of Tryz.func28 (by kernel_rfl) rfl
  clear h h' HB0 hok hok1 hs ha hy hza hlt hZf c0 c1 e0
  go_enter Tryz.func16, Tryz.ntmps16
  go_wp2_with fail
  go_region_law (refine step_call rfl 25 _ _ rfl #[.pointer (some ⟨g, 0, none⟩), .string s, .slice none 0 0] (by simp [go_sem]) henter HZA.out ?_; rintro e w1 ⟨rfl, hd1, hk1⟩; refine ⟨_, rfl, ?_⟩; have HD1 := Lib.hid hd1; have HK1 := Lib.hid hk1; clear hd1 hk1)
  all_goals
    have hkb := HK1.out.2 w.heap.size (by simp) (.inr (.inr ⟨Nat.le_refl _, by simp⟩))
    have d1 : w1.cell? ⟨w.heap.size, 1, none⟩ = some (.bool false) := cell_same (cell_of_row _ _ _ _ _ _ (heap_alloc_new w _)) hkb
    have d2 : w1.cell? ⟨w.heap.size, 2, none⟩ = some (.bool false) := cell_same (cell_of_row _ _ _ _ _ _ (heap_alloc_new w _)) hkb
    have hkf := HK1.out.2 fb (by have := HLT.out; simp; omega) (.inr (.inl HZ.out))
    have d3 : w1.cell? ⟨fb, 0, none⟩ = some (.pointer (some ⟨g, 0, none⟩)) := cell_same HC0.out hkf
    have d4 : w1.cell? ⟨fb, 1, none⟩ = some (.string s) := cell_same HC1.out hkf
    have d5 : (w1.alloc (.cells #[.string s] 9)).cell? ⟨fb, 0, none⟩ = some (.pointer (some ⟨g, 0, none⟩)) := kcell_more d3 _
    have HSY := Lib.hid (zsyn_sl (dIn_drew HD1.out) s 9 (0, 0) w1.heap.size rfl HOK1.out HS.out 0 D2 HY.out)
    clear hkb hkf c0' c1'
    go_wp2_with fail
    go_region_law (refine step_call rfl 28 _ _ rfl #[.pointer (some ⟨g, 0, none⟩), .slice (some ⟨w1.heap.size, 0, none⟩) 1 1] (by simp [go_sem]) henter2 HSY.out ?_; rintro e w2 ⟨rfl, hd2, hk2⟩; refine ⟨_, rfl, ?_⟩; have HD2 := Lib.hid hd2; have HK2 := Lib.hid hk2; clear hd2 hk2)
    all_goals
      go_wp2_with fail
      go_ret
      exact ⟨rfl, dIn_less HD2.out (fun _ hk => .inl hk), keptZ_trans HK0.out (keptZ_trans (keptZ_less HK1.out (fun _ hk => .inl hk)) (keptZ_less (w := w1.drew) HK2.out (fun _ hk => .inl hk)))⟩

def onD (R : Nat) (nm b : List UInt8) (syn ops : Nat) : CodM := ⟨R, [⟨nm, b, syn⟩], ops, false, 0⟩

theorem app_first (R : Nat) (nm : List UInt8) (hn : nameB nm = true) : appM (newM R) nm [] = (0, onD R nm [] 0 1) := by
  unfold appM
  have h1 : goesM (newM R) = true := rfl
  have h3 : fullM (newM R) nm ([] : List UInt8).length = false := by
    unfold fullM
    simp [newM, findM, sizeM]
  rw [h1, hn, h3]
  rfl

theorem app_more (R : Nat) (nm b m : List UInt8) (syn ops : Nat) (hn : nameB nm = true) (hr : b.length + m.length ≤ R) : appM (onD R nm b syn ops) nm m = (0, onD R nm (b ++ m) syn (ops + 1)) := by
  unfold appM
  have h1 : goesM (onD R nm b syn ops) = true := rfl
  have h3 : fullM (onD R nm b syn ops) nm m.length = false := by
    unfold fullM
    simp [onD, findM, sizeM, hr]
  rw [h1, hn, h3]
  simp [withM, tickM, onD, addM, findM, setM]

theorem syn_one (R : Nat) (s : ByteArray) (b : List UInt8) (syn ops : Nat) : synM (onD R s.data.toList b syn ops) [s] = (0, onD R s.data.toList b b.length (ops + 1)) := by
  unfold synM
  have h1 : goesM (onD R s.data.toList b syn ops) = true := rfl
  rw [h1]
  simp [withM, tickM, onD, findM, syncA, syncO, setM]

theorem onD_ok {R : Nat} {nm b : List UInt8} {syn ops : Nat} (hR : R < 1099511627776) (hb : b.length ≤ R) (ho : ops < 1000000000) : CodOk (onD R nm b syn ops) := by
  unfold CodOk onD
  simp [sizeM]
  omega

theorem newD_ok {R : Nat} (hR : R < 1099511627776) : CodOk (newM R) := by
  unfold CodOk newM
  simp [sizeM]
  omega

theorem Tryz.sizeFile : (Tryz.prog.info? 55).map (·.size) = some 5 := by kernel_rfl

theorem Tryz.sizeDamage : (Tryz.prog.info? 57).map (·.size) = some 3 := by kernel_rfl

theorem fl_one (d : Option Addr) (a b : ByteArray) (n : Int) (f : Bool) : (#[Value.pointer d, .string a, .string b, .int .i64 n, .bool f].all (·.oneCell')) = true := by simp [Value.oneCell']

theorem dm_one (a b c : Bool) : (#[Value.bool a, .bool b, .bool c].all (·.oneCell')) = true := by simp [Value.oneCell']

theorem setCells_self {w : World} {g : Nat} : ∀ (xs : List Value) (o : Nat), (∀ (j : Nat) (v : Value), xs[j]? = some v → w.cell? ⟨g, o + j, none⟩ = some v) → w.setCells g o xs = w
  | [], _, _ => rfl
  | x :: xs, o, h => by
    have h0 := h 0 x rfl
    rw [Nat.add_zero] at h0
    show (w.setCell ⟨g, o, none⟩ x).setCells g (o + 1) xs = w
    rw [setCell_self h0]
    exact setCells_self xs (o + 1) (fun j v hj => by rw [show o + 1 + j = o + (j + 1) by omega]; exact h (j + 1) v hj)

theorem rw_self {w : World} {b g : Nat} {e : TypeId} {xs : List Value} (h : Rw w b g e xs) : w.setCells g 0 xs = w := setCells_self xs 0 (fun j v hj => by rw [Nat.zero_add]; exact Rw.cell h hj)

theorem results_cells3 {P : Program} {fn : Func} {p1 p2 p3 y : Tmp} {t1 t2 t3 : TypeId} (h : fn.results = #[.cell p1 t1, .cell p2 t2, .cell p3 t3, .tmp y]) (tmps : Array Value) (w : World) (g1 g2 g3 b1 b2 b3 : Nat) (e1 e2 e3 : TypeId) (x1 x2 x3 : List Value) (d1 d2 d3 : TypeDesc)
    (hp1 : tmps.getD p1 undef = .pointer (some ⟨g1, 0, none⟩)) (hg1 : Rw w b1 g1 e1 x1) (hu1 : P.underlying t1 = some d1) (hd1 : (match d1 with | .struct _ | .array _ _ => true | _ => false) = true) (hi1 : (P.info? t1).map (·.size) = some x1.length)
    (hp2 : tmps.getD p2 undef = .pointer (some ⟨g2, 0, none⟩)) (hg2 : Rw w b2 g2 e2 x2) (hu2 : P.underlying t2 = some d2) (hd2 : (match d2 with | .struct _ | .array _ _ => true | _ => false) = true) (hi2 : (P.info? t2).map (·.size) = some x2.length)
    (hp3 : tmps.getD p3 undef = .pointer (some ⟨g3, 0, none⟩)) (hg3 : Rw w b3 g3 e3 x3) (hu3 : P.underlying t3 = some d3) (hd3 : (match d3 with | .struct _ | .array _ _ => true | _ => false) = true) (hi3 : (P.info? t3).map (·.size) = some x3.length)
    (v : Value) (hv : tmps.getD y undef = v) :
    (results fn tmps).run P w = .ok (.tuple #[.agg x1.toArray, .agg x2.toArray, .agg x3.toArray, v]) w := by
  have l1 := run_loadVar_row (P := P) w g1 e1 t1 x1.toArray (0, 0) d1 hg1.2 hu1 hd1 (by simpa using hi1)
  have l2 := run_loadVar_row (P := P) w g2 e2 t2 x2.toArray (0, 0) d2 hg2.2 hu2 hd2 (by simpa using hi2)
  have l3 := run_loadVar_row (P := P) w g3 e3 t3 x3.toArray (0, 0) d3 hg3.2 hu3 hd3 (by simpa using hi3)
  have q1 : tmps[p1]?.getD undef = .pointer (some ⟨g1, 0, none⟩) := by simpa using hp1
  have q2 : tmps[p2]?.getD undef = .pointer (some ⟨g2, 0, none⟩) := by simpa using hp2
  have q3 : tmps[p3]?.getD undef = .pointer (some ⟨g3, 0, none⟩) := by simpa using hp3
  have q4 : tmps[y]?.getD undef = v := by simpa using hv
  simp [results, h, q1, q2, q3, q4, asAddr, l1, l2, l3, Result.andThen]

abbrev stZ : List Value := [.int .i64 0, .int .i64 0, .int .i64 0, .int .i64 0, .slice none 0 0, .string ⟨#[]⟩, .slice none 0 0, .int .i64 0]

set_option maxRecDepth 100000 in
set_option maxHeartbeats 2000000 in
theorem kfind_new {w0 w : World} {Z : Nat → Prop} {g : Nat} {D : CodM} (h : DIn w0 w Z g D) (s : ByteArray) (hs : s.size ≤ 40) (hD : D.fs = []) (s1 s2 : ByteArray) (hs1 : s1 = s ++ ⟨#[108, 111, 103]⟩) (hs2 : s2 = s ++ ⟨#[110, 101, 119]⟩) :
    Calls Tryz.prog 15 #[.pointer (some ⟨g, 0, none⟩), .string s] w fun e w' => e = .returned (.tuple #[.agg #[.int .i64 0, .int .i64 0, .int .i64 0, .int .i64 0, .slice none 0 0, .string ⟨#[]⟩, .slice none 0 0, .int .i64 0],
      .agg #[.pointer (some ⟨g, 0, none⟩), .string s1, .string s2, .int .i64 0, .bool false], .agg #[.bool true, .bool false, .bool false], .bool true]) ∧ Below w.heap.size w w' := by
  have H := Lib.hid h
  have HD := Lib.hid hD
  have n1 : ¬ 9223372036854775807 < s.size + 3 := by omega
  have HZ1 : Hid (s1.size ≤ maxLen) := Lib.hid (by rw [hs1, ByteArray.size_append]; show s.size + 3 ≤ maxLen; unfold maxLen; omega)
  have HZ2 : Hid (s2.size ≤ maxLen) := Lib.hid (by rw [hs2, ByteArray.size_append]; show s.size + 3 ≤ maxLen; unfold maxLen; omega)
  have m1 := hs1.symm
  have m2 := hs2.symm
  obtain ⟨W1, hW1⟩ : ∃ W1, W1 = ((w.alloc (.cells #[.int .i64 0, .int .i64 0, .int .i64 0, .int .i64 0, .slice none 0 0, .string ⟨#[]⟩, .slice none 0 0, .int .i64 0] 53)).alloc (.cells #[.pointer (some ⟨g, 0, none⟩), .string s1, .string s2, .int .i64 0, .bool false] 55)).alloc (.cells #[.bool false, .bool false, .bool false] 57) := ⟨_, rfl⟩
  have hb1 : Below w.heap.size w W1 := by rw [hW1]; exact below_more (below_more (below_more (Below.refl _ _) _) _) _
  have hS1 : Rw W1 0 w.heap.size 53 stZ := by rw [hW1]; exact Rw.more (Rw.more (Rw.alloc w _ _ (Nat.zero_le _)) _) _
  have hF1 : Rw W1 0 (w.heap.size + 1) 55 [.pointer (some ⟨g, 0, none⟩), .string s1, .string s2, .int .i64 0, .bool false] := by
    have := Rw.more (Rw.alloc (w.alloc (.cells #[.int .i64 0, .int .i64 0, .int .i64 0, .int .i64 0, .slice none 0 0, .string ⟨#[]⟩, .slice none 0 0, .int .i64 0] 53)) 55 #[.pointer (some ⟨g, 0, none⟩), .string s1, .string s2, .int .i64 0, .bool false] (Nat.zero_le _)) (.cells #[.bool false, .bool false, .bool false] 57)
    rw [show (w.alloc (.cells #[.int .i64 0, .int .i64 0, .int .i64 0, .int .i64 0, .slice none 0 0, .string ⟨#[]⟩, .slice none 0 0, .int .i64 0] 53)).heap.size = w.heap.size + 1 by simp] at this
    rw [hW1]
    exact this
  have hM1 : Rw W1 0 (w.heap.size + 1 + 1) 57 [.bool false, .bool false, .bool false] := by
    have := Rw.alloc ((w.alloc (.cells #[.int .i64 0, .int .i64 0, .int .i64 0, .int .i64 0, .slice none 0 0, .string ⟨#[]⟩, .slice none 0 0, .int .i64 0] 53)).alloc (.cells #[.pointer (some ⟨g, 0, none⟩), .string s1, .string s2, .int .i64 0, .bool false] 55)) 57 #[.bool false, .bool false, .bool false] (Nat.zero_le _)
    rw [show ((w.alloc (.cells #[.int .i64 0, .int .i64 0, .int .i64 0, .int .i64 0, .slice none 0 0, .string ⟨#[]⟩, .slice none 0 0, .int .i64 0] 53)).alloc (.cells #[.pointer (some ⟨g, 0, none⟩), .string s1, .string s2, .int .i64 0, .bool false] 55)).heap.size = w.heap.size + 1 + 1 by simp] at this
    rw [hW1]
    exact this
  clear h hD hs hs1 hs2
  go_enter Tryz.func15, Tryz.ntmps15
  go_wp2_with fail
  rw [← hW1]
  have HB1 := Lib.hid hb1
  have HS1 := Lib.hid hS1
  have HF1 := Lib.hid hF1
  have HM1 := Lib.hid hM1
  clear hW1 hb1 hS1 hF1 hM1
  have hz0 : sizeM D.fs < 1099511627776 := by rw [HD.out]; decide
  have hr1 := zread_any (dIn_new H.out HB1.out) s1 HZ1.out hz0
  unfold DReadV at hr1
  rw [HD.out] at hr1
  refine hr1.mono ?_
  rintro e W2 ⟨rfl, hb2⟩
  have HB2 := Lib.hid (HB1.out.trans (hb2.mono HB1.out.size))
  have HS2 := Lib.hid (Rw.below HS1.out hb2)
  have hF2 := Rw.below HF1.out hb2
  have HM2 := Lib.hid (Rw.below HM1.out hb2)
  have c2 := Rw.cell (j := 2) (v := .string s2) hF2 rfl
  have HF2 := Lib.hid hF2
  clear hr1 hb2 hF2
  go_wp2_with fail
  have hr1 := zread_any (dIn_new H.out HB2.out) s2 HZ2.out hz0
  unfold DReadV at hr1
  rw [HD.out] at hr1
  refine hr1.mono ?_
  rintro e W3 ⟨rfl, hb3⟩
  have HB3 := Lib.hid (HB2.out.trans (hb3.mono HB2.out.size))
  have HS3 := Lib.hid (Rw.below HS2.out hb3)
  have HF3 := Lib.hid (Rw.below HF2.out hb3)
  have hM3 := Rw.below HM2.out hb3
  have c0 := Rw.cell (j := 0) (v := .bool false) hM3 rfl
  have f0 := Rw.free hM3 0
  have f1 := Rw.free hM3 1
  have hM4 := Rw.stored hM3 0 (.bool true)
  have hM5 := Rw.stored hM4 1 (.bool false)
  have d1 := Rw.cell (j := 1) (v := .bool false) hM4 rfl
  have e0 := Rw.cell (j := 0) (v := .bool true) hM5 rfl
  have e1 := Rw.cell (j := 1) (v := .bool false) hM5 rfl
  have HM5 := Lib.hid hM5
  have HS5 := Lib.hid (Rw.other (Rw.other HS3.out (show w.heap.size + 1 + 1 ≠ w.heap.size by omega) 0 (.bool true)) (show w.heap.size + 1 + 1 ≠ w.heap.size by omega) 1 (.bool false))
  have HF5 := Lib.hid (Rw.other (Rw.other HF3.out (show w.heap.size + 1 + 1 ≠ w.heap.size + 1 by omega) 0 (.bool true)) (show w.heap.size + 1 + 1 ≠ w.heap.size + 1 by omega) 1 (.bool false))
  have HB5 := Lib.hid ((HB3.out.setCell (p := ⟨w.heap.size + 1 + 1, 0, none⟩) (show w.heap.size ≤ w.heap.size + 1 + 1 by omega) (.bool true)).setCell (p := ⟨w.heap.size + 1 + 1, 1, none⟩) (show w.heap.size ≤ w.heap.size + 1 + 1 by omega) (.bool false))
  clear hr1 hb3 hM3 hM4 hM5 hz0
  go_wp2_with fail
  refine kload_none.mono ?_
  rintro e W6 ⟨rfl, hb6⟩
  have hS6 := Rw.below HS5.out hb6
  have hF6 := Rw.below HF5.out hb6
  have hM6 : Rw W6 0 (w.heap.size + 1 + 1) 57 [.bool true, .bool false, .bool false] := Rw.below HM5.out hb6
  have HB6 := Lib.hid (HB5.out.trans (hb6.mono HB5.out.size))
  have sz : W6.setCells w.heap.size 0 stZ = W6 := rw_self hS6
  have k3 := Rw.cell (j := 3) (v := .int .i64 0) hF6 rfl
  have g3 := Rw.free hF6 3
  have y3 := setCell_self k3
  have k2 := Rw.cell (j := 2) (v := .bool false) hM6 rfl
  have g2 := Rw.free hM6 2
  have y2 := setCell_self k2
  have HS6 := Lib.hid hS6
  have HF6 := Lib.hid hF6
  have HM6 := Lib.hid hM6
  have SZ := Lib.hid sz
  clear hS6 hF6 hM6 hb6 sz c0 f0 f1 d1 e0 e1 HS1 HF1 HM1 HS2 HM2 HF2 HB1 HB2 HB3 HS3 HF3 HM5 HS5 HF5 HB5 c2
  go_wp2_with (first | (refine wpList_store_mid rfl 53 _ _ rfl w.heap.size 0 #[.int .i64 0, .int .i64 0, .int .i64 0, .int .i64 0, .slice none 0 0, .string ⟨#[]⟩, .slice none 0 0, .int .i64 0] rfl rfl (Rw.there HS6.out 0 8 (by decide)) Tryz.sizeState (st_one _ _ _ _ _ _ _ _ _ _ _ _) ?_; rw [SZ.out]) | fail)
  have hr1 := Rw.below HS6.out (below_draws (w' := W6.drewN 1) (Below.refl _ _) ⟨1, rfl⟩)
  have a10 : W6.cell? ⟨w.heap.size, 0, none⟩ = some (.int .i64 0) := Rw.cell (j := 0) HS6.out rfl
  have b10 : W6.frozen? ⟨w.heap.size, 0, none⟩ = false := Rw.free HS6.out 0
  have e10 : W6.drew.setCell ⟨w.heap.size, 0, none⟩ (.int .i64 0) = W6.drew := setCell_self (Rw.cell (j := 0) (v := .int .i64 0) hr1 rfl)
  have a11 : W6.cell? ⟨w.heap.size, 1, none⟩ = some (.int .i64 0) := Rw.cell (j := 1) HS6.out rfl
  have b11 : W6.frozen? ⟨w.heap.size, 1, none⟩ = false := Rw.free HS6.out 1
  have e11 : W6.drew.setCell ⟨w.heap.size, 1, none⟩ (.int .i64 0) = W6.drew := setCell_self (Rw.cell (j := 1) (v := .int .i64 0) hr1 rfl)
  have a12 : W6.cell? ⟨w.heap.size, 2, none⟩ = some (.int .i64 0) := Rw.cell (j := 2) HS6.out rfl
  have b12 : W6.frozen? ⟨w.heap.size, 2, none⟩ = false := Rw.free HS6.out 2
  have e12 : W6.drew.setCell ⟨w.heap.size, 2, none⟩ (.int .i64 0) = W6.drew := setCell_self (Rw.cell (j := 2) (v := .int .i64 0) hr1 rfl)
  have a13 : W6.cell? ⟨w.heap.size, 3, none⟩ = some (.int .i64 0) := Rw.cell (j := 3) HS6.out rfl
  have b13 : W6.frozen? ⟨w.heap.size, 3, none⟩ = false := Rw.free HS6.out 3
  have e13 : W6.drew.setCell ⟨w.heap.size, 3, none⟩ (.int .i64 0) = W6.drew := setCell_self (Rw.cell (j := 3) (v := .int .i64 0) hr1 rfl)
  have a14 : W6.cell? ⟨w.heap.size, 4, none⟩ = some (.slice none 0 0) := Rw.cell (j := 4) HS6.out rfl
  have b14 : W6.frozen? ⟨w.heap.size, 4, none⟩ = false := Rw.free HS6.out 4
  have e14 : W6.drew.setCell ⟨w.heap.size, 4, none⟩ (.slice none 0 0) = W6.drew := setCell_self (Rw.cell (j := 4) (v := .slice none 0 0) hr1 rfl)
  have a15 : W6.cell? ⟨w.heap.size, 5, none⟩ = some (.string ⟨#[]⟩) := Rw.cell (j := 5) HS6.out rfl
  have b15 : W6.frozen? ⟨w.heap.size, 5, none⟩ = false := Rw.free HS6.out 5
  have e15 : W6.drew.setCell ⟨w.heap.size, 5, none⟩ (.string ⟨#[]⟩) = W6.drew := setCell_self (Rw.cell (j := 5) (v := .string ⟨#[]⟩) hr1 rfl)
  have a16 : W6.cell? ⟨w.heap.size, 6, none⟩ = some (.slice none 0 0) := Rw.cell (j := 6) HS6.out rfl
  have b16 : W6.frozen? ⟨w.heap.size, 6, none⟩ = false := Rw.free HS6.out 6
  have e16 : W6.drew.setCell ⟨w.heap.size, 6, none⟩ (.slice none 0 0) = W6.drew := setCell_self (Rw.cell (j := 6) (v := .slice none 0 0) hr1 rfl)
  have a17 : W6.cell? ⟨w.heap.size, 7, none⟩ = some (.int .i64 0) := Rw.cell (j := 7) HS6.out rfl
  have b17 : W6.frozen? ⟨w.heap.size, 7, none⟩ = false := Rw.free HS6.out 7
  have e17 : W6.drew.setCell ⟨w.heap.size, 7, none⟩ (.int .i64 0) = W6.drew := setCell_self (Rw.cell (j := 7) (v := .int .i64 0) hr1 rfl)
  have hr2 := Rw.below HF6.out (below_draws (w' := W6.drewN 1) (Below.refl _ _) ⟨1, rfl⟩)
  have a20 : W6.cell? ⟨w.heap.size + 1, 0, none⟩ = some (.pointer (some ⟨g, 0, none⟩)) := Rw.cell (j := 0) HF6.out rfl
  have b20 : W6.frozen? ⟨w.heap.size + 1, 0, none⟩ = false := Rw.free HF6.out 0
  have e20 : W6.drew.setCell ⟨w.heap.size + 1, 0, none⟩ (.pointer (some ⟨g, 0, none⟩)) = W6.drew := setCell_self (Rw.cell (j := 0) (v := .pointer (some ⟨g, 0, none⟩)) hr2 rfl)
  have a21 : W6.cell? ⟨w.heap.size + 1, 1, none⟩ = some (.string s1) := Rw.cell (j := 1) HF6.out rfl
  have b21 : W6.frozen? ⟨w.heap.size + 1, 1, none⟩ = false := Rw.free HF6.out 1
  have e21 : W6.drew.setCell ⟨w.heap.size + 1, 1, none⟩ (.string s1) = W6.drew := setCell_self (Rw.cell (j := 1) (v := .string s1) hr2 rfl)
  have a22 : W6.cell? ⟨w.heap.size + 1, 2, none⟩ = some (.string s2) := Rw.cell (j := 2) HF6.out rfl
  have b22 : W6.frozen? ⟨w.heap.size + 1, 2, none⟩ = false := Rw.free HF6.out 2
  have e22 : W6.drew.setCell ⟨w.heap.size + 1, 2, none⟩ (.string s2) = W6.drew := setCell_self (Rw.cell (j := 2) (v := .string s2) hr2 rfl)
  have a23 : W6.cell? ⟨w.heap.size + 1, 3, none⟩ = some (.int .i64 0) := Rw.cell (j := 3) HF6.out rfl
  have b23 : W6.frozen? ⟨w.heap.size + 1, 3, none⟩ = false := Rw.free HF6.out 3
  have e23 : W6.drew.setCell ⟨w.heap.size + 1, 3, none⟩ (.int .i64 0) = W6.drew := setCell_self (Rw.cell (j := 3) (v := .int .i64 0) hr2 rfl)
  have a24 : W6.cell? ⟨w.heap.size + 1, 4, none⟩ = some (.bool false) := Rw.cell (j := 4) HF6.out rfl
  have b24 : W6.frozen? ⟨w.heap.size + 1, 4, none⟩ = false := Rw.free HF6.out 4
  have e24 : W6.drew.setCell ⟨w.heap.size + 1, 4, none⟩ (.bool false) = W6.drew := setCell_self (Rw.cell (j := 4) (v := .bool false) hr2 rfl)
  have hr3 := Rw.below HM6.out (below_draws (w' := W6.drewN 1) (Below.refl _ _) ⟨1, rfl⟩)
  have a30 : W6.cell? ⟨w.heap.size + 1 + 1, 0, none⟩ = some (.bool true) := Rw.cell (j := 0) HM6.out rfl
  have b30 : W6.frozen? ⟨w.heap.size + 1 + 1, 0, none⟩ = false := Rw.free HM6.out 0
  have e30 : W6.drew.setCell ⟨w.heap.size + 1 + 1, 0, none⟩ (.bool true) = W6.drew := setCell_self (Rw.cell (j := 0) (v := .bool true) hr3 rfl)
  have a31 : W6.cell? ⟨w.heap.size + 1 + 1, 1, none⟩ = some (.bool false) := Rw.cell (j := 1) HM6.out rfl
  have b31 : W6.frozen? ⟨w.heap.size + 1 + 1, 1, none⟩ = false := Rw.free HM6.out 1
  have e31 : W6.drew.setCell ⟨w.heap.size + 1 + 1, 1, none⟩ (.bool false) = W6.drew := setCell_self (Rw.cell (j := 1) (v := .bool false) hr3 rfl)
  have a32 : W6.cell? ⟨w.heap.size + 1 + 1, 2, none⟩ = some (.bool false) := Rw.cell (j := 2) HM6.out rfl
  have b32 : W6.frozen? ⟨w.heap.size + 1 + 1, 2, none⟩ = false := Rw.free HM6.out 2
  have e32 : W6.drew.setCell ⟨w.heap.size + 1 + 1, 2, none⟩ (.bool false) = W6.drew := setCell_self (Rw.cell (j := 2) (v := .bool false) hr3 rfl)
  have HR1 := Lib.hid hr1
  have HR2 := Lib.hid hr2
  have HR3 := Lib.hid hr3
  clear hr1 hr2 hr3 k3 g3 y3 k2 g2 y2
  go_region_held3 (fun W => W = W6.drew) (first | rfl | assumption | simp [*]) (first | fail)
  all_goals
    clear a10 a11 a12 a13 a14 a15 a16 a17 b10 b11 b12 b13 b14 b15 b16 b17 e10 e11 e12 e13 e14 e15 e16 e17 a20 a21 a22 a23 a24 b20 b21 b22 b23 b24 e20 e21 e22 e23 e24 a30 a31 a32 b30 b31 b32 e30 e31 e32
    go_wp2_with fail
    refine bodyPost_ret (v := .tuple #[.agg #[.int .i64 0, .int .i64 0, .int .i64 0, .int .i64 0, .slice none 0 0, .string ⟨#[]⟩, .slice none 0 0, .int .i64 0], .agg #[.pointer (some ⟨g, 0, none⟩), .string s1, .string s2, .int .i64 0, .bool false], .agg #[.bool true, .bool false, .bool false], .bool true]) ?_ rfl ⟨rfl, below_draws (w' := W6.drewN 1) HB6.out ⟨1, rfl⟩⟩
    exact results_cells3 rfl _ _ w.heap.size (w.heap.size + 1) (w.heap.size + 1 + 1) 0 0 0 _ _ _ _ _ _ _ _ _ rfl HR1.out Tryz.underlying53 rfl Tryz.sizeState rfl HR2.out Tryz.underlying55 rfl Tryz.sizeFile rfl HR3.out Tryz.underlying57 rfl Tryz.sizeDamage _ rfl

theorem kopen_none (p : Value) (w : World) : Calls Tryz.prog 10 #[p, .string ⟨#[]⟩] w fun e w' => e = .returned (.tuple #[.pointer none, .int .i64 1]) ∧ w' = w := by
  go_enter Tryz.func10, Tryz.ntmps10
  go_wp2
  go_ret2
  exact ⟨rfl, rfl⟩

theorem kopen_long (p : Value) (s : ByteArray) (hs : 40 < (s.size : Int)) (w : World) : Calls Tryz.prog 10 #[p, .string s] w fun e w' => e = .returned (.tuple #[.pointer none, .int .i64 1]) ∧ w' = w := by
  have he : s.toList.isEmpty = false := emptyNo (by omega)
  go_enter Tryz.func10, Tryz.ntmps10
  go_wp2
  all_goals
    go_ret2
    exact ⟨rfl, rfl⟩

theorem Tryz.sizeKeep : (Tryz.prog.info? 62).map (·.size) = some 13 := by kernel_rfl

set_option maxRecDepth 100000 in
set_option maxHeartbeats 2000000 in
theorem kopen_new {w0 w : World} {Z : Nat → Prop} {g R : Nat} (h : DIn w0 w Z g (newM R)) (hR : R < 1099511627776) (s : ByteArray) (hs : s.size ≤ 40) (hs0 : 0 < s.size) (s1 s2 : ByteArray) (hs1 : s1 = s ++ ⟨#[108, 111, 103]⟩) (hs2 : s2 = s ++ ⟨#[110, 101, 119]⟩) :
    Calls Tryz.prog 10 #[.pointer (some ⟨g, 0, none⟩), .string s] w fun e w' => ∃ kb, e = .returned (.tuple #[.pointer (some ⟨kb, 0, none⟩), .int .i64 0]) ∧ w.heap.size ≤ kb ∧ DIn w0 w' (fun k => Z k ∨ k = kb) g (onD R s1.data.toList [] 0 2) ∧ KeptZ w0 w w' Z ∧
      Rw w' 0 kb 62 [.int .i64 0, .int .i64 0, .int .i64 0, .int .i64 0, .slice none 0 0, .string ⟨#[]⟩, .slice none 0 0, .int .i64 0, .pointer (some ⟨g, 0, none⟩), .string s1, .string s2, .int .i64 0, .bool false] := by
  have HF := Lib.hid (kfind_new h s hs rfl s1 s2 hs1 hs2)
  have H := Lib.hid h
  have he : s.toList.isEmpty = false := emptyNo (by omega)
  have hz : ¬ 40 < (s.size : Int) := by omega
  have hnm : nameB s1.data.toList = true := by
    have hl : s1.data.toList.length = s.size + 3 := by rw [size_data, hs1, ByteArray.size_append]; rfl
    unfold nameB
    have h1 : decide (s1.data.toList ≠ []) = true := decide_eq_true (fun e => by rw [e] at hl; simp at hl)
    have h2 : decide (s1.data.toList.length ≤ 100) = true := decide_eq_true (by omega)
    rw [h1, h2]
    rfl
  have HS1 : Hid (s1.size ≤ maxLen) := Lib.hid (by rw [hs1, ByteArray.size_append]; show s.size + 3 ≤ maxLen; unfold maxLen; omega)
  have HA := Lib.hid (app_first R s1.data.toList hnm)
  have HY := Lib.hid (syn_one R s1 [] 0 1)
  have HO := Lib.hid (newD_ok hR)
  have HO1 : Hid (CodOk (onD R s1.data.toList [] 0 1)) := Lib.hid (onD_ok hR (Nat.zero_le _) (by decide))
  clear h hs hs0 hs1 hs2 hnm
  go_enter Tryz.func10, Tryz.ntmps10
  go_wp2_with fail
  refine HF.out.mono ?_
  rintro e W1 ⟨rfl, hb1⟩
  have HB1 := Lib.hid hb1
  clear hb1
  go_wp2_with fail
  obtain ⟨Wa, hWa⟩ : ∃ Wa, Wa = (((W1.alloc (.cells #[.int .i64 0, .int .i64 0, .int .i64 0, .int .i64 0, .slice none 0 0, .string ⟨#[]⟩, .slice none 0 0, .int .i64 0] 53)).alloc (.cells #[.pointer (some ⟨g, 0, none⟩), .string s1, .string s2, .int .i64 0, .bool false] 55)).alloc (.cells #[.bool true, .bool false, .bool false] 57)) := ⟨_, rfl⟩
  rw [← hWa]
  have hba : Below W1.heap.size W1 Wa := by rw [hWa]; exact below_more (below_more (below_more (Below.refl _ _) _) _) _
  have hSa : Rw Wa 0 W1.heap.size 53 [.int .i64 0, .int .i64 0, .int .i64 0, .int .i64 0, .slice none 0 0, .string ⟨#[]⟩, .slice none 0 0, .int .i64 0] := by rw [hWa]; exact Rw.more (Rw.more (Rw.alloc W1 _ _ (Nat.zero_le _)) _) _
  have hFa : Rw Wa 0 (W1.heap.size + 1) 55 [.pointer (some ⟨g, 0, none⟩), .string s1, .string s2, .int .i64 0, .bool false] := by
    have := Rw.more (Rw.alloc (W1.alloc (.cells #[.int .i64 0, .int .i64 0, .int .i64 0, .int .i64 0, .slice none 0 0, .string ⟨#[]⟩, .slice none 0 0, .int .i64 0] 53)) 55 #[.pointer (some ⟨g, 0, none⟩), .string s1, .string s2, .int .i64 0, .bool false] (Nat.zero_le _)) (.cells #[.bool true, .bool false, .bool false] 57)
    rw [show (W1.alloc (.cells #[.int .i64 0, .int .i64 0, .int .i64 0, .int .i64 0, .slice none 0 0, .string ⟨#[]⟩, .slice none 0 0, .int .i64 0] 53)).heap.size = W1.heap.size + 1 by simp] at this
    rw [hWa]
    exact this
  have hsz : Wa.heap.size = W1.heap.size + 1 + 1 + 1 := by rw [hWa]; simp
  have hbwa : Below w.heap.size w Wa := below_then HB1.out hba
  have hw1 := HB1.out.size
  have HM := Lib.hid (kmend_new (fb := W1.heap.size + 1) (dIn_new H.out hbwa) (.inr ⟨by omega, by omega⟩) s1 (Rw.cell (j := 0) hFa rfl) (Rw.cell (j := 1) hFa rfl) HO.out HO1.out HS1.out HA.out HY.out)
  have HBWA := Lib.hid hbwa
  have HSA := Lib.hid hSa
  have HFA := Lib.hid hFa
  have HSZ := Lib.hid hsz
  have HW1 := Lib.hid hw1
  clear hWa hba hSa hFa hsz hbwa hw1
  refine HM.out.mono ?_
  rintro e W2 ⟨rfl, hd2, hk2⟩
  have HD2 := Lib.hid hd2
  have HK2 := Lib.hid hk2
  have q1 := hk2.2 W1.heap.size (by have := HSZ.out; omega) (.inr (.inr ⟨HW1.out, by have := HSZ.out; omega⟩))
  have q2 := hk2.2 (W1.heap.size + 1) (by have := HSZ.out; omega) (.inr (.inr ⟨by have := HW1.out; omega, by have := HSZ.out; omega⟩))
  have a0 : W2.cell? ⟨W1.heap.size, 0, none⟩ = some (.int .i64 0) := cell_same (Rw.cell (j := 0) HSA.out rfl) q1
  have a1 : W2.cell? ⟨W1.heap.size, 1, none⟩ = some (.int .i64 0) := cell_same (Rw.cell (j := 1) HSA.out rfl) q1
  have a2 : W2.cell? ⟨W1.heap.size, 2, none⟩ = some (.int .i64 0) := cell_same (Rw.cell (j := 2) HSA.out rfl) q1
  have a3 : W2.cell? ⟨W1.heap.size, 3, none⟩ = some (.int .i64 0) := cell_same (Rw.cell (j := 3) HSA.out rfl) q1
  have a4 : W2.cell? ⟨W1.heap.size, 4, none⟩ = some (.slice none 0 0) := cell_same (Rw.cell (j := 4) HSA.out rfl) q1
  have a5 : W2.cell? ⟨W1.heap.size, 5, none⟩ = some (.string ⟨#[]⟩) := cell_same (Rw.cell (j := 5) HSA.out rfl) q1
  have a6 : W2.cell? ⟨W1.heap.size, 6, none⟩ = some (.slice none 0 0) := cell_same (Rw.cell (j := 6) HSA.out rfl) q1
  have a7 : W2.cell? ⟨W1.heap.size, 7, none⟩ = some (.int .i64 0) := cell_same (Rw.cell (j := 7) HSA.out rfl) q1
  have b0 : W2.cell? ⟨W1.heap.size + 1, 0, none⟩ = some (.pointer (some ⟨g, 0, none⟩)) := cell_same (Rw.cell (j := 0) HFA.out rfl) q2
  have b1 : W2.cell? ⟨W1.heap.size + 1, 1, none⟩ = some (.string s1) := cell_same (Rw.cell (j := 1) HFA.out rfl) q2
  have b2 : W2.cell? ⟨W1.heap.size + 1, 2, none⟩ = some (.string s2) := cell_same (Rw.cell (j := 2) HFA.out rfl) q2
  have b3 : W2.cell? ⟨W1.heap.size + 1, 3, none⟩ = some (.int .i64 0) := cell_same (Rw.cell (j := 3) HFA.out rfl) q2
  have b4 : W2.cell? ⟨W1.heap.size + 1, 4, none⟩ = some (.bool false) := cell_same (Rw.cell (j := 4) HFA.out rfl) q2
  clear hd2 hk2 q1 q2
  go_wp2_with fail
  go_ret2
  have hz2 := HK2.out.1
  have hs2 := HSZ.out
  have hw1 := HW1.out
  have hbn := below_more (Below.refl _ W2) (.cells #[.int .i64 0, .int .i64 0, .int .i64 0, .int .i64 0, .slice none 0 0, .string ⟨#[]⟩, .slice none 0 0, .int .i64 0, .pointer (some ⟨g, 0, none⟩), .string s1, .string s2, .int .i64 0, .bool false] 62)
  refine ⟨W2.heap.size, rfl, by omega, dIn_less (dIn_new HD2.out hbn) (fun k hk => ?_), ⟨?_, fun k hk hzz => ?_⟩, ?_⟩
  · rcases hk with hk | rfl
    · exact .inl (.inl hk)
    · exact .inr ⟨Nat.le_refl _, by simp⟩
  · have := hbn.size
    omega
  · have h3 : k < Wa.heap.size := by omega
    have h4 : k < W2.heap.size := by omega
    rw [hbn.block k h4, HK2.out.2 k h3 (hzz.imp id .inl), HBWA.out.block k hk]
  · exact Rw.alloc W2 _ _ (Nat.zero_le _)

end Go.Proofs.YtageldnhchgplaaGreatDoor
