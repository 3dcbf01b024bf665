/- Origins in plain words; what the code's own package does. -/
import Derived.Laws.StructEq
import Derived.Deep.MidRow
import Derived.Test.YtdgmcpdphifmbaaGreatDoorProg
import Derived.Test.YtdgmcpdphifmbaaGreatDoorShelf
import Derived.Test.YtdgmcpdphifmbaaGreatDoorKit
import Derived.Test.YtdgmcpdphifmbaaGreatDoorAsc4
import Derived.Test.YtdgmcpdphifmbaaGreatDoorRow
import Derived.Test.YtdgmcpdphifmbaaGreatDoorRow2
import Derived.Test.YtdgmcpdphifmbaaGreatDoorCod8
import Derived.Test.YtdgmcpdphifmbaaGreatDoorMd1
import Derived.Test.YtdgmcpdphifmbaaGreatDoorHst0
import Derived.Test.YtdgmcpdphifmbaaGreatDoorHst1
import Derived.Test.YtdgmcpdphifmbaaGreatDoorHst6
import Derived.Test.YtdgmcpdphifmbaaGreatDoorUrl0
import Derived.Test.YtdgmcpdphifmbaaGreatDoorUrl4
import Derived.Test.YtdgmcpdphifmbaaGreatDoorUrl9
import Derived.Test.YtdgmcpdphifmbaaGreatDoorUrl12
namespace Go.Proofs.YtdgmcpdphifmbaaGreatDoor
open Go.RowKit Go.Proofs
set_option maxRecDepth 100000

structure OrgM where
  osc : List UInt8
  oho : List UInt8
  opo : Int

def orgZ : OrgM := ⟨[], [], 0⟩

def orgV (o : OrgM) : Value := .agg #[strL o.osc, strL o.oho, .int .i64 o.opo]

def noneO (o : OrgM) : Prop := o.osc = [] ∧ o.oho = [] ∧ o.opo = 0

instance (o : OrgM) : Decidable (noneO o) := inferInstanceAs (Decidable (_ ∧ _))

def nullL : List UInt8 := [110, 117, 108, 108]

def portO (sch : List UInt8) (p : Int) : List UInt8 := if (defP sch).2 = true ∧ p = (defP sch).1 then [] else 58 :: Lib.itoa p

def textO (o : OrgM) : List UInt8 := if noneO o then nullL else o.osc ++ [58, 47, 47] ++ o.oho ++ portO o.osc o.opo

def ofU (u : UrlM) : OrgM := ⟨u.sch, u.hos, portU u⟩

def localL : List UInt8 := [108, 111, 99, 97, 108, 104, 111, 115, 116]

def inL (h : List UInt8) : Bool := (match addressP h with | none => false | some a => decide (a / 16777216 = 127)) || decide (h = localL) || (46 :: localL).isSuffixOf h

def trustO (o : OrgM) : Bool := decide (o.osc = httpsL ∨ o.osc = wssL) || inL o.oho

def sameO (a b : OrgM) : Bool := decide (a.osc = b.osc ∧ a.oho = b.oho ∧ a.opo = b.opo) && !decide (noneO a)

def parseO (s : List UInt8) : Option OrgM := if s = nullL then some orgZ else (urlP s).bind fun u => if textO (ofU u) = s then some (ofU u) else none

theorem orgEq (S H S2 H2 : ByteArray) (p p2 : Int) (w : World) : (binOp .eql 23 (.agg #[.string S, .string H, .int .i64 p]) (.agg #[.string S2, .string H2, .int .i64 p2])).run Tryz.prog w = .ok (.bool (decide (S.data.toList = S2.data.toList ∧ H.data.toList = H2.data.toList ∧ p = p2))) w := by
  have e1 : (S.toList == S2.toList) = decide (S.data.toList = S2.data.toList) := by rw [ByteArray.toList_eq, ByteArray.toList_eq]; rw [Bool.eq_iff_iff]; simp
  have e2 : (H.toList == H2.toList) = decide (H.data.toList = H2.data.toList) := by rw [ByteArray.toList_eq, ByteArray.toList_eq]; rw [Bool.eq_iff_iff]; simp
  have e3 : (p == p2) = decide (p = p2) := by rw [Bool.eq_iff_iff]; simp
  obtain ⟨b1, h1⟩ : ∃ b, b = decide (S.data.toList = S2.data.toList) := ⟨_, rfl⟩
  obtain ⟨b2, h2⟩ : ∃ b, b = decide (H.data.toList = H2.data.toList) := ⟨_, rfl⟩
  obtain ⟨b3, h3⟩ : ∃ b, b = decide (p = p2) := ⟨_, rfl⟩
  have e4 : decide (S.data.toList = S2.data.toList ∧ H.data.toList = H2.data.toList ∧ p = p2) = (b1 && (b2 && b3)) := by rw [h1, h2, h3, Bool.eq_iff_iff]; simp
  rw [← h1] at e1
  rw [← h2] at e2
  rw [← h3] at e3
  rw [e4, run_eql_struct, run_equalIn_agg w 9999 _ _ _ (by kernel_rfl) (by kernel_rfl)]
  simp only [Program.fieldsOf, Tryz.underlying23]
  cases b1 <;> cases b2 <;> cases b3 <;> simp [go_sem, Op.eqFields, part, e1, e2, e3, Tryz.underlying9, Tryz.underlying3]

theorem onone_any (S H : ByteArray) (p : Int) (w : World) :
    Calls Tryz.prog 32 #[.agg #[.string S, .string H, .int .i64 p]] w fun e w' => e = .returned (.bool (decide (noneO ⟨S.data.toList, H.data.toList, p⟩))) ∧ Below w.heap.size w w' := by
  obtain ⟨B, hB⟩ : ∃ B, B = decide (noneO ⟨S.data.toList, H.data.toList, p⟩) := ⟨_, rfl⟩
  have EQ : ∀ W, (binOp .eql 23 (.agg #[.string S, .string H, .int .i64 p]) (.agg #[.string ⟨#[]⟩, .string ⟨#[]⟩, .int .i64 0])).run Tryz.prog W = .ok (.bool B) W := fun W => by rw [hB]; exact orgEq S H ⟨#[]⟩ ⟨#[]⟩ p 0 W
  rw [← hB]
  have HB := Lib.hid (below_more (Below.refl _ w) (.cells #[.string S, .string H, .int .i64 p] 23))
  clear hB
  go_enter Tryz.func32, Tryz.ntmps32
  go_wp2_with fail
  go_ret
  exact ⟨rfl, HB.out⟩

theorem oportText_any (S H : ByteArray) (p : Int) (hp : -9223372036854775808 ≤ p ∧ p ≤ 9223372036854775807) (w : World) (hT : Tab10 w) :
    Calls Tryz.prog 39 #[.agg #[.string S, .string H, .int .i64 p]] w fun e w' => e = .returned (strL (portO S.data.toList p)) ∧ Below w.heap.size w w' := by
  have HD := Lib.hid (fun W => udef_any S W)
  obtain ⟨D, hD⟩ : ∃ D, D = (defP S.data.toList).1 := ⟨_, rfl⟩
  obtain ⟨B, hB⟩ : ∃ B, B = (defP S.data.toList).2 := ⟨_, rfl⟩
  rw [← hD, ← hB] at HD
  have HB := Lib.hid (below_more (Below.refl _ w) (.cells #[.string S, .string H, .int .i64 p] 23))
  have HDC := Lib.hid (decimal_any p hp _ (tab10_below hT HB.out))
  obtain ⟨T, hT2⟩ : ∃ T : ByteArray, T = ⟨(Lib.itoa p).toArray⟩ := ⟨_, rfl⟩
  rw [← hT2] at HDC
  have hTs : T.size ≤ 21 := by rw [hT2, mk_size]; exact Lib.itoa_length_le p hp.1 hp.2
  obtain ⟨R, hR⟩ : ∃ R, R = strL (portO S.data.toList p) := ⟨_, rfl⟩
  rw [← hR]
  have hR2 : R = strL (if B = true ∧ p = D then [] else 58 :: Lib.itoa p) := by rw [hR, hB, hD]; rfl
  clear hD hB hR hT hp
  by_cases hc : B = true ∧ p = D
  · have HR : Hid (R = .string ⟨#[]⟩) := Lib.hid (by rw [hR2, if_pos hc]; rfl)
    obtain ⟨rfl, rfl⟩ := hc
    clear hR2 hT2
    go_enter Tryz.func39, Tryz.ntmps39
    go_wp2_with fail
    refine (HD.out _).mono ?_
    rintro e w1 ⟨rfl, rfl⟩
    go_wp2_with fail
    go_ret
    exact ⟨by rw [HR.out]; rfl, HB.out⟩
  · have HR : Hid (R = .string (⟨#[58]⟩ ++ T)) := Lib.hid (by
      rw [hR2, if_neg hc]
      refine strL_of ?_
      rw [mk_app, hT2]
      rfl)
    have t1 : ¬ 9223372036854775807 < 1 + T.size := by omega
    have q : (B = false) ∨ (B = true ∧ (p == D) = false) := by
      cases B
      · exact .inl rfl
      · exact .inr ⟨rfl, by rw [beq_eq_false_iff_ne]; exact fun h => hc ⟨rfl, h⟩⟩
    clear hc hR2 hT2
    rcases q with rfl | ⟨rfl, q⟩
    all_goals
      go_enter Tryz.func39, Tryz.ntmps39
      go_wp2_with fail
      refine (HD.out _).mono ?_
      rintro e w1 ⟨rfl, rfl⟩
      go_wp2_with fail
      refine HDC.out.mono ?_
      rintro e w2 ⟨rfl, hb⟩
      have HB2 := Lib.hid (below_then HB.out hb)
      clear hb
      go_wp2_with fail
      go_ret
      exact ⟨by rw [HR.out]; rfl, HB2.out⟩

set_option maxHeartbeats 1000000 in
theorem otext_any (S H : ByteArray) (p : Int) (hS : S.size ≤ 1073741824) (hH : H.size ≤ 1073741824) (hp : -9223372036854775808 ≤ p ∧ p ≤ 9223372036854775807) (w : World) (hT : Tab10 w) :
    Calls Tryz.prog 15 #[.agg #[.string S, .string H, .int .i64 p]] w fun e w' => e = .returned (strL (textO ⟨S.data.toList, H.data.toList, p⟩)) ∧ Below w.heap.size w w' := by
  have HN := Lib.hid (fun W => onone_any S H p W)
  obtain ⟨N, hN⟩ : ∃ N, N = decide (noneO ⟨S.data.toList, H.data.toList, p⟩) := ⟨_, rfl⟩
  rw [← hN] at HN
  have HB0 := Lib.hid (below_more (Below.refl _ w) (.cells #[.string S, .string H, .int .i64 p] 23))
  have HST : Hid (∀ W W', (Below w.heap.size w W ∧ (W).cell? ⟨w.heap.size, 0, none⟩ = some (.string S) ∧ (W).cell? ⟨w.heap.size, 1, none⟩ = some (.string H) ∧ (W).cell? ⟨w.heap.size, 2, none⟩ = some (.int .i64 p)) → Below W.heap.size W W' → (Below w.heap.size w W' ∧ (W').cell? ⟨w.heap.size, 0, none⟩ = some (.string S) ∧ (W').cell? ⟨w.heap.size, 1, none⟩ = some (.string H) ∧ (W').cell? ⟨w.heap.size, 2, none⟩ = some (.int .i64 p))) := Lib.hid (by
    intro W W' h hb
    obtain ⟨h0, h1, h2, h3⟩ := h
    exact ⟨h0.trans (hb.mono h0.size), cell_stays h1 hb, cell_stays h2 hb, cell_stays h3 hb⟩)
  obtain ⟨R, hR⟩ : ∃ R, R = strL (textO ⟨S.data.toList, H.data.toList, p⟩) := ⟨_, rfl⟩
  rw [← hR]
  cases N
  · obtain ⟨P, hP⟩ : ∃ P : ByteArray, P = ⟨(portO S.data.toList p).toArray⟩ := ⟨_, rfl⟩
    have hPs : P.size ≤ 22 := by
      rw [hP, mk_size]
      unfold portO
      split
      · simp
      · have := Lib.itoa_length_le p hp.1 hp.2
        rw [List.length_cons]
        omega
    have HR : Hid (R = .string (((S ++ ⟨#[58, 47, 47]⟩) ++ H) ++ P)) := Lib.hid (by
      rw [hR]
      refine strL_of ?_
      rw [mk_app, mk_app, mk_app, hP]
      unfold textO
      rw [if_neg (of_decide_eq_false hN.symm)])
    have HPT : Hid (∀ W, (Below w.heap.size w W ∧ (W).cell? ⟨w.heap.size, 0, none⟩ = some (.string S) ∧ (W).cell? ⟨w.heap.size, 1, none⟩ = some (.string H) ∧ (W).cell? ⟨w.heap.size, 2, none⟩ = some (.int .i64 p)) → Calls Tryz.prog 39 #[.agg #[.string S, .string H, .int .i64 p]] W fun e w' => e = .returned (.string P) ∧ (Below w.heap.size w w' ∧ (w').cell? ⟨w.heap.size, 0, none⟩ = some (.string S) ∧ (w').cell? ⟨w.heap.size, 1, none⟩ = some (.string H) ∧ (w').cell? ⟨w.heap.size, 2, none⟩ = some (.int .i64 p))) := Lib.hid (by
      intro W hW
      rw [hP]
      exact (oportText_any S H p hp W (tab10_below hT hW.1)).mono fun e w' h => ⟨h.1, HST.out W w' hW h.2⟩)
    have t1 : ¬ 9223372036854775807 < S.size + 3 := by omega
    have t2 : ¬ 9223372036854775807 < S.size + 3 + H.size := by omega
    have t3 : ¬ 9223372036854775807 < S.size + 3 + H.size + P.size := by omega
    clear hN hR hP hPs hS hH hp hT
    go_enter Tryz.func15, Tryz.ntmps15
    go_wp2_with fail
    refine (HN.out _).mono ?_
    rintro e w1 ⟨rfl, hb⟩
    have HS1 : Hid (Below w.heap.size w w1 ∧ (w1).cell? ⟨w.heap.size, 0, none⟩ = some (.string S) ∧ (w1).cell? ⟨w.heap.size, 1, none⟩ = some (.string H) ∧ (w1).cell? ⟨w.heap.size, 2, none⟩ = some (.int .i64 p)) := Lib.hid (HST.out _ w1 ⟨HB0.out, alloc_cell w _ _ _ 0, alloc_cell w _ _ _ 1, alloc_cell w _ _ _ 2⟩ hb)
    have HS2 : Hid (Below w.heap.size w w1.drew ∧ (w1.drew).cell? ⟨w.heap.size, 0, none⟩ = some (.string S) ∧ (w1.drew).cell? ⟨w.heap.size, 1, none⟩ = some (.string H) ∧ (w1.drew).cell? ⟨w.heap.size, 2, none⟩ = some (.int .i64 p)) := Lib.hid (HST.out w1 w1.drew HS1.out (below_draws (Below.refl _ _) ⟨1, rfl⟩))
    clear hb
    go_wp2_with fail
    go_region_held3 (fun W => Below w.heap.size w W ∧ W.cell? ⟨w.heap.size, 0, none⟩ = some (.string S) ∧ W.cell? ⟨w.heap.size, 1, none⟩ = some (.string H) ∧ W.cell? ⟨w.heap.size, 2, none⟩ = some (.int .i64 p))
      (first | exact HS2.out | assumption)
      (first
        | (go_at_call 39; refine (HPT.out _ (by assumption)).mono ?_; rintro e w7 ⟨rfl, hS7⟩))
    go_wp2_with fail
    go_ret
    exact ⟨by rw [HR.out]; rfl, by first | exact hS7.1 | exact HS2.out.1⟩
  · have HR : Hid (R = .string ⟨#[110, 117, 108, 108]⟩) := Lib.hid (by
      rw [hR]
      unfold textO
      rw [if_pos (of_decide_eq_true hN.symm)]
      rfl)
    clear hN hR
    go_enter Tryz.func15, Tryz.ntmps15
    go_wp2_with fail
    refine (HN.out _).mono ?_
    rintro e w1 ⟨rfl, hb⟩
    have HB1 := Lib.hid (below_then HB0.out hb)
    clear hb
    go_wp2_with fail
    go_ret
    exact ⟨by rw [HR.out]; rfl, HB1.out⟩

theorem Tryz.infoOrg : (Tryz.prog.info? 23).map (fun i => (i.zero, i.size)) = some (some (.agg #[.string ⟨#[]⟩, .string ⟨#[]⟩, .int .i64 0]), 3) := by kernel_rfl

theorem Tryz.sizeOrg : (Tryz.prog.info? 23).map (·.size) = some 3 := by kernel_rfl

/-- One result: a row out of a cell. -/
theorem results_row1 {P : Program} {fn : Func} {p : Tmp} {ty : TypeId} (h : fn.results = #[.cell p ty]) (tmps : Array Value) (w : World) (g base : Nat) (t : TypeId) (xs : List Value) (d : TypeDesc)
    (hp : tmps.getD p undef = .pointer (some ⟨g, 0, none⟩)) (hg : Rw w base g t xs)
    (hu : P.underlying ty = some d) (hd : (match d with | .struct _ | .array _ _ => true | _ => false) = true) (hi : (P.info? ty).map (·.size) = some xs.length) :
    (results fn tmps).run P w = .ok (.agg xs.toArray) w := by
  have hl := run_loadVar_row (P := P) w g t ty xs.toArray (0, 0) d hg.2 hu hd (by simpa using hi)
  have hp' : tmps[p]?.getD undef = .pointer (some ⟨g, 0, none⟩) := by simpa using hp
  simp only [results, h]
  simp [hp', asAddr, hl]

def pU (sch : List UInt8) (pt : Int) : Int := if pt = -1 then (defP sch).1 else pt

set_option maxHeartbeats 4000000 in
theorem oOf_any (S U P H T Q F : ByteArray) (pt : Int) (hq hf : Bool) (w : World) :
    Calls Tryz.prog 37 #[.agg #[.string S, .string U, .string P, .string H, .int .i64 pt, .string T, .bool hq, .string Q, .bool hf, .string F]] w fun e w' => e = .returned (.agg #[.string S, .string H, .int .i64 (pU S.data.toList pt)]) ∧ Below w.heap.size w w' := by
  have hz := zero_cells Tryz.infoOrg
  have HPT : Hid (∀ W, Calls Tryz.prog 74 #[.agg #[.string S, .string U, .string P, .string H, .int .i64 pt, .string T, .bool hq, .string Q, .bool hf, .string F]] W fun e w' => e = .returned (.int .i64 (pU S.data.toList pt)) ∧ Below W.heap.size W w') := Lib.hid (fun W => uPortU_any S U P H T Q F pt hq hf W)
  obtain ⟨p, hp⟩ : ∃ p, p = pU S.data.toList pt := ⟨_, rfl⟩
  rw [← hp] at HPT ⊢
  clear hp
  have HR0 : Hid (Rw (w.alloc (.cells #[.string S, .string U, .string P, .string H, .int .i64 pt, .string T, .bool hq, .string Q, .bool hf, .string F] 27)) 0 w.heap.size 27 [.string S, .string U, .string P, .string H, .int .i64 pt, .string T, .bool hq, .string Q, .bool hf, .string F]) := Lib.hid (Rw.alloc w _ _ (Nat.zero_le _))
  have HB0 := Lib.hid (below_more (Below.refl _ w) (.cells #[.string S, .string U, .string P, .string H, .int .i64 pt, .string T, .bool hq, .string Q, .bool hf, .string F] 27))
  go_enter Tryz.func37, Tryz.ntmps37
  go_wp2_with fail
  obtain ⟨wq, hwq⟩ : ∃ wq, wq = (w.alloc (.cells #[.string S, .string U, .string P, .string H, .int .i64 pt, .string T, .bool hq, .string Q, .bool hf, .string F] 27)).alloc (.cells #[.string ⟨#[]⟩, .string ⟨#[]⟩, .int .i64 0] 23) := ⟨_, rfl⟩
  have HU1 : Hid (Rw wq 0 w.heap.size 27 [.string S, .string U, .string P, .string H, .int .i64 pt, .string T, .bool hq, .string Q, .bool hf, .string F]) := Lib.hid (by rw [hwq]; exact Rw.more HR0.out _)
  have HZ1 : Hid (Rw wq 0 (w.heap.size + 1) 23 [.string ⟨#[]⟩, .string ⟨#[]⟩, .int .i64 0]) := Lib.hid (by
    have h : Rw ((w.alloc (.cells #[.string S, .string U, .string P, .string H, .int .i64 pt, .string T, .bool hq, .string Q, .bool hf, .string F] 27)).alloc (.cells #[.string ⟨#[]⟩, .string ⟨#[]⟩, .int .i64 0] 23)) 0 (w.alloc (.cells #[.string S, .string U, .string P, .string H, .int .i64 pt, .string T, .bool hq, .string Q, .bool hf, .string F] 27)).heap.size 23 [.string ⟨#[]⟩, .string ⟨#[]⟩, .int .i64 0] := Rw.alloc _ _ _ (Nat.zero_le _)
    rw [hwq]
    have hs : (w.alloc (.cells #[.string S, .string U, .string P, .string H, .int .i64 pt, .string T, .bool hq, .string Q, .bool hf, .string F] 27)).heap.size = w.heap.size + 1 := Array.size_push ..
    rw [hs] at h
    exact h)
  have HB1 : Hid (Below w.heap.size w wq) := Lib.hid (by rw [hwq]; exact below_more HB0.out _)
  rw [← hwq]
  clear hwq HR0 HB0 hz
  have hd := HU1.out
  have k0 := Rw.cell hd (j := 0) rfl
  have k1 := Rw.cell hd (j := 1) rfl
  have k2 := Rw.cell hd (j := 2) rfl
  have k3 := Rw.cell hd (j := 3) rfl
  have k4 := Rw.cell hd (j := 4) rfl
  have k5 := Rw.cell hd (j := 5) rfl
  have k6 := Rw.cell hd (j := 6) rfl
  have k7 := Rw.cell hd (j := 7) rfl
  have k8 := Rw.cell hd (j := 8) rfl
  have k9 := Rw.cell hd (j := 9) rfl
  clear hd
  go_region_with (first | (go_at_call 74; refine (HPT.out _).mono ?_; rintro e w5 ⟨rfl, hb5⟩; have hu5 := Rw.below (Rw.drew HU1.out ⟨1, rfl⟩) hb5; have hz5 := Rw.below (Rw.drew HZ1.out ⟨1, rfl⟩) hb5; have k0 := Rw.cell hu5 (j := 0) rfl; have k1 := Rw.cell hu5 (j := 1) rfl; have k2 := Rw.cell hu5 (j := 2) rfl; have k3 := Rw.cell hu5 (j := 3) rfl; have k4 := Rw.cell hu5 (j := 4) rfl; have k5 := Rw.cell hu5 (j := 5) rfl; have k6 := Rw.cell hu5 (j := 6) rfl; have k7 := Rw.cell hu5 (j := 7) rfl; have k8 := Rw.cell hu5 (j := 8) rfl; have k9 := Rw.cell hu5 (j := 9) rfl; have c0 := Rw.cell hz5 (j := 0) rfl; have f0 := Rw.free hz5 0; have c1 := Rw.cell hz5 (j := 1) rfl; have f1 := Rw.free hz5 1; have c2 := Rw.cell hz5 (j := 2) rfl; have f2 := Rw.free hz5 2))
  all_goals
    go_wp2_with fail
    have HW := Rw.storedAll hz5 [.string S, .string H, .int .i64 p] rfl
    refine bodyPost_ret (v := .agg #[.string S, .string H, .int .i64 p]) ?_ rfl ⟨rfl, ?_⟩
    case refine_1 => exact results_row1 rfl _ _ (w.heap.size + 1) 0 23 [.string S, .string H, .int .i64 p] _ rfl HW Tryz.underlying23 rfl Tryz.sizeOrg
    exact below_stores (below_then (below_then HB1.out (below_draws (Below.refl _ _) ⟨1, rfl⟩)) hb5) (Nat.le_succ _) [.string S, .string H, .int .i64 p]

theorem osame_any (S H S2 H2 : ByteArray) (p p2 : Int) (w : World) :
    Calls Tryz.prog 8 #[.agg #[.string S, .string H, .int .i64 p], .agg #[.string S2, .string H2, .int .i64 p2]] w fun e w' => e = .returned (.bool (sameO ⟨S.data.toList, H.data.toList, p⟩ ⟨S2.data.toList, H2.data.toList, p2⟩)) ∧ Below w.heap.size w w' := by
  obtain ⟨B, hB⟩ : ∃ B, B = decide (S.data.toList = S2.data.toList ∧ H.data.toList = H2.data.toList ∧ p = p2) := ⟨_, rfl⟩
  obtain ⟨N, hN⟩ : ∃ N, N = decide (noneO ⟨S.data.toList, H.data.toList, p⟩) := ⟨_, rfl⟩
  have EQ : ∀ W, (binOp .eql 23 (.agg #[.string S, .string H, .int .i64 p]) (.agg #[.string S2, .string H2, .int .i64 p2])).run Tryz.prog W = .ok (.bool B) W := fun W => by rw [hB]; exact orgEq S H S2 H2 p p2 W
  have HN := Lib.hid (fun W => onone_any S H p W)
  rw [← hN] at HN
  have hS : sameO ⟨S.data.toList, H.data.toList, p⟩ ⟨S2.data.toList, H2.data.toList, p2⟩ = (B && !N) := by rw [hB, hN]; rfl
  rw [hS]
  have HB := Lib.hid (below_more (below_more (Below.refl _ w) (.cells #[.string S, .string H, .int .i64 p] 23)) (.cells #[.string S2, .string H2, .int .i64 p2] 23))
  clear hB hN hS
  cases B
  · go_enter Tryz.func8, Tryz.ntmps8
    go_wp2_with fail
    go_ret
    exact ⟨rfl, HB.out⟩
  · go_enter Tryz.func8, Tryz.ntmps8
    go_wp2_with fail
    refine (HN.out _).mono ?_
    rintro e w1 ⟨rfl, hb⟩
    have HB1 := Lib.hid (below_then HB.out hb)
    clear hb
    go_wp2_with fail
    go_ret
    exact ⟨by cases N <;> rfl, HB1.out⟩

theorem addr_lt (h : List UInt8) : optN (addressP h) < 4294967296 := by
  unfold addressP
  cases hn : numberP h with
  | none => exact (by decide : (0 : Nat) < 4294967296)
  | some a =>
    have := addrP_lt hn
    simp only
    split
    · exact this
    · exact (by decide : (0 : Nat) < 4294967296)

theorem owithin_any (H : ByteArray) (hs : H.size ≤ 1073741824) (w : World) (hT : Tab10 w) :
    Calls Tryz.prog 34 #[.string H] w fun e w' => e = .returned (.bool (inL H.data.toList)) ∧ Below w.heap.size w w' := by
  have HA := Lib.hid (haddress_any H hs w hT)
  have HX : Hid (∀ W, Calls Tryz.prog 71 #[.string H, .string ⟨#[46, 108, 111, 99, 97, 108, 104, 111, 115, 116]⟩] W fun e w' => e = .returned (.bool (Lib.hasSuffix H.data.toList (46 :: localL))) ∧ w' = W) := Lib.hid (fun W => Tryz.strings_HasSuffix H ⟨#[46, 108, 111, 99, 97, 108, 104, 111, 115, 116]⟩ W (by omega))
  obtain ⟨X, hX⟩ : ∃ X, X = Lib.hasSuffix H.data.toList (46 :: localL) := ⟨_, rfl⟩
  obtain ⟨a, ha⟩ : ∃ a, a = optN (addressP H.data.toList) := ⟨_, rfl⟩
  obtain ⟨b, hb⟩ : ∃ b, b = (addressP H.data.toList).isSome := ⟨_, rfl⟩
  have hal : a < 4294967296 := by
    rw [ha]
    exact addr_lt _
  rw [← hX] at HX
  rw [← ha, ← hb] at HA
  have hi : inL H.data.toList = ((b && decide (a / 16777216 = 127)) || decide (H.data.toList = localL) || X) := by
    rw [hX, ha, hb]
    unfold inL
    cases addressP H.data.toList <;> rfl
  rw [hi]
  clear hi hX ha hb hT
  have q0 : (((a : Int) / 16777216 == 127) = decide (a / 16777216 = 127)) := by rw [Bool.eq_iff_iff]; simp; omega
  obtain ⟨c, hc⟩ : ∃ c, c = decide (a / 16777216 = 127) := ⟨_, rfl⟩
  rw [← hc] at q0 ⊢
  obtain ⟨l, hl⟩ : ∃ l, l = decide (H.data.toList = localL) := ⟨_, rfl⟩
  rw [← hl]
  have q1 : (H.toList == [108, 111, 99, 97, 108, 104, 111, 115, 116]) = l := by
    rw [hl]
    by_cases h : H.data.toList = localL
    · rw [decide_eq_true h]; exact lit_yes h
    · rw [decide_eq_false h]; exact lit_no h
  clear hc hl
  have HF : ∀ (b c l : Bool), b = false ∨ c = false → (b && c || l || X) = (l || X) := by intro b c l h; rcases h with rfl | rfl <;> simp
  have key : (b = true ∧ c = true) ∨ (b = false ∨ (b = true ∧ c = false)) := by cases b <;> cases c <;> simp
  rcases key with ⟨rfl, rfl⟩ | key
  · go_enter Tryz.func34, Tryz.ntmps34
    go_wp2_with fail
    refine HA.out.mono ?_
    rintro e w1 ⟨rfl, hb⟩
    have HB := Lib.hid hb
    clear hb
    go_wp2_with fail
    go_ret
    exact ⟨by simp, HB.out⟩
  have HR : Hid ((b && c || l || X) = (l || X)) := Lib.hid (HF b c l (by rcases key with h | ⟨_, h⟩ <;> simp [h]))
  clear HF
  cases l
  · rcases key with rfl | ⟨rfl, rfl⟩
    all_goals
      go_enter Tryz.func34, Tryz.ntmps34
      go_wp2_with fail
      refine HA.out.mono ?_
      rintro e w1 ⟨rfl, hb⟩
      have HB := Lib.hid hb
      clear hb
      go_wp2_with fail
      refine (HX.out _).mono ?_
      rintro e w2 ⟨rfl, rfl⟩
      go_wp2_with fail
      go_ret
      exact ⟨by rw [HR.out]; simp, HB.out⟩
  · rcases key with rfl | ⟨rfl, rfl⟩
    all_goals
      go_enter Tryz.func34, Tryz.ntmps34
      go_wp2_with fail
      refine HA.out.mono ?_
      rintro e w1 ⟨rfl, hb⟩
      have HB := Lib.hid hb
      clear hb
      go_wp2_with fail
      go_ret
      exact ⟨by rw [HR.out]; simp, HB.out⟩

theorem has_two (S : ByteArray) : hasS [⟨#[104, 116, 116, 112, 115]⟩, ⟨#[119, 115, 115]⟩] S = decide (S.data.toList = httpsL ∨ S.data.toList = wssL) := by
  have e : ∀ l : List UInt8, S = ⟨l.toArray⟩ ↔ S.data.toList = l := fun l => ⟨fun h => by rw [h], fun h => by rw [← h]⟩
  rw [Bool.eq_iff_iff]
  unfold hasS
  rw [Lib.containsS_iff, decide_eq_true_eq, List.mem_cons, List.mem_cons]
  show S = ⟨httpsL.toArray⟩ ∨ S = ⟨wssL.toArray⟩ ∨ S ∈ [] ↔ _
  rw [e httpsL, e wssL]
  simp

theorem otrusted_any (S H : ByteArray) (p : Int) (hs : H.size ≤ 1073741824) (w : World) (hT : Tab10 w) :
    Calls Tryz.prog 10 #[.agg #[.string S, .string H, .int .i64 p]] w fun e w' => e = .returned (.bool (trustO ⟨S.data.toList, H.data.toList, p⟩)) ∧ Below w.heap.size w w' := by
  have HW := Lib.hid (fun W (hW : Tab10 W) => owithin_any H hs W hW)
  have HA : Hid (∀ v W, SliceAt W v ([⟨#[104, 116, 116, 112, 115]⟩, ⟨#[119, 115, 115]⟩].map strV) → Calls Tryz.prog 33 #[.string S, v] W fun e w' => e = .returned (.bool (decide (S.data.toList = httpsL ∨ S.data.toList = wssL))) ∧ w' = W) := Lib.hid (fun v W h => by rw [← has_two]; exact any_any v _ S W (by decide) h)
  have HB0 := Lib.hid (below_more (below_more (Below.refl _ w) (.cells #[.string S, .string H, .int .i64 p] 23)) (.cells #[.string ⟨#[104, 116, 116, 112, 115]⟩, .string ⟨#[119, 115, 115]⟩] 9))
  have HS0 : Hid (SliceAt ((w.alloc (.cells #[.string S, .string H, .int .i64 p] 23)).alloc (.cells #[.string ⟨#[104, 116, 116, 112, 115]⟩, .string ⟨#[119, 115, 115]⟩] 9)) (.slice (some ⟨w.heap.size + 1, 0, none⟩) 2 2) ([⟨#[104, 116, 116, 112, 115]⟩, ⟨#[119, 115, 115]⟩].map strV)) := Lib.hid (by
    have h : SliceAt ((w.alloc (.cells #[.string S, .string H, .int .i64 p] 23)).alloc (.cells #[.string ⟨#[104, 116, 116, 112, 115]⟩, .string ⟨#[119, 115, 115]⟩] 9)) (.slice (some ⟨(w.alloc (.cells #[.string S, .string H, .int .i64 p] 23)).heap.size, 0, none⟩) 2 2) ([⟨#[104, 116, 116, 112, 115]⟩, ⟨#[119, 115, 115]⟩].map strV) := SliceAt.lit _ _ _ _ _ rfl
    have hs : (w.alloc (.cells #[.string S, .string H, .int .i64 p] 23)).heap.size = w.heap.size + 1 := Array.size_push ..
    rw [hs] at h
    exact h)
  have HT := Lib.hid hT
  have hR : trustO ⟨S.data.toList, H.data.toList, p⟩ = (decide (S.data.toList = httpsL ∨ S.data.toList = wssL) || inL H.data.toList) := rfl
  rw [hR]
  obtain ⟨b, hb⟩ : ∃ b, b = decide (S.data.toList = httpsL ∨ S.data.toList = wssL) := ⟨_, rfl⟩
  rw [← hb] at HA ⊢
  obtain ⟨i, hi⟩ : ∃ i, i = inL H.data.toList := ⟨_, rfl⟩
  rw [← hi] at HW ⊢
  clear hb hi hT hR
  cases b
  · go_enter Tryz.func10, Tryz.ntmps10
    go_wp2_with fail
    refine (HA.out _ _ HS0.out).mono ?_
    rintro e w1 ⟨rfl, rfl⟩
    go_wp2_with fail
    refine (HW.out _ (tab10_below HT.out HB0.out)).mono ?_
    rintro e w2 ⟨rfl, hb⟩
    have HB2 := Lib.hid (below_then HB0.out hb)
    clear hb
    go_wp2_with fail
    go_ret
    exact ⟨by simp, HB2.out⟩
  · go_enter Tryz.func10, Tryz.ntmps10
    go_wp2_with fail
    refine (HA.out _ _ HS0.out).mono ?_
    rintro e w1 ⟨rfl, rfl⟩
    go_wp2_with fail
    go_ret
    exact ⟨by simp, HB0.out⟩

theorem osecure_any (S U P H T Q F : ByteArray) (pt : Int) (hq hf : Bool) (hs : H.size ≤ 1073741824) (w : World) (hT : Tab10 w) :
    Calls Tryz.prog 12 #[.agg #[.string S, .string U, .string P, .string H, .int .i64 pt, .string T, .bool hq, .string Q, .bool hf, .string F]] w fun e w' => e = .returned (.bool (trustO ⟨S.data.toList, H.data.toList, pU S.data.toList pt⟩)) ∧ Below w.heap.size w w' := by
  have HO := Lib.hid (fun W => oOf_any S U P H T Q F pt hq hf W)
  obtain ⟨p, hp⟩ : ∃ p, p = pU S.data.toList pt := ⟨_, rfl⟩
  rw [← hp] at HO ⊢
  have HR0 : Hid (Rw (w.alloc (.cells #[.string S, .string U, .string P, .string H, .int .i64 pt, .string T, .bool hq, .string Q, .bool hf, .string F] 27)) 0 w.heap.size 27 [.string S, .string U, .string P, .string H, .int .i64 pt, .string T, .bool hq, .string Q, .bool hf, .string F]) := Lib.hid (Rw.alloc w _ _ (Nat.zero_le _))
  have HB0 := Lib.hid (below_more (Below.refl _ w) (.cells #[.string S, .string U, .string P, .string H, .int .i64 pt, .string T, .bool hq, .string Q, .bool hf, .string F] 27))
  have HTR := Lib.hid (fun W (hW : Tab10 W) => otrusted_any S H p hs W hW)
  have HT := Lib.hid hT
  clear hp hT
  go_enter Tryz.func12, Tryz.ntmps12
  go_wp2_with fail
  refine (HO.out _).mono ?_
  rintro e w1 ⟨rfl, hb⟩
  have HB1 := Lib.hid (below_then HB0.out hb)
  clear hb
  go_wp2_with fail
  refine (HTR.out _ (tab10_below HT.out HB1.out)).mono ?_
  rintro e w2 ⟨rfl, hb⟩
  have HB2 := Lib.hid (below_then HB1.out hb)
  clear hb
  go_wp2_with fail
  go_ret
  exact ⟨rfl, HB2.out⟩

end Go.Proofs.YtdgmcpdphifmbaaGreatDoor
