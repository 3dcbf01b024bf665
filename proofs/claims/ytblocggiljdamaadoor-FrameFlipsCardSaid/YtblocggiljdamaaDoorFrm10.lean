/- Contracts: the code's Scan and the reference's; two rows of rows held against each other. -/
import Derived.BigRegion
import Derived.Deep.RegionHeld3
import Derived.Test.YtblocggiljdamaaDoorProg
import Derived.Test.YtblocggiljdamaaDoorKit
import Derived.Test.YtblocggiljdamaaDoorRow
import Derived.Test.YtblocggiljdamaaDoorSha
import Derived.Test.YtblocggiljdamaaDoorCod5
import Derived.Test.YtblocggiljdamaaDoorCod7
import Derived.Test.YtblocggiljdamaaDoorCod9
import Derived.Test.YtblocggiljdamaaDoorFrm0
import Derived.Test.YtblocggiljdamaaDoorFrm3
import Derived.Test.YtblocggiljdamaaDoorFrm6
import Derived.Test.YtblocggiljdamaaDoorFrm9
namespace Go.Proofs.YtblocggiljdamaaDoor
open Go.RowKit Go.Proofs

theorem Tryd.infoSl : (Tryd.prog.info? 23).map (fun i => (i.zero, i.size, i.bytes)) = some (some (.slice none 0 0), 1, 24) := by kernel_rfl

/-- Rows of bytes of the call's own, each of the call's own. -/
def RowsOf (w : World) (base : Nat) (v : Value) (ls : List (List UInt8)) : Prop :=
  ∃ xs : List Value, w.ownsRow base 23 1 v ls.length xs ∧ ∀ (j : Nat) (l : List UInt8), ls[j]? = some l → ∃ u, xs[j]? = some u ∧ w.ownsRow base 5 1 u l.length (l.map byteV)

theorem rowsOf_nil (w : World) (base : Nat) : RowsOf w base (.slice none 0 0) [] := ⟨[], ⟨rfl, .inl ⟨rfl, rfl⟩⟩, fun j l h => by simp at h⟩

theorem rowsOf_keep {w w' : World} {base : Nat} {v : Value} {ls : List (List UInt8)} (h : RowsOf w base v ls) (hb : Below w.heap.size w w') : RowsOf w' base v ls := by
  obtain ⟨xs, h1, h2⟩ := h
  refine ⟨xs, own_below h1 hb, fun j l hj => ?_⟩
  obtain ⟨u, hu, ho⟩ := h2 j l hj
  exact ⟨u, hu, own_below ho hb⟩

theorem own_apart {w : World} {b1 b2 : Nat} {v1 v2 : Value} {n1 n2 : Nat} {xs1 xs2 : List Value} {e1 e2 : TypeId} (he : e1 ≠ e2) (h1 : w.ownsRow b1 e1 1 v1 n1 xs1) (h2 : w.ownsRow b2 e2 1 v2 n2 xs2) : v1.ownBlock = none ∨ v1.ownBlock ≠ v2.ownBlock := by
  rcases h1.2 with ⟨hv, _⟩ | ⟨g1, c1, cur1, hv1, _, hh1, _⟩
  · exact .inl (by rw [hv]; rfl)
  · rcases h2.2 with ⟨hv, _⟩ | ⟨g2, c2, cur2, hv2, _, hh2, _⟩
    · exact .inr (by rw [hv, hv1]; simp [Value.ownBlock])
    · refine .inr ?_
      rw [hv1, hv2]
      intro e
      simp [Value.ownBlock] at e
      subst e
      rw [hh1] at hh2
      injection hh2 with hh2
      injection hh2 with _ e2 _
      exact he e2

theorem oneCell_slice (a : Option Addr) (n c : Nat) : (Value.slice a n c).oneCell' = true := rfl

/-- rows = append(rows, row). -/
theorem wpList_append_rows {W w : World} {ops : Array Oper} {rest : List Oper} {o : Oper} {a : Act} {Q : Exit → Act → World → Prop} (hgd : o.guard = none) (s y : Operand)
    (ho : o.op = .call { callee := .builtin .append, args := #[s, y], argTypes := #[22, 22] })
    (base : Nat) (u : Value) (l : List UInt8) (hW : W = w.alloc (.cells #[u] 23))
    (v : Value) (ls : List (List UInt8)) (hs : a.eval s = v) (hr : RowsOf w base v ls) (hu : w.ownsRow base 5 1 u l.length (l.map byteV))
    (g : Nat) (hx : a.eval y = .slice (some ⟨g, 0, none⟩) 1 1) (hg0 : g = w.heap.size) (hn : ls.length < 1099511627776) (hbase : base ≤ w.heap.size)
    (h : ∀ v' w', RowsOf w' base v' (ls ++ [l]) → Below base w w' → wpList Tryd.prog ops Q rest (a.put o.dst v') w') : wpList Tryd.prog ops Q (o :: rest) a W := by
  obtain ⟨i0, hi, hz0, hz1, hz2⟩ := info_parts Tryd.infoSl
  subst hW hg0
  obtain ⟨xs, hown, hrows⟩ := hr
  obtain ⟨ua, uc, rfl⟩ := own_len hu
  refine wpList_append_own _ hgd s y 22 ho base 23 i0 (.slice none 0 0) 1 24 Tryd.underlying22 hi hz0 hz1 hz2 rfl (by decide) v ls.length xs hs (hown.alloc _) ⟨w.heap.size, 0, none⟩ 1 1 [.slice ua l.length uc] hx rfl (cell_one_new _ _ _) ?_ ?_ ?_ ?_ ?_
  · intro x hx2
    simp at hx2
    rw [hx2]; rfl
  · unfold maxLen; omega
  · omega
  · simp; omega
  · intro v' w' hown' hg _
    have hbw : Below base w w' := ((Below.refl base w).alloc hbase _).trans (below_own (hown.alloc _) hg (by simp; omega))
    refine h v' w' ⟨xs ++ [.slice ua l.length uc], by rw [List.length_append]; exact hown', fun j m hj => ?_⟩ hbw
    have hlx : xs.length = ls.length := by have := hown.1; omega
    rcases Nat.lt_or_ge j ls.length with hlt | hge
    · rw [List.getElem?_append_left hlt] at hj
      obtain ⟨q, hq, hqo⟩ := hrows j m hj
      refine ⟨q, by rw [List.getElem?_append_left (by omega)]; exact hq, ?_⟩
      exact (hqo.alloc _).kept hg (own_apart (by decide) (hqo.alloc (.cells #[.slice ua l.length uc] 23)) (hown.alloc (.cells #[.slice ua l.length uc] 23)))
    · rw [List.getElem?_append_right hge] at hj
      have hj0 : j - ls.length = 0 := by
        rcases Nat.eq_zero_or_pos (j - ls.length) with h0 | h0
        · exact h0
        · rw [List.getElem?_eq_none (by simp; omega)] at hj; cases hj
      rw [hj0] at hj
      cases hj
      refine ⟨_, by rw [List.getElem?_append_right (by omega), hlx, hj0]; rfl, ?_⟩
      exact (hu.alloc _).kept hg (own_apart (by decide) (hu.alloc (.cells #[.slice ua l.length uc] 23)) (hown.alloc (.cells #[.slice ua l.length uc] 23)))

/-- What a scan answers. -/
def scanV (l : List UInt8) (base : Nat) (w' : World) (e : Ending) : Prop :=
  ∃ v, e = .returned (.tuple #[v, .int .i64 (((scanAll l).2.1 : Nat) : Int), .int .i64 (((scanAll l).2.2 : Nat) : Int)]) ∧ RowsOf w' base v (scanAll l).1

/-- How far a scan has come. -/
def ScanAt (l : List UInt8) (k : Nat) (done : List (List UInt8)) : Prop := scanAll l = (done ++ (scanAll (l.drop k)).1, k + (scanAll (l.drop k)).2.1, (scanAll (l.drop k)).2.2)

theorem scanAt_zero (l : List UInt8) : ScanAt l 0 [] := by simp [ScanAt]

theorem scanAt_step {l p : List UInt8} {k n : Nat} {done : List (List UInt8)} (h : ScanAt l k done) (hn : nextS (l.drop k) = (p, n, 1)) : ScanAt l (k + n) (done ++ [p]) := by
  unfold ScanAt at *
  rw [h, scan_step hn, List.drop_drop]
  simp [Nat.add_assoc]

theorem scanAt_stop {l : List UInt8} {k : Nat} {done : List (List UInt8)} (h : ScanAt l k done) (hk : k < l.length) (hn : (nextS (l.drop k)).2.2 ≠ 1) : scanAll l = (done, k, (nextS (l.drop k)).2.2) := by
  unfold ScanAt at h
  rw [h, scan_stop (by intro e; have := congrArg List.length e; simp at this; omega) hn]
  simp

theorem scanAt_end {l : List UInt8} {k : Nat} {done : List (List UInt8)} (h : ScanAt l k done) (hk : l.length ≤ k) : scanAll l = (done, k, 1) := by
  unfold ScanAt at h
  rw [h, List.drop_of_length_le hk, scan_nil]
  simp

theorem next_kind (l : List UInt8) : (nextS l).2.2 = 1 ∨ (nextS l).2.2 = 2 ∨ (nextS l).2.2 = 3 := by
  unfold nextS
  split
  · simp
  · split
    · simp
    · split
      · simp
      · split <;> simp

set_option maxHeartbeats 1000000 in
theorem scan_any (l : List UInt8) (v : Value) (w : World) (h : ByteSl w w.heap.size v l) (ht : NibAt w) (hl : l.length ≤ 1000000000) :
    Calls Tryd.prog 18 #[v] w fun e w' => scanV l w.heap.size w' e ∧ Below w.heap.size w w' := by
  obtain ⟨a, c, rfl, hc, hlies⟩ := byteSl_len h
  obtain ⟨N, hN⟩ : ∃ N, N = l.length := ⟨_, rfl⟩
  rw [← hN] at hc ⊢
  have HLN := Lib.hid hl
  have HN := Lib.hid hN
  have HL := Lib.hid hlies
  have HC := Lib.hid hc
  have HT := Lib.hid ht
  have hNb : (N : Int) ≤ 1000000000 := by omega
  clear h hlies hN hl hc ht
  go_enter Tryd.func18, Tryd.ntmps18
  go_wp2_with fail
  go_loopw [2, 3] (fun r i wr => ∃ (k : Nat) (done : List (List UInt8)), k ≤ N ∧ i = .int .i64 k ∧ done.length ≤ k ∧ Hid (ScanAt l k done) ∧ Hid (RowsOf wr w.heap.size r done) ∧ Hid (Below w.heap.size w wr)) (fun _ i _ => N - (intOf i).toNat)
  case atStart => exact ⟨0, [], Nat.zero_le _, rfl, Nat.le_refl _, Lib.hid (scanAt_zero l), Lib.hid (rowsOf_nil _ _), Lib.hid (Below.refl _ _)⟩
  case round =>
    obtain ⟨k, done, hk, rfl, hdl, HS, HR, HB⟩ := hrel
    obtain ⟨w1, hw1⟩ : ∃ w1 : World, w1 = wr := ⟨_, rfl⟩
    subst hw1
    by_cases hlt : k < N
    · have hne : l ≠ [] := by intro e; have := HN.out; rw [e] at this; simp at this; omega
      obtain ⟨b, o, rfl, hbw, hat⟩ := HL.out.resolve_left hne
      have hck : ¬ c = k := by have := HC.out; omega
      have hs : ∀ W, (Instr.slice 23 (.slice (some ⟨b, o, none⟩) N c) (some (.int .i64 (k : Int))) none none).run Tryd.prog W = .ok (.slice (some ⟨b, o + k, none⟩) (N - k) (c - k)) W := fun W => by
        have h := slice_from (P := Tryd.prog) (t := 23) (by kernel_rfl) (by kernel_rfl) b o N c k (by omega) W
        rw [if_neg hck] at h
        exact h
      have hdk : (l.drop k).length = N - k := by rw [List.length_drop, ← HN.out]
      have hsl : ByteSl w1 w1.heap.size (.slice (some ⟨b, o + k, none⟩) (N - k) (c - k)) (l.drop k) := .inr ⟨⟨b, o + k, none⟩, c - k, by rw [hdk], by rw [hdk]; have := HC.out; omega, .inr ⟨b, o + k, rfl, Nat.lt_of_lt_of_le hbw HB.out.size, fun j x hj => by
        rw [List.getElem?_drop] at hj
        rw [Nat.add_assoc]
        exact (hat.keep HB.out hbw) (k + j) x hj⟩⟩
      have hnx := next_any (l.drop k) _ w1 hsl (nib_stay HT.out HB.out) (by rw [List.length_drop]; have := HLN.out; omega)
      have HNX := Lib.hid hnx
      have hy : (k : Int) < (N : Int) := by omega
      have HKL := Lib.hid hlt
      have HDL := Lib.hid hdl
      clear hne hat hbw hck hdk hsl hnx hk hlt hdl
      go_wp2_with fail
      refine (HNX.out).mono ?_
      rintro e w2 ⟨⟨v2, rfl, hown2⟩, hb2⟩
      obtain ⟨⟨p, m, K⟩, hpmk⟩ : ∃ q, q = nextS (l.drop k) := ⟨_, rfl⟩
      rw [← hpmk] at hown2 ⊢
      have hr2 := rowsOf_keep HR.out hb2
      have hb12 := below_then HB.out hb2
      have HR2 := Lib.hid hr2
      have HB2 := Lib.hid hb12
      have hown2' : w2.ownsRow w.heap.size 5 1 v2 p.length (p.map byteV) := own_mono hown2 HB.out.size
      obtain ⟨a2, c2, rfl⟩ := own_len hown2'
      have HO2 := Lib.hid hown2'
      have HPM := Lib.hid hpmk
      clear hpmk hown2 hb2 hr2 hb12 hown2' HNX
      by_cases hK : K = 1
      · have hK1 : ((K : Int) != 1) = false := by rw [hK]; rfl
        subst hK
        have hstep := scanAt_step HS.out HPM.out.symm
        have hw := next_whole HPM.out.symm
        have hm8 : 8 ≤ m := by omega
        have hmN : k + m ≤ N := by have h3 := hw.2.2.1; rw [List.length_drop, ← HN.out] at h3; have := HKL.out; omega
        have HST := Lib.hid hstep
        have HM8 := Lib.hid hm8
        have HMN := Lib.hid hmN
        have hmb : (m : Int) ≤ 1000000000 := by omega
        have hkm : (k : Int) + (m : Int) ≤ 1000000000 := by omega
        have hdn : done.length < 1099511627776 := by have := HDL.out; have := HKL.out; omega
        clear hstep hw hm8 hmN
        go_wp2_with (at_builtin; refine wpList_append_rows rfl (.tmp 25) (.tmp 27) rfl w.heap.size (.slice a2 p.length c2) p rfl _ done rfl HR2.out HO2.out w2.heap.size rfl rfl hdn HB2.out.size ?_; intro v3 w3 hr3 hb3)
        go_roundw
        case rel =>
          have := HM8.out
          have := HMN.out
          have := HDL.out
          refine ⟨k + m, done ++ [p], by omega, by go_num, by rw [List.length_append]; simp; omega, HST, Lib.hid hr3, Lib.hid (HB2.out.trans hb3)⟩
        case measure =>
          have := HM8.out
          have := HMN.out
          have := HKL.out
          simp [intOf]
          omega
      · have hK1 : ((K : Int) != 1) = true := by rw [bne_iff_ne]; omega
        have hstop := scanAt_stop HS.out (by rw [← HN.out]; exact HKL.out) (by rw [← HPM.out]; exact hK)
        rw [← HPM.out] at hstop
        have HST := Lib.hid hstop
        clear hstop hK
        go_wp2_with fail
        go_ret3
        refine ⟨?_, HB2.out⟩
        unfold scanV
        rw [HST.out]
        exact ⟨_, rfl, HR2.out⟩
    · have hend := scanAt_end HS.out (by rw [← HN.out]; omega)
      have HST := Lib.hid hend
      have hy : ¬ (k : Int) < (N : Int) := by omega
      clear hend hk hlt hdl
      go_wp2_with fail
      go_ret3
      refine ⟨?_, HB.out⟩
      unfold scanV
      rw [HST.out]
      exact ⟨_, rfl, HR.out⟩

set_option maxHeartbeats 1000000 in
theorem refscan_any (l : List UInt8) (v : Value) (w : World) (h : ByteSl w w.heap.size v l) (hl : l.length ≤ 1000000000) :
    Calls Tryd.prog 19 #[v] w fun e w' => scanV l w.heap.size w' e ∧ Below w.heap.size w w' := by
  obtain ⟨a, c, rfl, hc, hlies⟩ := byteSl_len h
  obtain ⟨N, hN⟩ : ∃ N, N = l.length := ⟨_, rfl⟩
  rw [← hN] at hc ⊢
  have HLN := Lib.hid hl
  have HN := Lib.hid hN
  have HL := Lib.hid hlies
  have HC := Lib.hid hc
  have hNb : (N : Int) ≤ 1000000000 := by omega
  clear h hlies hN hl hc
  go_enter Tryd.func19, Tryd.ntmps19
  go_wp2_with fail
  go_loopw [5, 6] (fun r i wr => ∃ (k : Nat) (done : List (List UInt8)), k ≤ N ∧ i = .int .i64 k ∧ done.length ≤ k ∧ Hid (ScanAt l k done) ∧ Hid (RowsOf wr w.heap.size r done) ∧ Hid (Below w.heap.size w wr)) (fun _ i _ => N - (intOf i).toNat)
  case atStart => exact ⟨0, [], Nat.zero_le _, rfl, Nat.le_refl _, Lib.hid (scanAt_zero l), Lib.hid (rowsOf_nil _ _), Lib.hid (Below.refl _ _)⟩
  case round =>
    obtain ⟨k, done, hk, rfl, hdl, HS, HR, HB⟩ := hrel
    obtain ⟨w1, hw1⟩ : ∃ w1 : World, w1 = wr := ⟨_, rfl⟩
    subst hw1
    by_cases hlt : k < N
    · have hne : l ≠ [] := by intro e; have := HN.out; rw [e] at this; simp at this; omega
      obtain ⟨b, o, rfl, hbw, hat⟩ := HL.out.resolve_left hne
      have hck : ¬ c = k := by have := HC.out; omega
      have hs : ∀ W, (Instr.slice 23 (.slice (some ⟨b, o, none⟩) N c) (some (.int .i64 (k : Int))) none none).run Tryd.prog W = .ok (.slice (some ⟨b, o + k, none⟩) (N - k) (c - k)) W := fun W => by
        have h := slice_from (P := Tryd.prog) (t := 23) (by kernel_rfl) (by kernel_rfl) b o N c k (by omega) W
        rw [if_neg hck] at h
        exact h
      have hdk : (l.drop k).length = N - k := by rw [List.length_drop, ← HN.out]
      have hsl : ByteSl w1 w1.heap.size (.slice (some ⟨b, o + k, none⟩) (N - k) (c - k)) (l.drop k) := .inr ⟨⟨b, o + k, none⟩, c - k, by rw [hdk], by rw [hdk]; have := HC.out; omega, .inr ⟨b, o + k, rfl, Nat.lt_of_lt_of_le hbw HB.out.size, fun j x hj => by
        rw [List.getElem?_drop] at hj
        rw [Nat.add_assoc]
        exact (hat.keep HB.out hbw) (k + j) x hj⟩⟩
      have hnx := refnext_any (l.drop k) _ w1 hsl (by rw [List.length_drop]; have := HLN.out; omega)
      have HNX := Lib.hid hnx
      have hy : (k : Int) < (N : Int) := by omega
      have HKL := Lib.hid hlt
      have HDL := Lib.hid hdl
      clear hne hat hbw hck hdk hsl hnx hk hlt hdl
      go_wp2_with fail
      refine (HNX.out).mono ?_
      rintro e w2 ⟨⟨v2, rfl, hown2⟩, hb2⟩
      obtain ⟨⟨p, m, K⟩, hpmk⟩ : ∃ q, q = nextS (l.drop k) := ⟨_, rfl⟩
      rw [← hpmk] at hown2 ⊢
      have hr2 := rowsOf_keep HR.out hb2
      have hb12 := below_then HB.out hb2
      have HR2 := Lib.hid hr2
      have HB2 := Lib.hid hb12
      have hown2' : w2.ownsRow w.heap.size 5 1 v2 p.length (p.map byteV) := own_mono hown2 HB.out.size
      obtain ⟨a2, c2, rfl⟩ := own_len hown2'
      have HO2 := Lib.hid hown2'
      have HPM := Lib.hid hpmk
      clear hpmk hown2 hb2 hr2 hb12 hown2' HNX
      by_cases hK : K = 1
      · have hK1 : ((K : Int) != 1) = false := by rw [hK]; rfl
        subst hK
        have hstep := scanAt_step HS.out HPM.out.symm
        have hw := next_whole HPM.out.symm
        have hm8 : 8 ≤ m := by omega
        have hmN : k + m ≤ N := by have h3 := hw.2.2.1; rw [List.length_drop, ← HN.out] at h3; have := HKL.out; omega
        have HST := Lib.hid hstep
        have HM8 := Lib.hid hm8
        have HMN := Lib.hid hmN
        have hmb : (m : Int) ≤ 1000000000 := by omega
        have hkm : (k : Int) + (m : Int) ≤ 1000000000 := by omega
        have hdn : done.length < 1099511627776 := by have := HDL.out; have := HKL.out; omega
        clear hstep hw hm8 hmN
        go_wp2_with (at_builtin; refine wpList_append_rows rfl (.tmp 27) (.tmp 29) rfl w.heap.size (.slice a2 p.length c2) p rfl _ done rfl HR2.out HO2.out w2.heap.size rfl rfl hdn HB2.out.size ?_; intro v3 w3 hr3 hb3)
        go_roundw
        case rel =>
          have := HM8.out
          have := HMN.out
          have := HDL.out
          refine ⟨k + m, done ++ [p], by omega, by go_num, by rw [List.length_append]; simp; omega, HST, Lib.hid hr3, Lib.hid (HB2.out.trans hb3)⟩
        case measure =>
          have := HM8.out
          have := HMN.out
          have := HKL.out
          simp [intOf]
          omega
      · have hK1 : ((K : Int) != 1) = true := by rw [bne_iff_ne]; omega
        have hstop := scanAt_stop HS.out (by rw [← HN.out]; exact HKL.out) (by rw [← HPM.out]; exact hK)
        rw [← HPM.out] at hstop
        have HST := Lib.hid hstop
        clear hstop hK
        go_wp2_with fail
        go_ret3
        refine ⟨?_, HB2.out⟩
        unfold scanV
        rw [HST.out]
        exact ⟨_, rfl, HR2.out⟩
    · have hend := scanAt_end HS.out (by rw [← HN.out]; omega)
      have HST := Lib.hid hend
      have hy : ¬ (k : Int) < (N : Int) := by omega
      clear hend hk hlt hdl
      go_wp2_with fail
      go_ret3
      refine ⟨?_, HB.out⟩
      unfold scanV
      rw [HST.out]
      exact ⟨_, rfl, HR.out⟩

end Go.Proofs.YtblocggiljdamaaDoor
