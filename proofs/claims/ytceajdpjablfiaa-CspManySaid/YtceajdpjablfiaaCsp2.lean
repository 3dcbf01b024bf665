/- csp: one directive is read. -/
import Derived.Test.YtceajdpjablfiaaShelf
import Derived.BigRegion
import Derived.BigQuiet
import Derived.Test.YtceajdpjablfiaaProg
import Derived.Test.YtceajdpjablfiaaKit
import Derived.Test.YtceajdpjablfiaaPlain
import Derived.Test.YtceajdpjablfiaaStr
import Derived.Test.YtceajdpjablfiaaAsc4
import Derived.Test.YtceajdpjablfiaaRow
import Derived.Test.YtceajdpjablfiaaRow2
import Derived.Test.YtceajdpjablfiaaCod5
import Derived.Test.YtceajdpjablfiaaTxt2
import Derived.Test.YtceajdpjablfiaaHst1
import Derived.Test.YtceajdpjablfiaaHdr10
import Derived.Test.YtceajdpjablfiaaCsp0
import Derived.Test.YtceajdpjablfiaaCsp1
namespace Go.Proofs.Ytceajdpjablfiaa
open Go.RowKit Go.Proofs

theorem Try.infoDirZ : (Try.prog.info? 30).map (fun i => (i.zero, i.size)) = some (some (.agg #[.string ⟨#[]⟩, .slice none 0 0]), 2) := by kernel_rfl

theorem Try.sizeDir : (Try.prog.info? 30).map (·.size) = some 2 := by kernel_rfl

/-- The zero Directive. -/
def zeroDir : Value := .agg #[.string ⟨#[]⟩, .slice none 0 0]

theorem dir_one (n : ByteArray) (a : Option Addr) (k c : Nat) : (#[Value.string n, .slice a k c] : Array Value).all (·.oneCell') = true := by simp [Value.oneCell']

theorem strSl_cells {w : World} {u : Value} {xs : List (List UInt8)} {b g : Nat} {cs : List Value} (h : StrSl w u xs) (hr : Rw w b g 30 cs) (ys : List Value) : StrSl (w.setCells g 0 ys) u xs :=
  strSl_same h fun k cur fr he => setCells_heap _ _ _ _ _ (by
    rintro rfl
    have h2 := hr.2
    rw [he] at h2
    injection h2 with h2
    injection h2 with _ e2 _
    exact absurd e2 (by decide))

/-- The result's block, and what is told. -/
theorem dir_back {w W : World} {n : ByteArray} {a : Option Addr} {k c : Nat} (h : Rw W 0 w.heap.size 30 [.string ⟨#[]⟩, .slice none 0 0]) (hb : Below w.heap.size w W) :
    Rw (W.setCells w.heap.size 0 [.string n, .slice a k c]) 0 w.heap.size 30 [.string n, .slice a k c] ∧ Below w.heap.size w (W.setCells w.heap.size 0 [.string n, .slice a k c]) :=
  ⟨Rw.storedAll h _ rfl, below_setCells (Nat.le_refl _) _ _ _ hb⟩

theorem words_tail {w : World} {base : Nat} {v : Value} {x : List UInt8} {r : List (List UInt8)} (h : w.ownsRow base 9 1 v (x :: r).length ((x :: r).map strL)) :
    ∃ g c b, v = .slice (some ⟨g, 0, none⟩) (r.length + 1) c ∧ base ≤ g ∧ w.cell? ⟨g, 0, none⟩ = some (strL x) ∧ StrSl w (.slice (some ⟨g, b, none⟩) r.length (c - 1)) r ∧
      ∀ W, (Instr.slice 27 (.slice (some ⟨g, 0, none⟩) (r.length + 1) c) (some (.int .i64 1)) none none).run Try.prog W = .ok (.slice (some ⟨g, b, none⟩) r.length (c - 1)) W := by
  rcases h.2 with ⟨_, hn⟩ | ⟨g, cap, cur, hv, hb, hh, hnc, _⟩
  · simp at hn
  · have hc0 : w.cell? ⟨g, 0, none⟩ = some (strL x) := by
      have h2 := strSl_own h
      rcases h2 with ⟨_, hn⟩ | ⟨b, o, c, cur, fr, hv2, _, hat⟩
      · cases hn
      · rw [hv] at hv2
        injection hv2 with e1 _ _
        injection e1 with e1
        injection e1 with e1 e2 _
        subst e1 e2
        exact hat 0 x rfl
    rw [List.length_cons] at hv hnc
    have hsl : StrSl w (.slice (some ⟨g, if cap = 1 then 0 else 1, none⟩) r.length (cap - 1)) r := by
      by_cases hr : r = []
      · subst hr
        exact .inr ⟨g, _, _, cur, _, rfl, hh, fun j y hj => by simp at hj⟩
      · have hl : 0 < r.length := List.length_pos_iff.2 hr
        rw [if_neg (by omega)]
        refine .inr ⟨g, 1, _, cur, _, rfl, hh, fun j y hj => ?_⟩
        have h2 := strSl_own h
        rcases h2 with ⟨_, hn⟩ | ⟨b, o, c, cur, fr, hv2, _, hat⟩
        · cases hn
        · rw [hv] at hv2
          injection hv2 with e1 _ _
          injection e1 with e1
          injection e1 with e1 e2 _
          subst e1 e2
          have := hat (j + 1) y (by simpa using hj)
          rw [show 0 + (j + 1) = 1 + j from by omega] at this
          exact this
    refine ⟨g, cap, if cap = 1 then 0 else 1, hv, hb, hc0, hsl, fun W => ?_⟩
    have h := slice_from (P := Try.prog) (t := 27) (by kernel_rfl) (by kernel_rfl) g 0 (r.length + 1) cap 1 (by omega) W
    rw [show ((1 : Nat) : Int) = 1 from rfl] at h
    rw [h]
    by_cases hc : cap = 1
    · simp [hc]
    · simp [hc]

theorem cdir_no (s : ByteArray) (hs : s.size ≤ 100000) (h : dirO s.data.toList = none) (w : World) :
    Calls Try.prog 23 #[.string s] w fun e w' => e = .returned (.tuple #[zeroDir, .bool false]) ∧ Below w.heap.size w w' := by
  have HB := Lib.hid (fun W => blanks_any s (by omega) W)
  have HC := Lib.hid (fun W => casc_any s (by omega) W)
  have hz := zero_cells Try.infoDirZ
  have HR0 := Lib.hid (Rw.alloc w 30 #[.string ⟨#[]⟩, .slice none 0 0] (Nat.zero_le w.heap.size))
  by_cases ha : ascB s.data.toList = true
  · have hw : wordsL s.data.toList = [] := by
      unfold dirO at h
      rw [if_pos ha] at h
      split at h
      · assumption
      · cases h
    have HA := Lib.hid ha
    have HW := Lib.hid hw
    clear h ha hw
    go_enter Try.func23, Try.ntmps23
    go_wp2_with (first | (refine wpList_alloc_z rfl 30 rfl #[.string ⟨#[]⟩, .slice none 0 0] hz ?_) | fail)
    refine (HB.out _).mono ?_
    rintro e w1 ⟨⟨v, rfl, hown⟩, hb1⟩
    rw [HW.out] at hown
    obtain ⟨va, vc, rfl⟩ := own_len hown
    have hr1 := Rw.below HR0.out hb1
    have HTH := Lib.hid (Rw.there hr1 0 2 (Nat.le_refl _))
    obtain ⟨hend, hbe⟩ := dir_back (n := ⟨#[]⟩) (a := none) (k := 0) (c := 0) hr1 (below_then (below_more (Below.refl _ _) _) hb1)
    have HEND := Lib.hid hend
    have HBE := Lib.hid hbe
    clear hown hr1 hend hbe hb1
    go_wp2_with fail
    refine (HC.out _).mono ?_
    rw [HA.out]
    rintro e w2 ⟨rfl, rfl⟩
    go_wp2_with (first | (refine wpList_store_mid rfl 30 (.tmp 2) (.tmp 15) rfl w.heap.size 0 #[.string ⟨#[]⟩, .slice none 0 0] rfl rfl HTH.out Try.sizeDir (dir_one _ _ _ _) ?_) | fail)
    refine bodyPost_ret (v := .tuple #[zeroDir, .bool false]) ?_ rfl ⟨rfl, HBE.out⟩
    exact results_row_tmp rfl _ _ w.heap.size 0 _ [.string ⟨#[]⟩, .slice none 0 0] _ rfl HEND.out Try.underlying30 rfl Try.sizeDir _ rfl
  · have HA : Hid (ascB s.data.toList = false) := Lib.hid (by simpa using ha)
    clear h ha
    go_enter Try.func23, Try.ntmps23
    go_wp2_with (first | (refine wpList_alloc_z rfl 30 rfl #[.string ⟨#[]⟩, .slice none 0 0] hz ?_) | fail)
    refine (HB.out _).mono ?_
    rintro e w1 ⟨⟨v, rfl, hown⟩, hb1⟩
    obtain ⟨va, vc, rfl⟩ := own_len hown
    have hr1 := Rw.below HR0.out hb1
    have HTH := Lib.hid (Rw.there hr1 0 2 (Nat.le_refl _))
    obtain ⟨hend, hbe⟩ := dir_back (n := ⟨#[]⟩) (a := none) (k := 0) (c := 0) hr1 (below_then (below_more (Below.refl _ _) _) hb1)
    have HEND := Lib.hid hend
    have HBE := Lib.hid hbe
    clear hown hr1 hend hbe hb1
    go_wp2_with fail
    refine (HC.out _).mono ?_
    rw [HA.out]
    rintro e w2 ⟨rfl, rfl⟩
    go_wp2_with (first | (refine wpList_store_mid rfl 30 (.tmp 2) (.tmp 15) rfl w.heap.size 0 #[.string ⟨#[]⟩, .slice none 0 0] rfl rfl HTH.out Try.sizeDir (dir_one _ _ _ _) ?_) | fail)
    refine bodyPost_ret (v := .tuple #[zeroDir, .bool false]) ?_ rfl ⟨rfl, HBE.out⟩
    exact results_row_tmp rfl _ _ w.heap.size 0 _ [.string ⟨#[]⟩, .slice none 0 0] _ rfl HEND.out Try.underlying30 rfl Try.sizeDir _ rfl

set_option maxRecDepth 100000 in
theorem cdir_yes (s : ByteArray) (hs : s.size ≤ 100000) {d : DirM} (h : dirO s.data.toList = some d) (w : World) :
    Calls Try.prog 23 #[.string s] w fun e w' => (∃ a c, e = .returned (.tuple #[.agg #[strL d.cdn, .slice a d.cdl.length c], .bool true]) ∧ StrSl w' (.slice a d.cdl.length c) d.cdl) ∧ Below w.heap.size w w' := by
  obtain ⟨ha, x, r, hw, rfl⟩ := dirO_some h
  have HB := Lib.hid (fun W => blanks_any s (by omega) W)
  have HC := Lib.hid (fun W => casc_any s (by omega) W)
  obtain ⟨X, hX⟩ : ∃ X : ByteArray, X = ⟨x.toArray⟩ := ⟨_, rfl⟩
  obtain ⟨Y, hY⟩ : ∃ Y : ByteArray, Y = ⟨(lowL x).toArray⟩ := ⟨_, rfl⟩
  have hXs : X.size ≤ 100001 := by
    have h1 := cwords_tot s.data.toList []
    have h2 : wordsGo [] s.data.toList = x :: r := hw
    rw [h2, size_data] at h1
    simp only [llTot, List.length_nil] at h1
    rw [hX, mk_size]
    omega
  have HL : Hid (∀ W, Calls Try.prog 31 #[.string X] W fun e w' => e = .returned (.string Y) ∧ Below W.heap.size W w') := Lib.hid (fun W => by
    have h1 := lower_str_any X (by omega) W
    have h2 : X.data.toList = x := by rw [hX]
    rw [h2, ← hY] at h1
    exact h1)
  have HXV : Hid (strL x = .string X) := Lib.hid (by rw [hX]; rfl)
  have HYV : Hid (strL (lowL x) = .string Y) := Lib.hid (by rw [hY]; rfl)
  have hz := zero_cells Try.infoDirZ
  have HR0 := Lib.hid (Rw.alloc w 30 #[.string ⟨#[]⟩, .slice none 0 0] (Nat.zero_le w.heap.size))
  have HA := Lib.hid ha
  have HW := Lib.hid hw
  have hrl : r.length ≤ 100001 := by
    have h1 := cwords_tot s.data.toList []
    have h2 : wordsGo [] s.data.toList = x :: r := hw
    rw [h2, size_data] at h1
    have h3 := llTot_len r
    simp only [llTot, List.length_nil] at h1
    omega
  obtain ⟨n, hn⟩ : ∃ n, n = r.length := ⟨_, rfl⟩
  have HNN := Lib.hid hn
  clear h ha hw hX hY hXs
  dsimp only
  rw [HYV.out]
  rw [← hn] at hrl ⊢
  go_enter Try.func23, Try.ntmps23
  go_wp2_with (first | (refine wpList_alloc_z rfl 30 rfl #[.string ⟨#[]⟩, .slice none 0 0] hz ?_) | fail)
  refine (HB.out _).mono ?_
  rintro e w1 ⟨⟨v, rfl, hown⟩, hb1⟩
  rw [HW.out] at hown
  obtain ⟨g, c, b, rfl, hg, hc0, hsl, hop⟩ := words_tail hown
  rw [HXV.out] at hc0
  rw [← hn] at hsl hop ⊢
  have HR1 := Lib.hid (Rw.below HR0.out hb1)
  have HB1 := Lib.hid (below_then (below_more (Below.refl _ _) _) hb1)
  have HSL := Lib.hid hsl
  have hnz : ¬ ((n : Int) + 1 = 0) := by omega
  clear hown hb1 hsl hn
  go_wp2_with fail
  refine (HC.out _).mono ?_
  rw [HA.out]
  rintro e w2 ⟨rfl, rfl⟩
  go_wp2_with fail
  have HRD : Hid (Rw w2.drew 0 w.heap.size 30 [.string ⟨#[]⟩, .slice none 0 0]) := Lib.hid HR1.out
  have HBD : Hid (Below w.heap.size w w2.drew) := Lib.hid (below_draws HB1.out ⟨1, rfl⟩)
  have HSD : Hid (StrSl w2.drew (.slice (some ⟨g, b, none⟩) n (c - 1)) r) := Lib.hid HSL.out
  go_region_with (first | (go_at_call 31; refine (HL.out _).mono ?_; rintro e w3 ⟨rfl, hb3⟩; have hr3 := Rw.below HRD.out hb3; have HB3 := Lib.hid (below_then HBD.out hb3); have HSL3 := Lib.hid (strSl_below HSD.out hb3); have d0 : w3.cell? ⟨w.heap.size, 0, none⟩ = some (.string ⟨#[]⟩) := hr3.cell rfl; have d1 : w3.cell? ⟨w.heap.size, 1, none⟩ = some (.slice none 0 0) := hr3.cell rfl; have f0 : w3.frozen? ⟨w.heap.size, 0, none⟩ = false := hr3.free 0; have e1 : (w3.setCell ⟨w.heap.size, 0, none⟩ (.string Y)).cell? ⟨w.heap.size, 1, none⟩ = some (.slice none 0 0) := cell_keep d1 (by decide) _; have f1 : (w3.setCell ⟨w.heap.size, 0, none⟩ (.string Y)).frozen? ⟨w.heap.size, 1, none⟩ = false := (hr3.stored 0 (.string Y)).free 1; have HR3 := Lib.hid hr3; clear hb3 hr3))
  all_goals
    go_wp2_with fail
    refine bodyPost_ret (v := .tuple #[.agg #[.string Y, .slice (some ⟨g, b, none⟩) n (c - 1)], .bool true]) ?_ rfl ⟨⟨_, _, rfl, strSl_cells HSL3.out HR3.out [.string Y, .slice (some ⟨g, b, none⟩) n (c - 1)]⟩, below_setCells (g := w.heap.size) (Nat.le_refl _) [.string Y, .slice (some ⟨g, b, none⟩) n (c - 1)] 0 _ HB3.out⟩
    exact results_row_tmp rfl _ _ w.heap.size 0 _ [.string Y, .slice (some ⟨g, b, none⟩) n (c - 1)] _ rfl (Rw.storedAll HR3.out _ rfl) Try.underlying30 rfl Try.sizeDir _ rfl

end Go.Proofs.Ytceajdpjablfiaa
