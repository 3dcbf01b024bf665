/- csp: the laws' own small functions: two directives, two lists alike; awake. -/
import Derived.Test.YtceajdpjablfiaaShelf
import Derived.BigRegion
import Derived.BigQuiet
import Derived.Test.YtceajdpjablfiaaProg
import Derived.Test.YtceajdpjablfiaaKit
import Derived.Test.YtceajdpjablfiaaAsc4
import Derived.Test.YtceajdpjablfiaaRow
import Derived.Test.YtceajdpjablfiaaRow2
import Derived.Test.YtceajdpjablfiaaHdr10
import Derived.Test.YtceajdpjablfiaaCsp0
import Derived.Test.YtceajdpjablfiaaCsp1
import Derived.Test.YtceajdpjablfiaaCsp3
import Derived.Test.YtceajdpjablfiaaCsp4
namespace Go.Proofs.Ytceajdpjablfiaa
open Go.RowKit Go.Proofs

theorem calike_yes (d : DirM) (a b : Option Addr) (ca cb : Nat) (w : World) (ha : StrSl w (.slice a d.cdl.length ca) d.cdl) (hb : StrSl w (.slice b d.cdl.length cb) d.cdl) (hl : d.cdl.length ≤ 6000) :
    Calls Try.prog 19 #[.agg #[strL d.cdn, .slice a d.cdl.length ca], .agg #[strL d.cdn, .slice b d.cdl.length cb]] w fun e w' => e = .returned (.bool true) ∧ Below w.heap.size w w' := by
  obtain ⟨X, hX⟩ : ∃ X : ByteArray, X.data.toList = d.cdn := ⟨⟨d.cdn.toArray⟩, rfl⟩
  rw [strL_of hX]
  have hT := fun (W : World) h1 h2 => texts_any (.slice a d.cdl.length ca) (.slice b d.cdl.length cb) d.cdl d.cdl W h1 h2 (by omega) (by omega)
  rw [eqLL_yes rfl] at hT
  have HT := Lib.hid hT
  have HA := Lib.hid (strSl_at ha)
  have HB := Lib.hid (strSl_at hb)
  obtain ⟨q, hq⟩ : ∃ q, q = d.cdl.length := ⟨_, rfl⟩
  rw [← hq] at HT HA HB ⊢
  have y := txt_eq (a := X) (b := X) rfl
  have hb2 : Below w.heap.size w ((w.alloc (.cells #[.string X, .slice a q ca] 30)).alloc (.cells #[.string X, .slice b q cb] 30)) := below_more (below_more (Below.refl _ _) _) _
  have HB2 := Lib.hid hb2
  clear hT ha hb hl hq hX hb2
  go_enter Try.func19, Try.ntmps19
  go_wp2_with fail
  refine (HT.out _ (SliceAt.below HA.out HB2.out) (SliceAt.below HB.out HB2.out)).mono ?_
  rintro e w3 ⟨rfl, hm⟩
  have HB3 := Lib.hid (below_draws HB2.out hm)
  clear hm
  go_wp2_with fail
  go_ret
  exact ⟨rfl, HB3.out⟩

set_option maxRecDepth 100000 in
theorem csame_yes (ds : List DirM) (va vb : Value) (w : World) (ha : DirsAt w va ds) (hb : DirsAt w vb ds) (hT : dirsN ds ≤ 5001) :
    Calls Try.prog 9 #[va, vb] w fun e w' => e = .returned (.bool true) ∧ Below w.heap.size w w' := by
  obtain ⟨aa, ac, ha2⟩ := dirs_len ha
  obtain ⟨ba, bc, hb2⟩ := dirs_len hb
  subst ha2 hb2
  have HA := Lib.hid ha
  have HB := Lib.hid hb
  have HTT := Lib.hid hT
  obtain ⟨n, hn⟩ : ∃ n, n = ds.length := ⟨_, rfl⟩
  have HNN := Lib.hid hn
  have HNB : Hid (n ≤ 5001) := Lib.hid (by have := dirsN_len ds; omega)
  have hne : ((n : Int) != (n : Int)) = false := by simp
  rw [← hn]
  clear ha hb hT hn
  go_enter Try.func9, Try.ntmps9
  go_wp2_with fail
  go_loopw [5] (fun j wr => ∃ k : Nat, k ≤ n ∧ j = .int .i64 k ∧ Hid (Below w.heap.size w wr)) (fun j _ => n - (intOf j).toNat)
  case atStart => exact ⟨0, Nat.zero_le _, rfl, Lib.hid (Below.refl _ _)⟩
  case round =>
    obtain ⟨k, hk, rfl, HW⟩ := hrel
    obtain ⟨w2, hw2⟩ : ∃ w2 : World, w2 = wr := ⟨_, rfl⟩
    subst hw2
    by_cases hlt : k < n
    · obtain ⟨d, hdk⟩ : ∃ d, ds[k]? = some d := ⟨_, List.getElem?_eq_getElem (by rw [← HNN.out]; exact hlt)⟩
      obtain ⟨b1, o1, c1, hv1, d0, u1, d1, hs1⟩ := dirs_at (dirs_below HA.out HW.out) hdk
      injection hv1 with e1 e2 e3
      subst e1 e3
      clear e2
      obtain ⟨b2, o2, c2, hv2, f0, u2, f1, hs2⟩ := dirs_at (dirs_below HB.out HW.out) hdk
      injection hv2 with e1 e2 e3
      subst e1 e3
      clear e2
      obtain ⟨X, hX⟩ : ∃ X : ByteArray, X.data.toList = d.cdn := ⟨⟨d.cdn.toArray⟩, rfl⟩
      obtain ⟨a1, p1, rfl⟩ := strSl_len hs1
      obtain ⟨a2, p2, rfl⟩ := strSl_len hs2
      have hdl : d.cdl.length ≤ 6000 := by
        have h1 := dirsN_mem (List.mem_of_getElem? hdk)
        have h2 := HTT.out
        have h3 := llTot_len d.cdl
        unfold dirN at h1
        simp only [llTot] at h1
        omega
      have hS1 : StrSl w2.drew (.slice a1 d.cdl.length p1) d.cdl := hs1
      have hS2 : StrSl w2.drew (.slice a2 d.cdl.length p2) d.cdl := hs2
      have hcl := calike_yes d a1 a2 p1 p2 w2.drew hS1 hS2 hdl
      rw [strL_of hX] at d0 f0 hcl
      obtain ⟨q, hq⟩ : ∃ q, q = d.cdl.length := ⟨_, rfl⟩
      rw [← hq] at d1 f1 hcl
      have HCL := Lib.hid hcl
      have hii : (k : Int) < (n : Int) := by omega
      have hi6 : (k : Int) < 5001 := by have := HNB.out; omega
      have HBD := Lib.hid (below_draws HW.out ⟨1, rfl⟩)
      clear hs1 hs2 hS1 hS2 hcl hq hX hdk hdl hne
      go_wp2_with fail
      go_region_with (first | (go_at_call 19; refine HCL.out.mono ?_; rintro e w3 ⟨rfl, hb3⟩; have HB3 := Lib.hid (below_then HBD.out hb3); clear hb3))
      all_goals
        go_wp2_with fail
        go_roundw
        case rel => exact ⟨k + 1, by omega, by go_num, HB3⟩
        case measure => simp [intOf]; omega
    · go_wp2_with fail
      go_ret
      exact ⟨rfl, HW.out⟩

def awD : DirM := ⟨[105, 109, 103, 45, 115, 114, 99], [[97], [98]]⟩

theorem awake_csp : cspL [73, 77, 71, 45, 115, 114, 99, 32, 97, 32, 32, 98, 59, 59, 105, 109, 103, 45, 115, 114, 99, 32, 99, 59, 32, 195, 169] = [awD] := by rfl

theorem cawake_any (w : World) : Calls Try.prog 8 #[] w fun e w' => e = .returned (.bool true) ∧ Below w.heap.size w w' := by
  have hp := cparse_any ⟨#[73, 77, 71, 45, 115, 114, 99, 32, 97, 32, 32, 98, 59, 59, 105, 109, 103, 45, 115, 114, 99, 32, 99, 59, 32, 195, 169]⟩ (by decide) w
  rw [show (⟨#[73, 77, 71, 45, 115, 114, 99, 32, 97, 32, 32, 98, 59, 59, 105, 109, 103, 45, 115, 114, 99, 32, 99, 59, 32, 195, 169]⟩ : ByteArray).data.toList = [73, 77, 71, 45, 115, 114, 99, 32, 97, 32, 32, 98, 59, 59, 105, 109, 103, 45, 115, 114, 99, 32, 99, 59, 32, 195, 169] from rfl, awake_csp] at hp
  have HP := Lib.hid hp
  clear hp
  have hT := fun (W : World) (va vb : Value) h1 h2 => texts_any va vb awD.cdl awD.cdl W h1 h2 (by decide) (by decide)
  rw [eqLL_yes rfl] at hT
  have HT := Lib.hid hT
  clear hT
  go_enter Try.func8, Try.ntmps8
  go_wp2_with fail
  refine HP.out.mono ?_
  rintro e w1 ⟨⟨v, rfl, hown⟩, hb1⟩
  have HB1 := Lib.hid hb1
  obtain ⟨b1, o1, c1, rfl, d0, u1, d1, hs1⟩ := dirs_at (ownD_at hown) (k := 0) (d := awD) rfl
  obtain ⟨a1, p1, rfl⟩ := strSl_len hs1
  have HS1 := Lib.hid (strSl_at hs1)
  rw [Nat.zero_mul, Nat.add_zero] at d0 d1
  rw [show strL awD.cdn = .string ⟨#[105, 109, 103, 45, 115, 114, 99]⟩ from rfl] at d0
  rw [show awD.cdl.length = 2 from rfl] at d1 HS1
  rw [show [awD].length = 1 from rfl]
  clear hb1 hown hs1
  go_wp2_with fail
  refine (HT.out _ _ _ (SliceAt.below HS1.out (below_more (Below.refl _ _) _)) (SliceAt.lit w1 #[.string ⟨#[97]⟩, .string ⟨#[98]⟩] 9 2 2 rfl)).mono ?_
  rintro e w3 ⟨rfl, hm⟩
  have HB3 := Lib.hid (below_draws (below_more HB1.out _) hm)
  clear hm
  go_wp2_with fail
  go_ret
  exact ⟨rfl, HB3.out⟩

end Go.Proofs.Ytceajdpjablfiaa
