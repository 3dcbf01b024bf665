/-
  CspFinds: directives are written, and found by the first of any names that is there; the law returns true for all texts and names, and what was there has not turned. No condition.
-/
import Derived.Test.YtceajdpjablfiaaProg
import Derived.Test.YtceajdpjablfiaaKit
import Derived.Test.YtceajdpjablfiaaLaw
import Derived.Test.YtceajdpjablfiaaAsc4
import Derived.Test.YtceajdpjablfiaaRow
import Derived.Test.YtceajdpjablfiaaCod8
import Derived.Test.YtceajdpjablfiaaUrl9
import Derived.Test.YtceajdpjablfiaaHdr8
import Derived.Test.YtceajdpjablfiaaHdr9
import Derived.Test.YtceajdpjablfiaaHdr10
import Derived.Test.YtceajdpjablfiaaHdr17
import Derived.Test.YtceajdpjablfiaaCsp0
import Derived.Test.YtceajdpjablfiaaCsp1
import Derived.Test.YtceajdpjablfiaaCsp3
import Derived.Test.YtceajdpjablfiaaCsp4
import Derived.Test.YtceajdpjablfiaaCsp5
import Derived.Test.YtceajdpjablfiaaCsp6
import Derived.Test.YtceajdpjablfiaaCsp7
namespace Go.Proofs.Ytceajdpjablfiaa
open Go.ChangeShapes Go.WideShapes Go.ChangeAt Go.RowKit Go.Proofs
open Go.ChangeMaps (open_string shut_string)

set_option maxRecDepth 100000 in
set_option maxHeartbeats 1000000 in
theorem cspFinds_any (s : ByteArray) (hs : s.size ≤ 140737488351232) (u : Value) (zs : List ByteArray) (w : World) (hu : SliceAt w u (zs.map strV)) (hl : zs.length * 16 ≤ 140737488351232) (hz : ∀ z ∈ zs, z.size ≤ 140737488351232) :
    Calls Try.prog 4 #[.string s, u] w fun e w' => e = .returned (.bool true) ∧ Below w.heap.size w w' := by
  have HAW := Lib.hid (fun W => cawake_any W)
  have HT0 : Hid (Calls Try.prog 14 #[u, .int .i64 3000] w fun e w' => (∃ r : Int, e = .returned (.int .i64 r) ∧ 0 ≤ r ∧ r ≤ 1125899906842624 ∧ (r ≤ 3000 → (lsTot zs : Int) ≤ r)) ∧ w' = w) := Lib.hid (total2_any u zs 3000 w (by decide) (by omega) (fun z hzz => Nat.le_trans (hz z hzz) (by decide)) hu)
  rw [← tx_strs] at hu
  have HU := Lib.hid hu
  obtain ⟨ds, hds⟩ : ∃ ds, ds = cspL s.data.toList := ⟨_, rfl⟩
  have HDS := Lib.hid hds
  have hss : (s.size : Int) ≤ 140737488351232 := by omega
  have HSS := Lib.hid hs
  clear hu hl hz hds hs
  go_enter Try.func4, Try.ntmps4
  go_wp2_with fail
  refine HT0.out.mono ?_
  rintro e w1 ⟨⟨r, rfl, p0, p1, p2⟩, rfl⟩
  have P2 := Lib.hid p2
  clear p2
  by_cases hlong : 3000 < (s.size : Int) + r
  · go_wp2_with fail
    refine (HAW.out _).mono ?_
    rintro e w2 ⟨rfl, hb2⟩
    go_wp2_with fail
    go_ret
    exact ⟨rfl, hb2⟩
  · have HSZ : Hid (s.size ≤ 3000 ∧ lsTot zs ≤ 3000) := Lib.hid (by have := P2.out (by omega); omega)
    have HT : Hid (dirsN ds ≤ 3001) := Lib.hid (by have h1 := HDS.out; rw [h1]; have h2 := csp_tot s.data.toList; rw [size_data] at h2; have := HSZ.out; omega)
    have HR := Lib.hid (fun W => rcsp_any s (by have := HSZ.out; omega) W)
    rw [← HDS.out] at HR
    have HNL : Hid ((tx zs).length ≤ 3000) := Lib.hid (by have h1 := lsTot_len zs; unfold tx; rw [List.length_map]; have := HSZ.out; omega)
    have HDL : Hid (ds.length ≤ 6000) := Lib.hid (by have h1 := dirsN_len ds; have := HT.out; omega)
    obtain ⟨o, ho⟩ : ∃ o, o = cpickO ds (tx zs) := ⟨_, rfl⟩
    have HO := Lib.hid ho
    have HF1 : Hid (∀ (W : World) (v : Value), DirsAt W v ds → Below w1.heap.size w1 W → Calls Try.prog 15 #[v, u] W fun e w' => FindV W w' e o) := Lib.hid (fun W v h hb => by
      rw [HO.out]
      exact cfindv_any ds v (tx zs) u W h (SliceAt.below HU.out hb) HDL.out (by have := HNL.out; omega) (by have := HT.out; omega))
    have HF2 : Hid (∀ (W : World) (v : Value), DirsAt W v ds → Below w1.heap.size w1 W → Calls Try.prog 16 #[v, u] W fun e w' => FindV W w' e o) := Lib.hid (fun W v h hb => by
      rw [HO.out]
      exact rfindv_any ds v (tx zs) u W h (SliceAt.below HU.out hb) HDL.out (by have := HNL.out; omega))
    have HF3 : Hid (∀ (W : World) (v : Value), DirsAt W v ds → Calls Try.prog 15 #[v, .slice none 0 0] W fun e w' => (∃ a c, e = .returned (.tuple #[.agg #[.string ⟨#[]⟩, .slice a 0 c], .bool false])) ∧ Below W.heap.size W w') := Lib.hid (fun W v h => by
      refine (cfindv_any ds v [] (.slice none 0 0) W h (SliceAt.nil W) HDL.out (by simp) (by have := HT.out; omega)).mono ?_
      rintro e w' ⟨⟨a, c, he, _⟩, hb⟩
      exact ⟨⟨a, c, he⟩, hb⟩)
    obtain ⟨Y, hY⟩ : ∃ Y : ByteArray, Y = ⟨(cspT ds).toArray⟩ := ⟨_, rfl⟩
    have HTX : Hid (∀ (W : World) (v : Value), DirsAt W v ds → Calls Try.prog 17 #[v] W fun e w' => e = .returned (.string Y) ∧ Below W.heap.size W w') := Lib.hid (fun W v h => by
      rw [hY]
      exact ctext_any ds v W h (by have := HT.out; omega))
    have HTY : Hid (∀ (W : World) (v : Value), DirsAt W v ds → Calls Try.prog 18 #[v] W fun e w' => e = .returned (.string Y) ∧ w' = W) := Lib.hid (fun W v h => by
      rw [hY]
      exact rtext_any ds v W h (by have := HT.out; omega))
    have yy := txt_eq (a := Y) (b := Y) rfl
    obtain ⟨d, hd⟩ : ∃ d, d = o.getD zeroM := ⟨_, rfl⟩
    obtain ⟨X, hX⟩ : ∃ X : ByteArray, X.data.toList = d.cdn := ⟨⟨d.cdn.toArray⟩, rfl⟩
    obtain ⟨q, hq⟩ : ∃ q, q = d.cdl.length := ⟨_, rfl⟩
    obtain ⟨g, hg⟩ : ∃ g, g = o.isSome := ⟨_, rfl⟩
    have hql : d.cdl.length ≤ 6000 := by
      cases ho2 : o with
      | none => rw [hd, ho2]; decide
      | some x =>
        rw [hd, ho2]
        show x.cdl.length ≤ 6000
        rw [ho2] at ho
        have h1 := dirsN_mem (cpick_mem ho.symm)
        have h2 := HT.out
        have h3 := llTot_len x.cdl
        unfold dirN at h1
        simp only [llTot] at h1
        omega
    have HAL : Hid (∀ (W : World) (a b : Option Addr) (ca cb : Nat), StrSl W (.slice a q ca) d.cdl → StrSl W (.slice b q cb) d.cdl → Calls Try.prog 19 #[.agg #[.string X, .slice a q ca], .agg #[.string X, .slice b q cb]] W fun e w' => e = .returned (.bool true) ∧ Below W.heap.size W w') := Lib.hid (fun W a b ca cb h1 h2 => by
      rw [hq] at h1 h2 ⊢
      have h := calike_yes d a b ca cb W h1 h2 hql
      rw [strL_of hX] at h
      exact h)
    have HFV : Hid (∀ (W w' : World) (e : Ending), FindV W w' e o → (∃ a c, e = .returned (.tuple #[.agg #[.string X, .slice a q c], .bool g]) ∧ StrSl w' (.slice a q c) d.cdl) ∧ Below W.heap.size W w') := Lib.hid (fun W w' e h => by
      obtain ⟨⟨a, c, he, hs⟩, hb⟩ := h
      rw [← hd] at he hs
      rw [strL_of hX, ← hq, ← hg] at he
      rw [← hq] at hs
      exact ⟨⟨a, c, he, hs⟩, hb⟩)
    clear ho hY hd hX hq hg hql
    go_wp2_with fail
    refine (HR.out _).mono ?_
    rintro e w2 ⟨⟨v2, rfl, o2⟩, hb2⟩
    have B2 := Lib.hid hb2
    have O2 := Lib.hid (ownD_at o2)
    clear hb2 o2
    go_wp2_with fail
    refine (HF1.out _ _ O2.out B2.out).mono ?_
    rintro e w3 hf
    obtain ⟨⟨a3, c3, rfl, s3⟩, hb3⟩ := HFV.out _ _ _ hf
    have hx3 : Below w2.heap.size w2 (w3.alloc (.cells #[.string X, .slice a3 q c3] 30)) := below_more hb3 _
    have hy3 : Below w3.heap.size w3 (w3.alloc (.cells #[.string X, .slice a3 q c3] 30)) := below_more (Below.refl _ _) _
    have B3 := Lib.hid (below_then B2.out hx3)
    have O3 := Lib.hid (dirs_below O2.out hx3)
    have S3 := Lib.hid (strSl_below s3 hy3)
    have k0 := alloc_cell w3 #[.string X, .slice a3 q c3] 30 (0, 0) 0
    have k1 := alloc_cell w3 #[.string X, .slice a3 q c3] 30 (0, 0) 1
    have K3 := Lib.hid (And.intro k0 k1)
    clear hb3 s3 hf hx3 hy3 k0 k1
    go_wp2_with fail
    refine (HF2.out _ _ O3.out B3.out).mono ?_
    rintro e w4 hf
    obtain ⟨⟨a4, c4, rfl, s4⟩, hb4⟩ := HFV.out _ _ _ hf
    have hx4 := below_more hb4 (.cells #[.string X, .slice a4 q c4] 30)
    have hy4 : Below w4.heap.size w4 (w4.alloc (.cells #[.string X, .slice a4 q c4] 30)) := below_more (Below.refl _ _) _
    have B4 := Lib.hid (below_then B3.out hx4)
    have O4 := Lib.hid (dirs_below O3.out hx4)
    have S4 := Lib.hid (And.intro (strSl_below S3.out hx4) (strSl_below s4 hy4))
    have K4 := Lib.hid (And.intro (cell_stays K3.out.1 hx4) (cell_stays K3.out.2 hx4))
    have L4 := Lib.hid (And.intro (alloc_cell w4 #[.string X, .slice a4 q c4] 30 (0, 0) 0) (alloc_cell w4 #[.string X, .slice a4 q c4] 30 (0, 0) 1))
    clear hb4 s4 hf hx4 hy4
    go_wp2_with fail
    refine (HF3.out _ _ O4.out).mono ?_
    rintro e w5 ⟨⟨a5, c5, rfl⟩, hb5⟩
    have hx5 := below_more hb5 (.cells #[.string ⟨#[]⟩, .slice a5 0 c5] 30)
    have B5 := Lib.hid (below_then B4.out hx5)
    have O5 := Lib.hid (dirs_below O4.out hx5)
    have S5 := Lib.hid (And.intro (strSl_below S4.out.1 hx5) (strSl_below S4.out.2 hx5))
    have K5 := Lib.hid (And.intro (cell_stays K4.out.1 hx5) (cell_stays K4.out.2 hx5))
    have L5 := Lib.hid (And.intro (cell_stays L4.out.1 hx5) (cell_stays L4.out.2 hx5))
    clear hb5 hx5
    go_wp2_with fail
    refine (HTX.out _ _ O5.out).mono ?_
    rintro e w6 ⟨rfl, hb6⟩
    have B6 := Lib.hid (below_then B5.out hb6)
    have O6 := Lib.hid (dirs_below O5.out hb6)
    have S6 := Lib.hid (And.intro (strSl_below S5.out.1 hb6) (strSl_below S5.out.2 hb6))
    have k0 := cell_stays K5.out.1 hb6
    have k1 := cell_stays K5.out.2 hb6
    have l0 := cell_stays L5.out.1 hb6
    have l1 := cell_stays L5.out.2 hb6
    have KL := Lib.hid (And.intro (And.intro k0 k1) (And.intro l0 l1))
    clear hb6 k0 k1 l0 l1
    go_wp2_with fail
    refine (HTY.out _ _ O6.out).mono ?_
    rintro e w7 ⟨rfl, rfl⟩
    obtain ⟨⟨k0, k1⟩, l0, l1⟩ := KL.out
    go_wp2_with fail
    refine (HAL.out _ _ _ _ _ S6.out.1 S6.out.2).mono ?_
    rintro e w8 ⟨rfl, hb8⟩
    have B8 := Lib.hid (below_then B6.out hb8)
    clear hb8 k0 k1 l0 l1
    go_wp2_with fail
    refine (HAW.out _).mono ?_
    rintro e w9 ⟨rfl, hb9⟩
    have B9 := Lib.hid (below_then B8.out hb9)
    clear hb9
    go_wp2_with fail
    go_ret
    exact ⟨rfl, B9.out⟩

theorem cspFinds_own : ownKnob Try.prog.godebug = none := by kernel_rfl

theorem cspFinds_bytesStr : Try.prog.bytesOf 9 = 16 := by kernel_rfl

set_option maxRecDepth 100000 in
theorem cspFinds_lifted (os : Os) (started : os.Started) (H : Type) (enc : TypeId × Value → H) :
    ReturnsInHanded {} Try.checked os 4 .any (Rows.cspFindsSpec.pre6 enc Try.prog Try.f4 Rows.cspFindsRow.domain false) (Rows.cspFindsSpec.post enc Try.prog Try.f4 false true false false) := by
  refine law_lifted (C := Try.checked) cspFinds_own started (by kernel_rfl) Try.func4
    (ChangeSpec.witness6 (enc := enc) (C := Try.checked) false ⟨#[], #[.string ByteArray.empty, .slice none 0 0], []⟩ 8 (by kernel_rfl) (by kernel_rfl) (by kernel_rfl) (by kernel_rfl))
    (by kernel_rfl) (of_decide_eq_true (by kernel_rfl)) (tb := 4) (by kernel_rfl) Try.underlying4 rfl (fun ds h => by match ds, h with | [d0, d1], _ => exact ⟨rfl, rfl, rfl⟩) ?_
  intro W base args ds p hval0 hA0 hlt hsz0
  have hval : ∀ (j : Nat) t v, Try.f4.params[j]? = some t → args[j]? = some v → Value.okWide Try.prog W .any base t v := hval0
  have hA : DataW.TrodAll enc Try.prog W 0 (fun _ => true) true Try.f4.params.toList args.toList ds p := hA0
  have hsz : (DataW.weightsEach Try.prog Try.f4.params.toList ds).all (· ≤ reachBytes) = true := hsz0
  rw [Try.params4] at hA hval hsz
  obtain ⟨v0, vs0, d0, ds0, p0, q0, hargs, rfl, rfl, h0, r0⟩ := trodAll_cons hA
  obtain ⟨v1, vs1, d1, ds1, p1, q1, rfl, rfl, rfl, h1, r1⟩ := trodAll_cons r0
  obtain ⟨rfl, rfl, rfl⟩ := trodAll_nil r1
  obtain rfl : args = #[v0, v1] := by cases args; simp_all
  have s1 := sized_at hsz (j := 1) (t := 27) (d := d1) rfl rfl
  obtain ⟨a0, rfl, rfl, rfl, w0⟩ := open_string Try.underlying9 (hval 0 9 v0 rfl rfl) h0
  have z0 := sized_string hsz (j := 0) rfl rfl
  rw [size_data] at z0
  obtain ⟨a1, g1, l1, z1⟩ := open_texts Try.underlying27 Try.underlying9 (by kernel_rfl) (hval 1 27 v1 rfl rfl) h1 s1
  rw [cspFinds_bytesStr] at l1
  exact cspFinds_any (w := W) a0 z0 v1 a1 g1 l1 z1

theorem cspFinds_over : Rows.cspFindsRow.holds Try.pinned (OpenSpec.ofChange Rows.cspFindsSpec) :=
  OpenClaim.holds_of_wide 4 Try.f4 rfl rfl rfl rfl rfl rfl rfl ⟨rfl, rfl, rfl, rfl, rfl⟩ rfl rfl rfl rfl rfl (by kernel_rfl) Try.func4 (by kernel_rfl)
    (of_decide_eq_true (by kernel_rfl)) (by unfold Func.isWrapper; first | (rw [if_pos (by decide +kernel)]; kernel_rfl) | (rw [if_neg (by decide +kernel)]; exact ⟨rfl, rfl⟩))
    (fun os started H enc _ => cspFinds_lifted os started H enc)

theorem cspFinds_proved : Rows.CspFindsSaid := cspFinds_over
#print axioms cspFinds_proved

end Go.Proofs.Ytceajdpjablfiaa
