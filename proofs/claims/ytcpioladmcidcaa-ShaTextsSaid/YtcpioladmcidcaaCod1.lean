/- Contracts: the code's rotation, constants and schedule. -/
import Derived.Deep.RegionHeld3
import Derived.BigRegion
import Derived.Test.YtcpioladmcidcaaProg
import Derived.Test.YtcpioladmcidcaaKit
import Derived.Test.YtcpioladmcidcaaInfo
import Derived.Test.YtcpioladmcidcaaRow
import Derived.Test.YtcpioladmcidcaaU32
import Derived.Test.YtcpioladmcidcaaLit
namespace Go.Proofs.Ytcpioladmcidcaa
open Go.RowKit Go.Proofs

theorem rot_and (n : Nat) (hn : 1 ≤ n ∧ n < 32) : bits .and .u64 (IntKind.u64.wrap (-(n : Int))) 31 = ((32 - n : Nat) : Int) := by
  have : ∀ n : Fin 32, 1 ≤ n.val → bits .and .u64 (IntKind.u64.wrap (-(n.val : Int))) 31 = ((32 - n.val : Nat) : Int) := by decide +kernel
  exact this ⟨n, hn.2⟩ hn.1

theorem rot_any (x : UInt32) (n : Nat) (z : Int) (hz : z = -(n : Int)) (hn : 1 ≤ n ∧ n < 32) (w : World) :
    Calls Try.prog 33 #[.int .u32 (iw x), .int .i64 z] w fun e w' => e = .returned (.int .u32 (iw (rr x n))) ∧ w = w' := by
  obtain ⟨X, hX⟩ : ∃ X, X = iw x := ⟨_, rfl⟩
  have hr := iw_rr x n hn
  have hb := iw_lt x
  have ha := rot_and n hn
  rw [← hz] at ha
  rw [← hX] at hr hb ⊢
  have HR := Lib.hid hr
  have HN := Lib.hid hn
  have ho : bits .or .u32 (X * 2 ^ (32 - n) % 4294967296) (X / 2 ^ n) = iw (rr x n) := by
    rw [hX, iw_shr x n hn.2, iw_shl x (32 - n) (by omega), iw_or, UInt32.or_comm]
    rfl
  have HO := Lib.hid ho
  clear hr hX hz hn ho
  obtain ⟨m, hm⟩ : ∃ m, m = 32 - n := ⟨_, rfl⟩
  rw [← hm] at ha
  have HM := Lib.hid hm
  have hm1 : 1 ≤ (m : Int) := by have := HN.out; omega
  have hm2 : (m : Int) < 32 := by have := HN.out; omega
  clear hm
  go_enter Try.func33, Try.ntmps33
  go_wp2
  go_ret
  refine ⟨ret_int ?_, rfl⟩
  have hn := HN.out
  rw [HM.out, show 32 - (32 - n) = n from by omega]
  exact HO.out

/-- An array of constants, laid. -/
theorem wpList_build_k {P : Program} {t : TypeId} {elems : Array (Nat × Operand)} {cs : Array Value} {ops : Array Oper} {rest : List Oper} {o : Oper} {a : Act} {w : World} {Q : Exit → Act → World → Prop} (hg : o.guard = none)
    (ho : o.op = .build t elems) (hb : P.built t (elems.map fun (i, x) => (i, a.eval x)).toList = some cs)
    (h : wpList P ops Q rest (a.put o.dst (.agg cs)) w) : wpList P ops Q (o :: rest) a w := by
  refine wpList_build hg t _ ho (by rw [hb]; rfl) ?_
  rw [hb]
  exact h

theorem kL_len : kL.length = 64 := by rfl

set_option maxRecDepth 100000 in
theorem constants_any (w : World) :
    Calls Try.prog 32 #[] w fun e w' => e = .returned (.agg (kL.map wV).toArray) ∧ Below w.heap.size w w' := by
  obtain ⟨Z, hz, hZ⟩ : ∃ Z, (∀ w, (zeroValue 53).run Try.prog w = .ok (.agg Z) w) ∧ Z = Array.replicate 64 (.int .u32 0) := ⟨_, zero_cells Try.infoW64, rfl⟩
  obtain ⟨L, hL⟩ : ∃ L, L = kL.map wV := ⟨_, rfl⟩
  have hLl : L.length = 64 := by rw [hL, List.length_map, kL_len]
  have h1c : ∀ v ∈ L, v.oneCell' = true := by rw [hL]; intro v hv; obtain ⟨x, _, rfl⟩ := List.mem_map.1 hv; rfl
  have hr := Rw.alloc w 53 Z (base := w.heap.size) (Nat.le_refl _)
  have HR := Lib.hid hr
  have HZL : Hid (Z.toList.length = L.length) := Lib.hid (by rw [hZ, hLl]; simp)
  have HI : Hid ((Try.prog.info? 53).map (·.size) = some L.length) := Lib.hid (by rw [hLl]; exact Try.infoW64n)
  have HC := Lib.hid h1c
  have HL := Lib.hid hL
  rw [← hL]
  clear hZ hL hLl h1c hr
  go_enter Try.func32, Try.ntmps32
  go_wp2_with (first | (refine wpList_alloc_z rfl 53 rfl Z hz ?_) | (refine wpList_build_k (cs := L.toArray) rfl rfl (by rw [HL.out]; kernel_rfl) ?_) | (refine wpList_store_mid rfl 53 _ _ rfl w.heap.size 0 L.toArray rfl rfl (HR.out.there 0 _ (by rw [HZL.out]; simp)) (by rw [HI.out]; simp) (all_oneCell_toArray HC.out) ?_))
  have hend := HR.out.storedAll L HZL.out
  refine bodyPost_ret (v := .agg L.toArray) ?_ rfl ⟨rfl, below_setCells (Nat.le_refl _) _ _ _ (below_more (Below.refl _ _) _)⟩
  exact results_cell_row rfl _ _ w.heap.size _ _ _ _ rfl hend.2 Try.underlying53 rfl (by rw [HI.out]; simp)

end Go.Proofs.Ytcpioladmcidcaa
