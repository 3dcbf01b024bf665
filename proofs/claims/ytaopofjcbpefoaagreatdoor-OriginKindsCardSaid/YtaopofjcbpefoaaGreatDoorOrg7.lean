/- OriginKinds: its walk. -/
import Derived.Test.YtaopofjcbpefoaaGreatDoorProg
import Derived.Test.YtaopofjcbpefoaaGreatDoorKit
import Derived.Test.YtaopofjcbpefoaaGreatDoorRow
import Derived.Test.YtaopofjcbpefoaaGreatDoorFrm11
import Derived.Test.YtaopofjcbpefoaaGreatDoorUrl6
import Derived.Test.YtaopofjcbpefoaaGreatDoorOrg0
import Derived.Test.YtaopofjcbpefoaaGreatDoorOrg3
namespace Go.Proofs.YtaopofjcbpefoaaGreatDoor
open Go.RowKit Go.Proofs
set_option maxRecDepth 100000

theorem otk_0_0 (p : Int) (W : World) (hW : Env11 W) : Calls Tryz.prog 22 #[.agg #[.string ⟨#[104, 116, 116, 112]⟩, .string ⟨#[97]⟩, .int .i64 p]] W fun e w' => e = .returned (.bool false) ∧ Below W.heap.size W w' := by
  have h := otrusted_any ⟨#[104, 116, 116, 112]⟩ ⟨#[97]⟩ p (by decide) W hW.2.1
  have e : trustO ⟨(⟨#[104, 116, 116, 112]⟩ : ByteArray).data.toList, (⟨#[97]⟩ : ByteArray).data.toList, p⟩ = false := by kernel_rfl
  rw [e] at h
  exact h

theorem otk_0_1 (p : Int) (W : World) (hW : Env11 W) : Calls Tryz.prog 22 #[.agg #[.string ⟨#[104, 116, 116, 112]⟩, .string ⟨#[108, 111, 99, 97, 108, 104, 111, 115, 116]⟩, .int .i64 p]] W fun e w' => e = .returned (.bool true) ∧ Below W.heap.size W w' := by
  have h := otrusted_any ⟨#[104, 116, 116, 112]⟩ ⟨#[108, 111, 99, 97, 108, 104, 111, 115, 116]⟩ p (by decide) W hW.2.1
  have e : trustO ⟨(⟨#[104, 116, 116, 112]⟩ : ByteArray).data.toList, (⟨#[108, 111, 99, 97, 108, 104, 111, 115, 116]⟩ : ByteArray).data.toList, p⟩ = true := by kernel_rfl
  rw [e] at h
  exact h

theorem otk_0_2 (p : Int) (W : World) (hW : Env11 W) : Calls Tryz.prog 22 #[.agg #[.string ⟨#[104, 116, 116, 112]⟩, .string ⟨#[120, 46, 108, 111, 99, 97, 108, 104, 111, 115, 116]⟩, .int .i64 p]] W fun e w' => e = .returned (.bool true) ∧ Below W.heap.size W w' := by
  have h := otrusted_any ⟨#[104, 116, 116, 112]⟩ ⟨#[120, 46, 108, 111, 99, 97, 108, 104, 111, 115, 116]⟩ p (by decide) W hW.2.1
  have e : trustO ⟨(⟨#[104, 116, 116, 112]⟩ : ByteArray).data.toList, (⟨#[120, 46, 108, 111, 99, 97, 108, 104, 111, 115, 116]⟩ : ByteArray).data.toList, p⟩ = true := by kernel_rfl
  rw [e] at h
  exact h

theorem otk_0_3 (p : Int) (W : World) (hW : Env11 W) : Calls Tryz.prog 22 #[.agg #[.string ⟨#[104, 116, 116, 112]⟩, .string ⟨#[120, 108, 111, 99, 97, 108, 104, 111, 115, 116]⟩, .int .i64 p]] W fun e w' => e = .returned (.bool false) ∧ Below W.heap.size W w' := by
  have h := otrusted_any ⟨#[104, 116, 116, 112]⟩ ⟨#[120, 108, 111, 99, 97, 108, 104, 111, 115, 116]⟩ p (by decide) W hW.2.1
  have e : trustO ⟨(⟨#[104, 116, 116, 112]⟩ : ByteArray).data.toList, (⟨#[120, 108, 111, 99, 97, 108, 104, 111, 115, 116]⟩ : ByteArray).data.toList, p⟩ = false := by kernel_rfl
  rw [e] at h
  exact h

theorem otk_0_4 (p : Int) (W : World) (hW : Env11 W) : Calls Tryz.prog 22 #[.agg #[.string ⟨#[104, 116, 116, 112]⟩, .string ⟨#[49, 50, 55, 46, 48, 46, 48, 46, 49]⟩, .int .i64 p]] W fun e w' => e = .returned (.bool true) ∧ Below W.heap.size W w' := by
  have h := otrusted_any ⟨#[104, 116, 116, 112]⟩ ⟨#[49, 50, 55, 46, 48, 46, 48, 46, 49]⟩ p (by decide) W hW.2.1
  have e : trustO ⟨(⟨#[104, 116, 116, 112]⟩ : ByteArray).data.toList, (⟨#[49, 50, 55, 46, 48, 46, 48, 46, 49]⟩ : ByteArray).data.toList, p⟩ = true := by kernel_rfl
  rw [e] at h
  exact h

theorem otk_0_5 (p : Int) (W : World) (hW : Env11 W) : Calls Tryz.prog 22 #[.agg #[.string ⟨#[104, 116, 116, 112]⟩, .string ⟨#[49, 50, 55, 46, 50, 53, 53, 46, 50, 53, 53, 46, 50, 53, 53]⟩, .int .i64 p]] W fun e w' => e = .returned (.bool true) ∧ Below W.heap.size W w' := by
  have h := otrusted_any ⟨#[104, 116, 116, 112]⟩ ⟨#[49, 50, 55, 46, 50, 53, 53, 46, 50, 53, 53, 46, 50, 53, 53]⟩ p (by decide) W hW.2.1
  have e : trustO ⟨(⟨#[104, 116, 116, 112]⟩ : ByteArray).data.toList, (⟨#[49, 50, 55, 46, 50, 53, 53, 46, 50, 53, 53, 46, 50, 53, 53]⟩ : ByteArray).data.toList, p⟩ = true := by kernel_rfl
  rw [e] at h
  exact h

theorem otk_0_6 (p : Int) (W : World) (hW : Env11 W) : Calls Tryz.prog 22 #[.agg #[.string ⟨#[104, 116, 116, 112]⟩, .string ⟨#[49, 50, 56, 46, 48, 46, 48, 46, 49]⟩, .int .i64 p]] W fun e w' => e = .returned (.bool false) ∧ Below W.heap.size W w' := by
  have h := otrusted_any ⟨#[104, 116, 116, 112]⟩ ⟨#[49, 50, 56, 46, 48, 46, 48, 46, 49]⟩ p (by decide) W hW.2.1
  have e : trustO ⟨(⟨#[104, 116, 116, 112]⟩ : ByteArray).data.toList, (⟨#[49, 50, 56, 46, 48, 46, 48, 46, 49]⟩ : ByteArray).data.toList, p⟩ = false := by kernel_rfl
  rw [e] at h
  exact h

theorem otk_0_7 (p : Int) (W : World) (hW : Env11 W) : Calls Tryz.prog 22 #[.agg #[.string ⟨#[104, 116, 116, 112]⟩, .string ⟨#[108, 111, 99, 97, 108, 104, 111, 115, 116, 46, 97]⟩, .int .i64 p]] W fun e w' => e = .returned (.bool false) ∧ Below W.heap.size W w' := by
  have h := otrusted_any ⟨#[104, 116, 116, 112]⟩ ⟨#[108, 111, 99, 97, 108, 104, 111, 115, 116, 46, 97]⟩ p (by decide) W hW.2.1
  have e : trustO ⟨(⟨#[104, 116, 116, 112]⟩ : ByteArray).data.toList, (⟨#[108, 111, 99, 97, 108, 104, 111, 115, 116, 46, 97]⟩ : ByteArray).data.toList, p⟩ = false := by kernel_rfl
  rw [e] at h
  exact h

theorem otk_0_8 (p : Int) (W : World) (hW : Env11 W) : Calls Tryz.prog 22 #[.agg #[.string ⟨#[104, 116, 116, 112]⟩, .string ⟨#[49, 48, 46, 49, 50, 55, 46, 48, 46, 49]⟩, .int .i64 p]] W fun e w' => e = .returned (.bool false) ∧ Below W.heap.size W w' := by
  have h := otrusted_any ⟨#[104, 116, 116, 112]⟩ ⟨#[49, 48, 46, 49, 50, 55, 46, 48, 46, 49]⟩ p (by decide) W hW.2.1
  have e : trustO ⟨(⟨#[104, 116, 116, 112]⟩ : ByteArray).data.toList, (⟨#[49, 48, 46, 49, 50, 55, 46, 48, 46, 49]⟩ : ByteArray).data.toList, p⟩ = false := by kernel_rfl
  rw [e] at h
  exact h

theorem otk_1_0 (p : Int) (W : World) (hW : Env11 W) : Calls Tryz.prog 22 #[.agg #[.string ⟨#[104, 116, 116, 112, 115]⟩, .string ⟨#[97]⟩, .int .i64 p]] W fun e w' => e = .returned (.bool true) ∧ Below W.heap.size W w' := by
  have h := otrusted_any ⟨#[104, 116, 116, 112, 115]⟩ ⟨#[97]⟩ p (by decide) W hW.2.1
  have e : trustO ⟨(⟨#[104, 116, 116, 112, 115]⟩ : ByteArray).data.toList, (⟨#[97]⟩ : ByteArray).data.toList, p⟩ = true := by kernel_rfl
  rw [e] at h
  exact h

theorem otk_1_1 (p : Int) (W : World) (hW : Env11 W) : Calls Tryz.prog 22 #[.agg #[.string ⟨#[104, 116, 116, 112, 115]⟩, .string ⟨#[108, 111, 99, 97, 108, 104, 111, 115, 116]⟩, .int .i64 p]] W fun e w' => e = .returned (.bool true) ∧ Below W.heap.size W w' := by
  have h := otrusted_any ⟨#[104, 116, 116, 112, 115]⟩ ⟨#[108, 111, 99, 97, 108, 104, 111, 115, 116]⟩ p (by decide) W hW.2.1
  have e : trustO ⟨(⟨#[104, 116, 116, 112, 115]⟩ : ByteArray).data.toList, (⟨#[108, 111, 99, 97, 108, 104, 111, 115, 116]⟩ : ByteArray).data.toList, p⟩ = true := by kernel_rfl
  rw [e] at h
  exact h

theorem otk_1_2 (p : Int) (W : World) (hW : Env11 W) : Calls Tryz.prog 22 #[.agg #[.string ⟨#[104, 116, 116, 112, 115]⟩, .string ⟨#[120, 46, 108, 111, 99, 97, 108, 104, 111, 115, 116]⟩, .int .i64 p]] W fun e w' => e = .returned (.bool true) ∧ Below W.heap.size W w' := by
  have h := otrusted_any ⟨#[104, 116, 116, 112, 115]⟩ ⟨#[120, 46, 108, 111, 99, 97, 108, 104, 111, 115, 116]⟩ p (by decide) W hW.2.1
  have e : trustO ⟨(⟨#[104, 116, 116, 112, 115]⟩ : ByteArray).data.toList, (⟨#[120, 46, 108, 111, 99, 97, 108, 104, 111, 115, 116]⟩ : ByteArray).data.toList, p⟩ = true := by kernel_rfl
  rw [e] at h
  exact h

theorem otk_1_3 (p : Int) (W : World) (hW : Env11 W) : Calls Tryz.prog 22 #[.agg #[.string ⟨#[104, 116, 116, 112, 115]⟩, .string ⟨#[120, 108, 111, 99, 97, 108, 104, 111, 115, 116]⟩, .int .i64 p]] W fun e w' => e = .returned (.bool true) ∧ Below W.heap.size W w' := by
  have h := otrusted_any ⟨#[104, 116, 116, 112, 115]⟩ ⟨#[120, 108, 111, 99, 97, 108, 104, 111, 115, 116]⟩ p (by decide) W hW.2.1
  have e : trustO ⟨(⟨#[104, 116, 116, 112, 115]⟩ : ByteArray).data.toList, (⟨#[120, 108, 111, 99, 97, 108, 104, 111, 115, 116]⟩ : ByteArray).data.toList, p⟩ = true := by kernel_rfl
  rw [e] at h
  exact h

theorem otk_1_4 (p : Int) (W : World) (hW : Env11 W) : Calls Tryz.prog 22 #[.agg #[.string ⟨#[104, 116, 116, 112, 115]⟩, .string ⟨#[49, 50, 55, 46, 48, 46, 48, 46, 49]⟩, .int .i64 p]] W fun e w' => e = .returned (.bool true) ∧ Below W.heap.size W w' := by
  have h := otrusted_any ⟨#[104, 116, 116, 112, 115]⟩ ⟨#[49, 50, 55, 46, 48, 46, 48, 46, 49]⟩ p (by decide) W hW.2.1
  have e : trustO ⟨(⟨#[104, 116, 116, 112, 115]⟩ : ByteArray).data.toList, (⟨#[49, 50, 55, 46, 48, 46, 48, 46, 49]⟩ : ByteArray).data.toList, p⟩ = true := by kernel_rfl
  rw [e] at h
  exact h

theorem otk_1_5 (p : Int) (W : World) (hW : Env11 W) : Calls Tryz.prog 22 #[.agg #[.string ⟨#[104, 116, 116, 112, 115]⟩, .string ⟨#[49, 50, 55, 46, 50, 53, 53, 46, 50, 53, 53, 46, 50, 53, 53]⟩, .int .i64 p]] W fun e w' => e = .returned (.bool true) ∧ Below W.heap.size W w' := by
  have h := otrusted_any ⟨#[104, 116, 116, 112, 115]⟩ ⟨#[49, 50, 55, 46, 50, 53, 53, 46, 50, 53, 53, 46, 50, 53, 53]⟩ p (by decide) W hW.2.1
  have e : trustO ⟨(⟨#[104, 116, 116, 112, 115]⟩ : ByteArray).data.toList, (⟨#[49, 50, 55, 46, 50, 53, 53, 46, 50, 53, 53, 46, 50, 53, 53]⟩ : ByteArray).data.toList, p⟩ = true := by kernel_rfl
  rw [e] at h
  exact h

theorem otk_1_6 (p : Int) (W : World) (hW : Env11 W) : Calls Tryz.prog 22 #[.agg #[.string ⟨#[104, 116, 116, 112, 115]⟩, .string ⟨#[49, 50, 56, 46, 48, 46, 48, 46, 49]⟩, .int .i64 p]] W fun e w' => e = .returned (.bool true) ∧ Below W.heap.size W w' := by
  have h := otrusted_any ⟨#[104, 116, 116, 112, 115]⟩ ⟨#[49, 50, 56, 46, 48, 46, 48, 46, 49]⟩ p (by decide) W hW.2.1
  have e : trustO ⟨(⟨#[104, 116, 116, 112, 115]⟩ : ByteArray).data.toList, (⟨#[49, 50, 56, 46, 48, 46, 48, 46, 49]⟩ : ByteArray).data.toList, p⟩ = true := by kernel_rfl
  rw [e] at h
  exact h

theorem otk_1_7 (p : Int) (W : World) (hW : Env11 W) : Calls Tryz.prog 22 #[.agg #[.string ⟨#[104, 116, 116, 112, 115]⟩, .string ⟨#[108, 111, 99, 97, 108, 104, 111, 115, 116, 46, 97]⟩, .int .i64 p]] W fun e w' => e = .returned (.bool true) ∧ Below W.heap.size W w' := by
  have h := otrusted_any ⟨#[104, 116, 116, 112, 115]⟩ ⟨#[108, 111, 99, 97, 108, 104, 111, 115, 116, 46, 97]⟩ p (by decide) W hW.2.1
  have e : trustO ⟨(⟨#[104, 116, 116, 112, 115]⟩ : ByteArray).data.toList, (⟨#[108, 111, 99, 97, 108, 104, 111, 115, 116, 46, 97]⟩ : ByteArray).data.toList, p⟩ = true := by kernel_rfl
  rw [e] at h
  exact h

theorem otk_1_8 (p : Int) (W : World) (hW : Env11 W) : Calls Tryz.prog 22 #[.agg #[.string ⟨#[104, 116, 116, 112, 115]⟩, .string ⟨#[49, 48, 46, 49, 50, 55, 46, 48, 46, 49]⟩, .int .i64 p]] W fun e w' => e = .returned (.bool true) ∧ Below W.heap.size W w' := by
  have h := otrusted_any ⟨#[104, 116, 116, 112, 115]⟩ ⟨#[49, 48, 46, 49, 50, 55, 46, 48, 46, 49]⟩ p (by decide) W hW.2.1
  have e : trustO ⟨(⟨#[104, 116, 116, 112, 115]⟩ : ByteArray).data.toList, (⟨#[49, 48, 46, 49, 50, 55, 46, 48, 46, 49]⟩ : ByteArray).data.toList, p⟩ = true := by kernel_rfl
  rw [e] at h
  exact h

theorem otk_2_0 (p : Int) (W : World) (hW : Env11 W) : Calls Tryz.prog 22 #[.agg #[.string ⟨#[119, 115]⟩, .string ⟨#[97]⟩, .int .i64 p]] W fun e w' => e = .returned (.bool false) ∧ Below W.heap.size W w' := by
  have h := otrusted_any ⟨#[119, 115]⟩ ⟨#[97]⟩ p (by decide) W hW.2.1
  have e : trustO ⟨(⟨#[119, 115]⟩ : ByteArray).data.toList, (⟨#[97]⟩ : ByteArray).data.toList, p⟩ = false := by kernel_rfl
  rw [e] at h
  exact h

theorem otk_2_1 (p : Int) (W : World) (hW : Env11 W) : Calls Tryz.prog 22 #[.agg #[.string ⟨#[119, 115]⟩, .string ⟨#[108, 111, 99, 97, 108, 104, 111, 115, 116]⟩, .int .i64 p]] W fun e w' => e = .returned (.bool true) ∧ Below W.heap.size W w' := by
  have h := otrusted_any ⟨#[119, 115]⟩ ⟨#[108, 111, 99, 97, 108, 104, 111, 115, 116]⟩ p (by decide) W hW.2.1
  have e : trustO ⟨(⟨#[119, 115]⟩ : ByteArray).data.toList, (⟨#[108, 111, 99, 97, 108, 104, 111, 115, 116]⟩ : ByteArray).data.toList, p⟩ = true := by kernel_rfl
  rw [e] at h
  exact h

theorem otk_2_2 (p : Int) (W : World) (hW : Env11 W) : Calls Tryz.prog 22 #[.agg #[.string ⟨#[119, 115]⟩, .string ⟨#[120, 46, 108, 111, 99, 97, 108, 104, 111, 115, 116]⟩, .int .i64 p]] W fun e w' => e = .returned (.bool true) ∧ Below W.heap.size W w' := by
  have h := otrusted_any ⟨#[119, 115]⟩ ⟨#[120, 46, 108, 111, 99, 97, 108, 104, 111, 115, 116]⟩ p (by decide) W hW.2.1
  have e : trustO ⟨(⟨#[119, 115]⟩ : ByteArray).data.toList, (⟨#[120, 46, 108, 111, 99, 97, 108, 104, 111, 115, 116]⟩ : ByteArray).data.toList, p⟩ = true := by kernel_rfl
  rw [e] at h
  exact h

theorem otk_2_3 (p : Int) (W : World) (hW : Env11 W) : Calls Tryz.prog 22 #[.agg #[.string ⟨#[119, 115]⟩, .string ⟨#[120, 108, 111, 99, 97, 108, 104, 111, 115, 116]⟩, .int .i64 p]] W fun e w' => e = .returned (.bool false) ∧ Below W.heap.size W w' := by
  have h := otrusted_any ⟨#[119, 115]⟩ ⟨#[120, 108, 111, 99, 97, 108, 104, 111, 115, 116]⟩ p (by decide) W hW.2.1
  have e : trustO ⟨(⟨#[119, 115]⟩ : ByteArray).data.toList, (⟨#[120, 108, 111, 99, 97, 108, 104, 111, 115, 116]⟩ : ByteArray).data.toList, p⟩ = false := by kernel_rfl
  rw [e] at h
  exact h

theorem otk_2_4 (p : Int) (W : World) (hW : Env11 W) : Calls Tryz.prog 22 #[.agg #[.string ⟨#[119, 115]⟩, .string ⟨#[49, 50, 55, 46, 48, 46, 48, 46, 49]⟩, .int .i64 p]] W fun e w' => e = .returned (.bool true) ∧ Below W.heap.size W w' := by
  have h := otrusted_any ⟨#[119, 115]⟩ ⟨#[49, 50, 55, 46, 48, 46, 48, 46, 49]⟩ p (by decide) W hW.2.1
  have e : trustO ⟨(⟨#[119, 115]⟩ : ByteArray).data.toList, (⟨#[49, 50, 55, 46, 48, 46, 48, 46, 49]⟩ : ByteArray).data.toList, p⟩ = true := by kernel_rfl
  rw [e] at h
  exact h

theorem otk_2_5 (p : Int) (W : World) (hW : Env11 W) : Calls Tryz.prog 22 #[.agg #[.string ⟨#[119, 115]⟩, .string ⟨#[49, 50, 55, 46, 50, 53, 53, 46, 50, 53, 53, 46, 50, 53, 53]⟩, .int .i64 p]] W fun e w' => e = .returned (.bool true) ∧ Below W.heap.size W w' := by
  have h := otrusted_any ⟨#[119, 115]⟩ ⟨#[49, 50, 55, 46, 50, 53, 53, 46, 50, 53, 53, 46, 50, 53, 53]⟩ p (by decide) W hW.2.1
  have e : trustO ⟨(⟨#[119, 115]⟩ : ByteArray).data.toList, (⟨#[49, 50, 55, 46, 50, 53, 53, 46, 50, 53, 53, 46, 50, 53, 53]⟩ : ByteArray).data.toList, p⟩ = true := by kernel_rfl
  rw [e] at h
  exact h

theorem otk_2_6 (p : Int) (W : World) (hW : Env11 W) : Calls Tryz.prog 22 #[.agg #[.string ⟨#[119, 115]⟩, .string ⟨#[49, 50, 56, 46, 48, 46, 48, 46, 49]⟩, .int .i64 p]] W fun e w' => e = .returned (.bool false) ∧ Below W.heap.size W w' := by
  have h := otrusted_any ⟨#[119, 115]⟩ ⟨#[49, 50, 56, 46, 48, 46, 48, 46, 49]⟩ p (by decide) W hW.2.1
  have e : trustO ⟨(⟨#[119, 115]⟩ : ByteArray).data.toList, (⟨#[49, 50, 56, 46, 48, 46, 48, 46, 49]⟩ : ByteArray).data.toList, p⟩ = false := by kernel_rfl
  rw [e] at h
  exact h

theorem otk_2_7 (p : Int) (W : World) (hW : Env11 W) : Calls Tryz.prog 22 #[.agg #[.string ⟨#[119, 115]⟩, .string ⟨#[108, 111, 99, 97, 108, 104, 111, 115, 116, 46, 97]⟩, .int .i64 p]] W fun e w' => e = .returned (.bool false) ∧ Below W.heap.size W w' := by
  have h := otrusted_any ⟨#[119, 115]⟩ ⟨#[108, 111, 99, 97, 108, 104, 111, 115, 116, 46, 97]⟩ p (by decide) W hW.2.1
  have e : trustO ⟨(⟨#[119, 115]⟩ : ByteArray).data.toList, (⟨#[108, 111, 99, 97, 108, 104, 111, 115, 116, 46, 97]⟩ : ByteArray).data.toList, p⟩ = false := by kernel_rfl
  rw [e] at h
  exact h

theorem otk_2_8 (p : Int) (W : World) (hW : Env11 W) : Calls Tryz.prog 22 #[.agg #[.string ⟨#[119, 115]⟩, .string ⟨#[49, 48, 46, 49, 50, 55, 46, 48, 46, 49]⟩, .int .i64 p]] W fun e w' => e = .returned (.bool false) ∧ Below W.heap.size W w' := by
  have h := otrusted_any ⟨#[119, 115]⟩ ⟨#[49, 48, 46, 49, 50, 55, 46, 48, 46, 49]⟩ p (by decide) W hW.2.1
  have e : trustO ⟨(⟨#[119, 115]⟩ : ByteArray).data.toList, (⟨#[49, 48, 46, 49, 50, 55, 46, 48, 46, 49]⟩ : ByteArray).data.toList, p⟩ = false := by kernel_rfl
  rw [e] at h
  exact h

theorem otk_3_0 (p : Int) (W : World) (hW : Env11 W) : Calls Tryz.prog 22 #[.agg #[.string ⟨#[119, 115, 115]⟩, .string ⟨#[97]⟩, .int .i64 p]] W fun e w' => e = .returned (.bool true) ∧ Below W.heap.size W w' := by
  have h := otrusted_any ⟨#[119, 115, 115]⟩ ⟨#[97]⟩ p (by decide) W hW.2.1
  have e : trustO ⟨(⟨#[119, 115, 115]⟩ : ByteArray).data.toList, (⟨#[97]⟩ : ByteArray).data.toList, p⟩ = true := by kernel_rfl
  rw [e] at h
  exact h

theorem otk_3_1 (p : Int) (W : World) (hW : Env11 W) : Calls Tryz.prog 22 #[.agg #[.string ⟨#[119, 115, 115]⟩, .string ⟨#[108, 111, 99, 97, 108, 104, 111, 115, 116]⟩, .int .i64 p]] W fun e w' => e = .returned (.bool true) ∧ Below W.heap.size W w' := by
  have h := otrusted_any ⟨#[119, 115, 115]⟩ ⟨#[108, 111, 99, 97, 108, 104, 111, 115, 116]⟩ p (by decide) W hW.2.1
  have e : trustO ⟨(⟨#[119, 115, 115]⟩ : ByteArray).data.toList, (⟨#[108, 111, 99, 97, 108, 104, 111, 115, 116]⟩ : ByteArray).data.toList, p⟩ = true := by kernel_rfl
  rw [e] at h
  exact h

theorem otk_3_2 (p : Int) (W : World) (hW : Env11 W) : Calls Tryz.prog 22 #[.agg #[.string ⟨#[119, 115, 115]⟩, .string ⟨#[120, 46, 108, 111, 99, 97, 108, 104, 111, 115, 116]⟩, .int .i64 p]] W fun e w' => e = .returned (.bool true) ∧ Below W.heap.size W w' := by
  have h := otrusted_any ⟨#[119, 115, 115]⟩ ⟨#[120, 46, 108, 111, 99, 97, 108, 104, 111, 115, 116]⟩ p (by decide) W hW.2.1
  have e : trustO ⟨(⟨#[119, 115, 115]⟩ : ByteArray).data.toList, (⟨#[120, 46, 108, 111, 99, 97, 108, 104, 111, 115, 116]⟩ : ByteArray).data.toList, p⟩ = true := by kernel_rfl
  rw [e] at h
  exact h

theorem otk_3_3 (p : Int) (W : World) (hW : Env11 W) : Calls Tryz.prog 22 #[.agg #[.string ⟨#[119, 115, 115]⟩, .string ⟨#[120, 108, 111, 99, 97, 108, 104, 111, 115, 116]⟩, .int .i64 p]] W fun e w' => e = .returned (.bool true) ∧ Below W.heap.size W w' := by
  have h := otrusted_any ⟨#[119, 115, 115]⟩ ⟨#[120, 108, 111, 99, 97, 108, 104, 111, 115, 116]⟩ p (by decide) W hW.2.1
  have e : trustO ⟨(⟨#[119, 115, 115]⟩ : ByteArray).data.toList, (⟨#[120, 108, 111, 99, 97, 108, 104, 111, 115, 116]⟩ : ByteArray).data.toList, p⟩ = true := by kernel_rfl
  rw [e] at h
  exact h

theorem otk_3_4 (p : Int) (W : World) (hW : Env11 W) : Calls Tryz.prog 22 #[.agg #[.string ⟨#[119, 115, 115]⟩, .string ⟨#[49, 50, 55, 46, 48, 46, 48, 46, 49]⟩, .int .i64 p]] W fun e w' => e = .returned (.bool true) ∧ Below W.heap.size W w' := by
  have h := otrusted_any ⟨#[119, 115, 115]⟩ ⟨#[49, 50, 55, 46, 48, 46, 48, 46, 49]⟩ p (by decide) W hW.2.1
  have e : trustO ⟨(⟨#[119, 115, 115]⟩ : ByteArray).data.toList, (⟨#[49, 50, 55, 46, 48, 46, 48, 46, 49]⟩ : ByteArray).data.toList, p⟩ = true := by kernel_rfl
  rw [e] at h
  exact h

theorem otk_3_5 (p : Int) (W : World) (hW : Env11 W) : Calls Tryz.prog 22 #[.agg #[.string ⟨#[119, 115, 115]⟩, .string ⟨#[49, 50, 55, 46, 50, 53, 53, 46, 50, 53, 53, 46, 50, 53, 53]⟩, .int .i64 p]] W fun e w' => e = .returned (.bool true) ∧ Below W.heap.size W w' := by
  have h := otrusted_any ⟨#[119, 115, 115]⟩ ⟨#[49, 50, 55, 46, 50, 53, 53, 46, 50, 53, 53, 46, 50, 53, 53]⟩ p (by decide) W hW.2.1
  have e : trustO ⟨(⟨#[119, 115, 115]⟩ : ByteArray).data.toList, (⟨#[49, 50, 55, 46, 50, 53, 53, 46, 50, 53, 53, 46, 50, 53, 53]⟩ : ByteArray).data.toList, p⟩ = true := by kernel_rfl
  rw [e] at h
  exact h

theorem otk_3_6 (p : Int) (W : World) (hW : Env11 W) : Calls Tryz.prog 22 #[.agg #[.string ⟨#[119, 115, 115]⟩, .string ⟨#[49, 50, 56, 46, 48, 46, 48, 46, 49]⟩, .int .i64 p]] W fun e w' => e = .returned (.bool true) ∧ Below W.heap.size W w' := by
  have h := otrusted_any ⟨#[119, 115, 115]⟩ ⟨#[49, 50, 56, 46, 48, 46, 48, 46, 49]⟩ p (by decide) W hW.2.1
  have e : trustO ⟨(⟨#[119, 115, 115]⟩ : ByteArray).data.toList, (⟨#[49, 50, 56, 46, 48, 46, 48, 46, 49]⟩ : ByteArray).data.toList, p⟩ = true := by kernel_rfl
  rw [e] at h
  exact h

theorem otk_3_7 (p : Int) (W : World) (hW : Env11 W) : Calls Tryz.prog 22 #[.agg #[.string ⟨#[119, 115, 115]⟩, .string ⟨#[108, 111, 99, 97, 108, 104, 111, 115, 116, 46, 97]⟩, .int .i64 p]] W fun e w' => e = .returned (.bool true) ∧ Below W.heap.size W w' := by
  have h := otrusted_any ⟨#[119, 115, 115]⟩ ⟨#[108, 111, 99, 97, 108, 104, 111, 115, 116, 46, 97]⟩ p (by decide) W hW.2.1
  have e : trustO ⟨(⟨#[119, 115, 115]⟩ : ByteArray).data.toList, (⟨#[108, 111, 99, 97, 108, 104, 111, 115, 116, 46, 97]⟩ : ByteArray).data.toList, p⟩ = true := by kernel_rfl
  rw [e] at h
  exact h

theorem otk_3_8 (p : Int) (W : World) (hW : Env11 W) : Calls Tryz.prog 22 #[.agg #[.string ⟨#[119, 115, 115]⟩, .string ⟨#[49, 48, 46, 49, 50, 55, 46, 48, 46, 49]⟩, .int .i64 p]] W fun e w' => e = .returned (.bool true) ∧ Below W.heap.size W w' := by
  have h := otrusted_any ⟨#[119, 115, 115]⟩ ⟨#[49, 48, 46, 49, 50, 55, 46, 48, 46, 49]⟩ p (by decide) W hW.2.1
  have e : trustO ⟨(⟨#[119, 115, 115]⟩ : ByteArray).data.toList, (⟨#[49, 48, 46, 49, 50, 55, 46, 48, 46, 49]⟩ : ByteArray).data.toList, p⟩ = true := by kernel_rfl
  rw [e] at h
  exact h

theorem otk_4_0 (p : Int) (W : World) (hW : Env11 W) : Calls Tryz.prog 22 #[.agg #[.string ⟨#[102, 116, 112]⟩, .string ⟨#[97]⟩, .int .i64 p]] W fun e w' => e = .returned (.bool false) ∧ Below W.heap.size W w' := by
  have h := otrusted_any ⟨#[102, 116, 112]⟩ ⟨#[97]⟩ p (by decide) W hW.2.1
  have e : trustO ⟨(⟨#[102, 116, 112]⟩ : ByteArray).data.toList, (⟨#[97]⟩ : ByteArray).data.toList, p⟩ = false := by kernel_rfl
  rw [e] at h
  exact h

theorem otk_4_1 (p : Int) (W : World) (hW : Env11 W) : Calls Tryz.prog 22 #[.agg #[.string ⟨#[102, 116, 112]⟩, .string ⟨#[108, 111, 99, 97, 108, 104, 111, 115, 116]⟩, .int .i64 p]] W fun e w' => e = .returned (.bool true) ∧ Below W.heap.size W w' := by
  have h := otrusted_any ⟨#[102, 116, 112]⟩ ⟨#[108, 111, 99, 97, 108, 104, 111, 115, 116]⟩ p (by decide) W hW.2.1
  have e : trustO ⟨(⟨#[102, 116, 112]⟩ : ByteArray).data.toList, (⟨#[108, 111, 99, 97, 108, 104, 111, 115, 116]⟩ : ByteArray).data.toList, p⟩ = true := by kernel_rfl
  rw [e] at h
  exact h

theorem otk_4_2 (p : Int) (W : World) (hW : Env11 W) : Calls Tryz.prog 22 #[.agg #[.string ⟨#[102, 116, 112]⟩, .string ⟨#[120, 46, 108, 111, 99, 97, 108, 104, 111, 115, 116]⟩, .int .i64 p]] W fun e w' => e = .returned (.bool true) ∧ Below W.heap.size W w' := by
  have h := otrusted_any ⟨#[102, 116, 112]⟩ ⟨#[120, 46, 108, 111, 99, 97, 108, 104, 111, 115, 116]⟩ p (by decide) W hW.2.1
  have e : trustO ⟨(⟨#[102, 116, 112]⟩ : ByteArray).data.toList, (⟨#[120, 46, 108, 111, 99, 97, 108, 104, 111, 115, 116]⟩ : ByteArray).data.toList, p⟩ = true := by kernel_rfl
  rw [e] at h
  exact h

theorem otk_4_3 (p : Int) (W : World) (hW : Env11 W) : Calls Tryz.prog 22 #[.agg #[.string ⟨#[102, 116, 112]⟩, .string ⟨#[120, 108, 111, 99, 97, 108, 104, 111, 115, 116]⟩, .int .i64 p]] W fun e w' => e = .returned (.bool false) ∧ Below W.heap.size W w' := by
  have h := otrusted_any ⟨#[102, 116, 112]⟩ ⟨#[120, 108, 111, 99, 97, 108, 104, 111, 115, 116]⟩ p (by decide) W hW.2.1
  have e : trustO ⟨(⟨#[102, 116, 112]⟩ : ByteArray).data.toList, (⟨#[120, 108, 111, 99, 97, 108, 104, 111, 115, 116]⟩ : ByteArray).data.toList, p⟩ = false := by kernel_rfl
  rw [e] at h
  exact h

theorem otk_4_4 (p : Int) (W : World) (hW : Env11 W) : Calls Tryz.prog 22 #[.agg #[.string ⟨#[102, 116, 112]⟩, .string ⟨#[49, 50, 55, 46, 48, 46, 48, 46, 49]⟩, .int .i64 p]] W fun e w' => e = .returned (.bool true) ∧ Below W.heap.size W w' := by
  have h := otrusted_any ⟨#[102, 116, 112]⟩ ⟨#[49, 50, 55, 46, 48, 46, 48, 46, 49]⟩ p (by decide) W hW.2.1
  have e : trustO ⟨(⟨#[102, 116, 112]⟩ : ByteArray).data.toList, (⟨#[49, 50, 55, 46, 48, 46, 48, 46, 49]⟩ : ByteArray).data.toList, p⟩ = true := by kernel_rfl
  rw [e] at h
  exact h

theorem otk_4_5 (p : Int) (W : World) (hW : Env11 W) : Calls Tryz.prog 22 #[.agg #[.string ⟨#[102, 116, 112]⟩, .string ⟨#[49, 50, 55, 46, 50, 53, 53, 46, 50, 53, 53, 46, 50, 53, 53]⟩, .int .i64 p]] W fun e w' => e = .returned (.bool true) ∧ Below W.heap.size W w' := by
  have h := otrusted_any ⟨#[102, 116, 112]⟩ ⟨#[49, 50, 55, 46, 50, 53, 53, 46, 50, 53, 53, 46, 50, 53, 53]⟩ p (by decide) W hW.2.1
  have e : trustO ⟨(⟨#[102, 116, 112]⟩ : ByteArray).data.toList, (⟨#[49, 50, 55, 46, 50, 53, 53, 46, 50, 53, 53, 46, 50, 53, 53]⟩ : ByteArray).data.toList, p⟩ = true := by kernel_rfl
  rw [e] at h
  exact h

theorem otk_4_6 (p : Int) (W : World) (hW : Env11 W) : Calls Tryz.prog 22 #[.agg #[.string ⟨#[102, 116, 112]⟩, .string ⟨#[49, 50, 56, 46, 48, 46, 48, 46, 49]⟩, .int .i64 p]] W fun e w' => e = .returned (.bool false) ∧ Below W.heap.size W w' := by
  have h := otrusted_any ⟨#[102, 116, 112]⟩ ⟨#[49, 50, 56, 46, 48, 46, 48, 46, 49]⟩ p (by decide) W hW.2.1
  have e : trustO ⟨(⟨#[102, 116, 112]⟩ : ByteArray).data.toList, (⟨#[49, 50, 56, 46, 48, 46, 48, 46, 49]⟩ : ByteArray).data.toList, p⟩ = false := by kernel_rfl
  rw [e] at h
  exact h

theorem otk_4_7 (p : Int) (W : World) (hW : Env11 W) : Calls Tryz.prog 22 #[.agg #[.string ⟨#[102, 116, 112]⟩, .string ⟨#[108, 111, 99, 97, 108, 104, 111, 115, 116, 46, 97]⟩, .int .i64 p]] W fun e w' => e = .returned (.bool false) ∧ Below W.heap.size W w' := by
  have h := otrusted_any ⟨#[102, 116, 112]⟩ ⟨#[108, 111, 99, 97, 108, 104, 111, 115, 116, 46, 97]⟩ p (by decide) W hW.2.1
  have e : trustO ⟨(⟨#[102, 116, 112]⟩ : ByteArray).data.toList, (⟨#[108, 111, 99, 97, 108, 104, 111, 115, 116, 46, 97]⟩ : ByteArray).data.toList, p⟩ = false := by kernel_rfl
  rw [e] at h
  exact h

theorem otk_4_8 (p : Int) (W : World) (hW : Env11 W) : Calls Tryz.prog 22 #[.agg #[.string ⟨#[102, 116, 112]⟩, .string ⟨#[49, 48, 46, 49, 50, 55, 46, 48, 46, 49]⟩, .int .i64 p]] W fun e w' => e = .returned (.bool false) ∧ Below W.heap.size W w' := by
  have h := otrusted_any ⟨#[102, 116, 112]⟩ ⟨#[49, 48, 46, 49, 50, 55, 46, 48, 46, 49]⟩ p (by decide) W hW.2.1
  have e : trustO ⟨(⟨#[102, 116, 112]⟩ : ByteArray).data.toList, (⟨#[49, 48, 46, 49, 50, 55, 46, 48, 46, 49]⟩ : ByteArray).data.toList, p⟩ = false := by kernel_rfl
  rw [e] at h
  exact h

set_option maxHeartbeats 40000000 in
theorem originKinds_any (k : Int) (hk : -9223372036854775808 ≤ k ∧ k ≤ 9223372036854775807) (wh : Int) (hwh : -9223372036854775808 ≤ wh ∧ wh ≤ 9223372036854775807) (p : Int) (_hp : -9223372036854775808 ≤ p ∧ p ≤ 9223372036854775807) (w : World) (hE : Env11 w) :
    Calls Tryz.prog 8 #[.int .i64 k, .int .i64 wh, .int .i64 p] w fun e w' => e = .returned (.bool true) ∧ Below w.heap.size w w' := by
  have HE := Lib.hid hE
  have HAW := Lib.hid (fun W (hW : Env11 W) => oawake_any W hW)
  have H5 : Hid (∀ W, Calls Tryz.prog 28 #[.int .i64 k, .int .i64 5] W fun e w' => (∃ r : Nat, r < 5 ∧ e = .returned (.int .i64 r)) ∧ W = w') := Lib.hid (fun W => round_any k 5 W hk (by decide))
  have H9 : Hid (∀ W, Calls Tryz.prog 28 #[.int .i64 wh, .int .i64 9] W fun e w' => (∃ r : Nat, r < 9 ∧ e = .returned (.int .i64 r)) ∧ W = w') := Lib.hid (fun W => round_any wh 9 W hwh (by decide))
  have HB0 := Lib.hid (below_more (below_more (Below.refl _ w) (.cells #[.string ⟨#[104, 116, 116, 112]⟩, .string ⟨#[104, 116, 116, 112, 115]⟩, .string ⟨#[119, 115]⟩, .string ⟨#[119, 115, 115]⟩, .string ⟨#[102, 116, 112]⟩] 9)) (.cells #[.string ⟨#[97]⟩, .string ⟨#[108, 111, 99, 97, 108, 104, 111, 115, 116]⟩, .string ⟨#[120, 46, 108, 111, 99, 97, 108, 104, 111, 115, 116]⟩, .string ⟨#[120, 108, 111, 99, 97, 108, 104, 111, 115, 116]⟩, .string ⟨#[49, 50, 55, 46, 48, 46, 48, 46, 49]⟩, .string ⟨#[49, 50, 55, 46, 50, 53, 53, 46, 50, 53, 53, 46, 50, 53, 53]⟩, .string ⟨#[49, 50, 56, 46, 48, 46, 48, 46, 49]⟩, .string ⟨#[108, 111, 99, 97, 108, 104, 111, 115, 116, 46, 97]⟩, .string ⟨#[49, 48, 46, 49, 50, 55, 46, 48, 46, 49]⟩] 9))
  clear hk hwh hE
  by_cases h0 : p < 0
  · clear H5 H9 HB0
    go_enter Tryz.func8, Tryz.ntmps8
    go_wp2_with fail
    refine (HAW.out _ HE.out).mono ?_
    rintro e w6 ⟨rfl, hb6⟩
    have HB6 := Lib.hid (hb6)
    clear hb6
    go_wp2_with fail
    go_ret
    exact ⟨rfl, HB6.out⟩
  by_cases h1 : 65535 < p
  · clear H5 H9 HB0
    go_enter Tryz.func8, Tryz.ntmps8
    go_wp2_with fail
    refine (HAW.out _ HE.out).mono ?_
    rintro e w6 ⟨rfl, hb6⟩
    have HB6 := Lib.hid (hb6)
    clear hb6
    go_wp2_with fail
    go_ret
    exact ⟨rfl, HB6.out⟩
  go_enter Tryz.func8, Tryz.ntmps8
  go_wp2_with fail
  refine (H5.out _).mono ?_
  rintro e w1 ⟨⟨r, hr, rfl⟩, rfl⟩
  rcases (by omega : r = 0 ∨ r = 1 ∨ r = 2 ∨ r = 3 ∨ r = 4) with rfl | rfl | rfl | rfl | rfl
  · clear hr
    go_wp2_with fail
    refine (H9.out _).mono ?_
    rintro e w2 ⟨⟨q, hq, rfl⟩, rfl⟩
    rcases (by omega : q = 0 ∨ q = 1 ∨ q = 2 ∨ q = 3 ∨ q = 4 ∨ q = 5 ∨ q = 6 ∨ q = 7 ∨ q = 8) with rfl | rfl | rfl | rfl | rfl | rfl | rfl | rfl | rfl
    · clear hq
      go_wp2_with fail
      refine (otk_0_0 p _ (env_below HE.out HB0.out)).mono ?_
      rintro e w5 ⟨rfl, hb5⟩
      have HB5 := Lib.hid (below_then HB0.out hb5)
      clear hb5
      go_wp2_with fail
      refine (HAW.out _ (env_below HE.out HB5.out)).mono ?_
      rintro e w6 ⟨rfl, hb6⟩
      have HB6 := Lib.hid (below_then HB5.out hb6)
      clear hb6
      go_wp2_with fail
      go_ret
      exact ⟨rfl, HB6.out⟩
    · clear hq
      go_wp2_with fail
      refine (otk_0_1 p _ (env_below HE.out HB0.out)).mono ?_
      rintro e w5 ⟨rfl, hb5⟩
      have HB5 := Lib.hid (below_then HB0.out hb5)
      clear hb5
      go_wp2_with fail
      refine (HAW.out _ (env_below HE.out HB5.out)).mono ?_
      rintro e w6 ⟨rfl, hb6⟩
      have HB6 := Lib.hid (below_then HB5.out hb6)
      clear hb6
      go_wp2_with fail
      go_ret
      exact ⟨rfl, HB6.out⟩
    · clear hq
      go_wp2_with fail
      refine (otk_0_2 p _ (env_below HE.out HB0.out)).mono ?_
      rintro e w5 ⟨rfl, hb5⟩
      have HB5 := Lib.hid (below_then HB0.out hb5)
      clear hb5
      go_wp2_with fail
      refine (HAW.out _ (env_below HE.out HB5.out)).mono ?_
      rintro e w6 ⟨rfl, hb6⟩
      have HB6 := Lib.hid (below_then HB5.out hb6)
      clear hb6
      go_wp2_with fail
      go_ret
      exact ⟨rfl, HB6.out⟩
    · clear hq
      go_wp2_with fail
      refine (otk_0_3 p _ (env_below HE.out HB0.out)).mono ?_
      rintro e w5 ⟨rfl, hb5⟩
      have HB5 := Lib.hid (below_then HB0.out hb5)
      clear hb5
      go_wp2_with fail
      refine (HAW.out _ (env_below HE.out HB5.out)).mono ?_
      rintro e w6 ⟨rfl, hb6⟩
      have HB6 := Lib.hid (below_then HB5.out hb6)
      clear hb6
      go_wp2_with fail
      go_ret
      exact ⟨rfl, HB6.out⟩
    · clear hq
      go_wp2_with fail
      refine (otk_0_4 p _ (env_below HE.out HB0.out)).mono ?_
      rintro e w5 ⟨rfl, hb5⟩
      have HB5 := Lib.hid (below_then HB0.out hb5)
      clear hb5
      go_wp2_with fail
      refine (HAW.out _ (env_below HE.out HB5.out)).mono ?_
      rintro e w6 ⟨rfl, hb6⟩
      have HB6 := Lib.hid (below_then HB5.out hb6)
      clear hb6
      go_wp2_with fail
      go_ret
      exact ⟨rfl, HB6.out⟩
    · clear hq
      go_wp2_with fail
      refine (otk_0_5 p _ (env_below HE.out HB0.out)).mono ?_
      rintro e w5 ⟨rfl, hb5⟩
      have HB5 := Lib.hid (below_then HB0.out hb5)
      clear hb5
      go_wp2_with fail
      refine (HAW.out _ (env_below HE.out HB5.out)).mono ?_
      rintro e w6 ⟨rfl, hb6⟩
      have HB6 := Lib.hid (below_then HB5.out hb6)
      clear hb6
      go_wp2_with fail
      go_ret
      exact ⟨rfl, HB6.out⟩
    · clear hq
      go_wp2_with fail
      refine (otk_0_6 p _ (env_below HE.out HB0.out)).mono ?_
      rintro e w5 ⟨rfl, hb5⟩
      have HB5 := Lib.hid (below_then HB0.out hb5)
      clear hb5
      go_wp2_with fail
      refine (HAW.out _ (env_below HE.out HB5.out)).mono ?_
      rintro e w6 ⟨rfl, hb6⟩
      have HB6 := Lib.hid (below_then HB5.out hb6)
      clear hb6
      go_wp2_with fail
      go_ret
      exact ⟨rfl, HB6.out⟩
    · clear hq
      go_wp2_with fail
      refine (otk_0_7 p _ (env_below HE.out HB0.out)).mono ?_
      rintro e w5 ⟨rfl, hb5⟩
      have HB5 := Lib.hid (below_then HB0.out hb5)
      clear hb5
      go_wp2_with fail
      refine (HAW.out _ (env_below HE.out HB5.out)).mono ?_
      rintro e w6 ⟨rfl, hb6⟩
      have HB6 := Lib.hid (below_then HB5.out hb6)
      clear hb6
      go_wp2_with fail
      go_ret
      exact ⟨rfl, HB6.out⟩
    · clear hq
      go_wp2_with fail
      refine (otk_0_8 p _ (env_below HE.out HB0.out)).mono ?_
      rintro e w5 ⟨rfl, hb5⟩
      have HB5 := Lib.hid (below_then HB0.out hb5)
      clear hb5
      go_wp2_with fail
      refine (HAW.out _ (env_below HE.out HB5.out)).mono ?_
      rintro e w6 ⟨rfl, hb6⟩
      have HB6 := Lib.hid (below_then HB5.out hb6)
      clear hb6
      go_wp2_with fail
      go_ret
      exact ⟨rfl, HB6.out⟩
  · clear hr
    go_wp2_with fail
    refine (H9.out _).mono ?_
    rintro e w2 ⟨⟨q, hq, rfl⟩, rfl⟩
    rcases (by omega : q = 0 ∨ q = 1 ∨ q = 2 ∨ q = 3 ∨ q = 4 ∨ q = 5 ∨ q = 6 ∨ q = 7 ∨ q = 8) with rfl | rfl | rfl | rfl | rfl | rfl | rfl | rfl | rfl
    · clear hq
      go_wp2_with fail
      refine (otk_1_0 p _ (env_below HE.out HB0.out)).mono ?_
      rintro e w5 ⟨rfl, hb5⟩
      have HB5 := Lib.hid (below_then HB0.out hb5)
      clear hb5
      go_wp2_with fail
      refine (HAW.out _ (env_below HE.out HB5.out)).mono ?_
      rintro e w6 ⟨rfl, hb6⟩
      have HB6 := Lib.hid (below_then HB5.out hb6)
      clear hb6
      go_wp2_with fail
      go_ret
      exact ⟨rfl, HB6.out⟩
    · clear hq
      go_wp2_with fail
      refine (otk_1_1 p _ (env_below HE.out HB0.out)).mono ?_
      rintro e w5 ⟨rfl, hb5⟩
      have HB5 := Lib.hid (below_then HB0.out hb5)
      clear hb5
      go_wp2_with fail
      refine (HAW.out _ (env_below HE.out HB5.out)).mono ?_
      rintro e w6 ⟨rfl, hb6⟩
      have HB6 := Lib.hid (below_then HB5.out hb6)
      clear hb6
      go_wp2_with fail
      go_ret
      exact ⟨rfl, HB6.out⟩
    · clear hq
      go_wp2_with fail
      refine (otk_1_2 p _ (env_below HE.out HB0.out)).mono ?_
      rintro e w5 ⟨rfl, hb5⟩
      have HB5 := Lib.hid (below_then HB0.out hb5)
      clear hb5
      go_wp2_with fail
      refine (HAW.out _ (env_below HE.out HB5.out)).mono ?_
      rintro e w6 ⟨rfl, hb6⟩
      have HB6 := Lib.hid (below_then HB5.out hb6)
      clear hb6
      go_wp2_with fail
      go_ret
      exact ⟨rfl, HB6.out⟩
    · clear hq
      go_wp2_with fail
      refine (otk_1_3 p _ (env_below HE.out HB0.out)).mono ?_
      rintro e w5 ⟨rfl, hb5⟩
      have HB5 := Lib.hid (below_then HB0.out hb5)
      clear hb5
      go_wp2_with fail
      refine (HAW.out _ (env_below HE.out HB5.out)).mono ?_
      rintro e w6 ⟨rfl, hb6⟩
      have HB6 := Lib.hid (below_then HB5.out hb6)
      clear hb6
      go_wp2_with fail
      go_ret
      exact ⟨rfl, HB6.out⟩
    · clear hq
      go_wp2_with fail
      refine (otk_1_4 p _ (env_below HE.out HB0.out)).mono ?_
      rintro e w5 ⟨rfl, hb5⟩
      have HB5 := Lib.hid (below_then HB0.out hb5)
      clear hb5
      go_wp2_with fail
      refine (HAW.out _ (env_below HE.out HB5.out)).mono ?_
      rintro e w6 ⟨rfl, hb6⟩
      have HB6 := Lib.hid (below_then HB5.out hb6)
      clear hb6
      go_wp2_with fail
      go_ret
      exact ⟨rfl, HB6.out⟩
    · clear hq
      go_wp2_with fail
      refine (otk_1_5 p _ (env_below HE.out HB0.out)).mono ?_
      rintro e w5 ⟨rfl, hb5⟩
      have HB5 := Lib.hid (below_then HB0.out hb5)
      clear hb5
      go_wp2_with fail
      refine (HAW.out _ (env_below HE.out HB5.out)).mono ?_
      rintro e w6 ⟨rfl, hb6⟩
      have HB6 := Lib.hid (below_then HB5.out hb6)
      clear hb6
      go_wp2_with fail
      go_ret
      exact ⟨rfl, HB6.out⟩
    · clear hq
      go_wp2_with fail
      refine (otk_1_6 p _ (env_below HE.out HB0.out)).mono ?_
      rintro e w5 ⟨rfl, hb5⟩
      have HB5 := Lib.hid (below_then HB0.out hb5)
      clear hb5
      go_wp2_with fail
      refine (HAW.out _ (env_below HE.out HB5.out)).mono ?_
      rintro e w6 ⟨rfl, hb6⟩
      have HB6 := Lib.hid (below_then HB5.out hb6)
      clear hb6
      go_wp2_with fail
      go_ret
      exact ⟨rfl, HB6.out⟩
    · clear hq
      go_wp2_with fail
      refine (otk_1_7 p _ (env_below HE.out HB0.out)).mono ?_
      rintro e w5 ⟨rfl, hb5⟩
      have HB5 := Lib.hid (below_then HB0.out hb5)
      clear hb5
      go_wp2_with fail
      refine (HAW.out _ (env_below HE.out HB5.out)).mono ?_
      rintro e w6 ⟨rfl, hb6⟩
      have HB6 := Lib.hid (below_then HB5.out hb6)
      clear hb6
      go_wp2_with fail
      go_ret
      exact ⟨rfl, HB6.out⟩
    · clear hq
      go_wp2_with fail
      refine (otk_1_8 p _ (env_below HE.out HB0.out)).mono ?_
      rintro e w5 ⟨rfl, hb5⟩
      have HB5 := Lib.hid (below_then HB0.out hb5)
      clear hb5
      go_wp2_with fail
      refine (HAW.out _ (env_below HE.out HB5.out)).mono ?_
      rintro e w6 ⟨rfl, hb6⟩
      have HB6 := Lib.hid (below_then HB5.out hb6)
      clear hb6
      go_wp2_with fail
      go_ret
      exact ⟨rfl, HB6.out⟩
  · clear hr
    go_wp2_with fail
    refine (H9.out _).mono ?_
    rintro e w2 ⟨⟨q, hq, rfl⟩, rfl⟩
    rcases (by omega : q = 0 ∨ q = 1 ∨ q = 2 ∨ q = 3 ∨ q = 4 ∨ q = 5 ∨ q = 6 ∨ q = 7 ∨ q = 8) with rfl | rfl | rfl | rfl | rfl | rfl | rfl | rfl | rfl
    · clear hq
      go_wp2_with fail
      refine (otk_2_0 p _ (env_below HE.out HB0.out)).mono ?_
      rintro e w5 ⟨rfl, hb5⟩
      have HB5 := Lib.hid (below_then HB0.out hb5)
      clear hb5
      go_wp2_with fail
      refine (HAW.out _ (env_below HE.out HB5.out)).mono ?_
      rintro e w6 ⟨rfl, hb6⟩
      have HB6 := Lib.hid (below_then HB5.out hb6)
      clear hb6
      go_wp2_with fail
      go_ret
      exact ⟨rfl, HB6.out⟩
    · clear hq
      go_wp2_with fail
      refine (otk_2_1 p _ (env_below HE.out HB0.out)).mono ?_
      rintro e w5 ⟨rfl, hb5⟩
      have HB5 := Lib.hid (below_then HB0.out hb5)
      clear hb5
      go_wp2_with fail
      refine (HAW.out _ (env_below HE.out HB5.out)).mono ?_
      rintro e w6 ⟨rfl, hb6⟩
      have HB6 := Lib.hid (below_then HB5.out hb6)
      clear hb6
      go_wp2_with fail
      go_ret
      exact ⟨rfl, HB6.out⟩
    · clear hq
      go_wp2_with fail
      refine (otk_2_2 p _ (env_below HE.out HB0.out)).mono ?_
      rintro e w5 ⟨rfl, hb5⟩
      have HB5 := Lib.hid (below_then HB0.out hb5)
      clear hb5
      go_wp2_with fail
      refine (HAW.out _ (env_below HE.out HB5.out)).mono ?_
      rintro e w6 ⟨rfl, hb6⟩
      have HB6 := Lib.hid (below_then HB5.out hb6)
      clear hb6
      go_wp2_with fail
      go_ret
      exact ⟨rfl, HB6.out⟩
    · clear hq
      go_wp2_with fail
      refine (otk_2_3 p _ (env_below HE.out HB0.out)).mono ?_
      rintro e w5 ⟨rfl, hb5⟩
      have HB5 := Lib.hid (below_then HB0.out hb5)
      clear hb5
      go_wp2_with fail
      refine (HAW.out _ (env_below HE.out HB5.out)).mono ?_
      rintro e w6 ⟨rfl, hb6⟩
      have HB6 := Lib.hid (below_then HB5.out hb6)
      clear hb6
      go_wp2_with fail
      go_ret
      exact ⟨rfl, HB6.out⟩
    · clear hq
      go_wp2_with fail
      refine (otk_2_4 p _ (env_below HE.out HB0.out)).mono ?_
      rintro e w5 ⟨rfl, hb5⟩
      have HB5 := Lib.hid (below_then HB0.out hb5)
      clear hb5
      go_wp2_with fail
      refine (HAW.out _ (env_below HE.out HB5.out)).mono ?_
      rintro e w6 ⟨rfl, hb6⟩
      have HB6 := Lib.hid (below_then HB5.out hb6)
      clear hb6
      go_wp2_with fail
      go_ret
      exact ⟨rfl, HB6.out⟩
    · clear hq
      go_wp2_with fail
      refine (otk_2_5 p _ (env_below HE.out HB0.out)).mono ?_
      rintro e w5 ⟨rfl, hb5⟩
      have HB5 := Lib.hid (below_then HB0.out hb5)
      clear hb5
      go_wp2_with fail
      refine (HAW.out _ (env_below HE.out HB5.out)).mono ?_
      rintro e w6 ⟨rfl, hb6⟩
      have HB6 := Lib.hid (below_then HB5.out hb6)
      clear hb6
      go_wp2_with fail
      go_ret
      exact ⟨rfl, HB6.out⟩
    · clear hq
      go_wp2_with fail
      refine (otk_2_6 p _ (env_below HE.out HB0.out)).mono ?_
      rintro e w5 ⟨rfl, hb5⟩
      have HB5 := Lib.hid (below_then HB0.out hb5)
      clear hb5
      go_wp2_with fail
      refine (HAW.out _ (env_below HE.out HB5.out)).mono ?_
      rintro e w6 ⟨rfl, hb6⟩
      have HB6 := Lib.hid (below_then HB5.out hb6)
      clear hb6
      go_wp2_with fail
      go_ret
      exact ⟨rfl, HB6.out⟩
    · clear hq
      go_wp2_with fail
      refine (otk_2_7 p _ (env_below HE.out HB0.out)).mono ?_
      rintro e w5 ⟨rfl, hb5⟩
      have HB5 := Lib.hid (below_then HB0.out hb5)
      clear hb5
      go_wp2_with fail
      refine (HAW.out _ (env_below HE.out HB5.out)).mono ?_
      rintro e w6 ⟨rfl, hb6⟩
      have HB6 := Lib.hid (below_then HB5.out hb6)
      clear hb6
      go_wp2_with fail
      go_ret
      exact ⟨rfl, HB6.out⟩
    · clear hq
      go_wp2_with fail
      refine (otk_2_8 p _ (env_below HE.out HB0.out)).mono ?_
      rintro e w5 ⟨rfl, hb5⟩
      have HB5 := Lib.hid (below_then HB0.out hb5)
      clear hb5
      go_wp2_with fail
      refine (HAW.out _ (env_below HE.out HB5.out)).mono ?_
      rintro e w6 ⟨rfl, hb6⟩
      have HB6 := Lib.hid (below_then HB5.out hb6)
      clear hb6
      go_wp2_with fail
      go_ret
      exact ⟨rfl, HB6.out⟩
  · clear hr
    go_wp2_with fail
    refine (H9.out _).mono ?_
    rintro e w2 ⟨⟨q, hq, rfl⟩, rfl⟩
    rcases (by omega : q = 0 ∨ q = 1 ∨ q = 2 ∨ q = 3 ∨ q = 4 ∨ q = 5 ∨ q = 6 ∨ q = 7 ∨ q = 8) with rfl | rfl | rfl | rfl | rfl | rfl | rfl | rfl | rfl
    · clear hq
      go_wp2_with fail
      refine (otk_3_0 p _ (env_below HE.out HB0.out)).mono ?_
      rintro e w5 ⟨rfl, hb5⟩
      have HB5 := Lib.hid (below_then HB0.out hb5)
      clear hb5
      go_wp2_with fail
      refine (HAW.out _ (env_below HE.out HB5.out)).mono ?_
      rintro e w6 ⟨rfl, hb6⟩
      have HB6 := Lib.hid (below_then HB5.out hb6)
      clear hb6
      go_wp2_with fail
      go_ret
      exact ⟨rfl, HB6.out⟩
    · clear hq
      go_wp2_with fail
      refine (otk_3_1 p _ (env_below HE.out HB0.out)).mono ?_
      rintro e w5 ⟨rfl, hb5⟩
      have HB5 := Lib.hid (below_then HB0.out hb5)
      clear hb5
      go_wp2_with fail
      refine (HAW.out _ (env_below HE.out HB5.out)).mono ?_
      rintro e w6 ⟨rfl, hb6⟩
      have HB6 := Lib.hid (below_then HB5.out hb6)
      clear hb6
      go_wp2_with fail
      go_ret
      exact ⟨rfl, HB6.out⟩
    · clear hq
      go_wp2_with fail
      refine (otk_3_2 p _ (env_below HE.out HB0.out)).mono ?_
      rintro e w5 ⟨rfl, hb5⟩
      have HB5 := Lib.hid (below_then HB0.out hb5)
      clear hb5
      go_wp2_with fail
      refine (HAW.out _ (env_below HE.out HB5.out)).mono ?_
      rintro e w6 ⟨rfl, hb6⟩
      have HB6 := Lib.hid (below_then HB5.out hb6)
      clear hb6
      go_wp2_with fail
      go_ret
      exact ⟨rfl, HB6.out⟩
    · clear hq
      go_wp2_with fail
      refine (otk_3_3 p _ (env_below HE.out HB0.out)).mono ?_
      rintro e w5 ⟨rfl, hb5⟩
      have HB5 := Lib.hid (below_then HB0.out hb5)
      clear hb5
      go_wp2_with fail
      refine (HAW.out _ (env_below HE.out HB5.out)).mono ?_
      rintro e w6 ⟨rfl, hb6⟩
      have HB6 := Lib.hid (below_then HB5.out hb6)
      clear hb6
      go_wp2_with fail
      go_ret
      exact ⟨rfl, HB6.out⟩
    · clear hq
      go_wp2_with fail
      refine (otk_3_4 p _ (env_below HE.out HB0.out)).mono ?_
      rintro e w5 ⟨rfl, hb5⟩
      have HB5 := Lib.hid (below_then HB0.out hb5)
      clear hb5
      go_wp2_with fail
      refine (HAW.out _ (env_below HE.out HB5.out)).mono ?_
      rintro e w6 ⟨rfl, hb6⟩
      have HB6 := Lib.hid (below_then HB5.out hb6)
      clear hb6
      go_wp2_with fail
      go_ret
      exact ⟨rfl, HB6.out⟩
    · clear hq
      go_wp2_with fail
      refine (otk_3_5 p _ (env_below HE.out HB0.out)).mono ?_
      rintro e w5 ⟨rfl, hb5⟩
      have HB5 := Lib.hid (below_then HB0.out hb5)
      clear hb5
      go_wp2_with fail
      refine (HAW.out _ (env_below HE.out HB5.out)).mono ?_
      rintro e w6 ⟨rfl, hb6⟩
      have HB6 := Lib.hid (below_then HB5.out hb6)
      clear hb6
      go_wp2_with fail
      go_ret
      exact ⟨rfl, HB6.out⟩
    · clear hq
      go_wp2_with fail
      refine (otk_3_6 p _ (env_below HE.out HB0.out)).mono ?_
      rintro e w5 ⟨rfl, hb5⟩
      have HB5 := Lib.hid (below_then HB0.out hb5)
      clear hb5
      go_wp2_with fail
      refine (HAW.out _ (env_below HE.out HB5.out)).mono ?_
      rintro e w6 ⟨rfl, hb6⟩
      have HB6 := Lib.hid (below_then HB5.out hb6)
      clear hb6
      go_wp2_with fail
      go_ret
      exact ⟨rfl, HB6.out⟩
    · clear hq
      go_wp2_with fail
      refine (otk_3_7 p _ (env_below HE.out HB0.out)).mono ?_
      rintro e w5 ⟨rfl, hb5⟩
      have HB5 := Lib.hid (below_then HB0.out hb5)
      clear hb5
      go_wp2_with fail
      refine (HAW.out _ (env_below HE.out HB5.out)).mono ?_
      rintro e w6 ⟨rfl, hb6⟩
      have HB6 := Lib.hid (below_then HB5.out hb6)
      clear hb6
      go_wp2_with fail
      go_ret
      exact ⟨rfl, HB6.out⟩
    · clear hq
      go_wp2_with fail
      refine (otk_3_8 p _ (env_below HE.out HB0.out)).mono ?_
      rintro e w5 ⟨rfl, hb5⟩
      have HB5 := Lib.hid (below_then HB0.out hb5)
      clear hb5
      go_wp2_with fail
      refine (HAW.out _ (env_below HE.out HB5.out)).mono ?_
      rintro e w6 ⟨rfl, hb6⟩
      have HB6 := Lib.hid (below_then HB5.out hb6)
      clear hb6
      go_wp2_with fail
      go_ret
      exact ⟨rfl, HB6.out⟩
  · clear hr
    go_wp2_with fail
    refine (H9.out _).mono ?_
    rintro e w2 ⟨⟨q, hq, rfl⟩, rfl⟩
    rcases (by omega : q = 0 ∨ q = 1 ∨ q = 2 ∨ q = 3 ∨ q = 4 ∨ q = 5 ∨ q = 6 ∨ q = 7 ∨ q = 8) with rfl | rfl | rfl | rfl | rfl | rfl | rfl | rfl | rfl
    · clear hq
      go_wp2_with fail
      refine (otk_4_0 p _ (env_below HE.out HB0.out)).mono ?_
      rintro e w5 ⟨rfl, hb5⟩
      have HB5 := Lib.hid (below_then HB0.out hb5)
      clear hb5
      go_wp2_with fail
      refine (HAW.out _ (env_below HE.out HB5.out)).mono ?_
      rintro e w6 ⟨rfl, hb6⟩
      have HB6 := Lib.hid (below_then HB5.out hb6)
      clear hb6
      go_wp2_with fail
      go_ret
      exact ⟨rfl, HB6.out⟩
    · clear hq
      go_wp2_with fail
      refine (otk_4_1 p _ (env_below HE.out HB0.out)).mono ?_
      rintro e w5 ⟨rfl, hb5⟩
      have HB5 := Lib.hid (below_then HB0.out hb5)
      clear hb5
      go_wp2_with fail
      refine (HAW.out _ (env_below HE.out HB5.out)).mono ?_
      rintro e w6 ⟨rfl, hb6⟩
      have HB6 := Lib.hid (below_then HB5.out hb6)
      clear hb6
      go_wp2_with fail
      go_ret
      exact ⟨rfl, HB6.out⟩
    · clear hq
      go_wp2_with fail
      refine (otk_4_2 p _ (env_below HE.out HB0.out)).mono ?_
      rintro e w5 ⟨rfl, hb5⟩
      have HB5 := Lib.hid (below_then HB0.out hb5)
      clear hb5
      go_wp2_with fail
      refine (HAW.out _ (env_below HE.out HB5.out)).mono ?_
      rintro e w6 ⟨rfl, hb6⟩
      have HB6 := Lib.hid (below_then HB5.out hb6)
      clear hb6
      go_wp2_with fail
      go_ret
      exact ⟨rfl, HB6.out⟩
    · clear hq
      go_wp2_with fail
      refine (otk_4_3 p _ (env_below HE.out HB0.out)).mono ?_
      rintro e w5 ⟨rfl, hb5⟩
      have HB5 := Lib.hid (below_then HB0.out hb5)
      clear hb5
      go_wp2_with fail
      refine (HAW.out _ (env_below HE.out HB5.out)).mono ?_
      rintro e w6 ⟨rfl, hb6⟩
      have HB6 := Lib.hid (below_then HB5.out hb6)
      clear hb6
      go_wp2_with fail
      go_ret
      exact ⟨rfl, HB6.out⟩
    · clear hq
      go_wp2_with fail
      refine (otk_4_4 p _ (env_below HE.out HB0.out)).mono ?_
      rintro e w5 ⟨rfl, hb5⟩
      have HB5 := Lib.hid (below_then HB0.out hb5)
      clear hb5
      go_wp2_with fail
      refine (HAW.out _ (env_below HE.out HB5.out)).mono ?_
      rintro e w6 ⟨rfl, hb6⟩
      have HB6 := Lib.hid (below_then HB5.out hb6)
      clear hb6
      go_wp2_with fail
      go_ret
      exact ⟨rfl, HB6.out⟩
    · clear hq
      go_wp2_with fail
      refine (otk_4_5 p _ (env_below HE.out HB0.out)).mono ?_
      rintro e w5 ⟨rfl, hb5⟩
      have HB5 := Lib.hid (below_then HB0.out hb5)
      clear hb5
      go_wp2_with fail
      refine (HAW.out _ (env_below HE.out HB5.out)).mono ?_
      rintro e w6 ⟨rfl, hb6⟩
      have HB6 := Lib.hid (below_then HB5.out hb6)
      clear hb6
      go_wp2_with fail
      go_ret
      exact ⟨rfl, HB6.out⟩
    · clear hq
      go_wp2_with fail
      refine (otk_4_6 p _ (env_below HE.out HB0.out)).mono ?_
      rintro e w5 ⟨rfl, hb5⟩
      have HB5 := Lib.hid (below_then HB0.out hb5)
      clear hb5
      go_wp2_with fail
      refine (HAW.out _ (env_below HE.out HB5.out)).mono ?_
      rintro e w6 ⟨rfl, hb6⟩
      have HB6 := Lib.hid (below_then HB5.out hb6)
      clear hb6
      go_wp2_with fail
      go_ret
      exact ⟨rfl, HB6.out⟩
    · clear hq
      go_wp2_with fail
      refine (otk_4_7 p _ (env_below HE.out HB0.out)).mono ?_
      rintro e w5 ⟨rfl, hb5⟩
      have HB5 := Lib.hid (below_then HB0.out hb5)
      clear hb5
      go_wp2_with fail
      refine (HAW.out _ (env_below HE.out HB5.out)).mono ?_
      rintro e w6 ⟨rfl, hb6⟩
      have HB6 := Lib.hid (below_then HB5.out hb6)
      clear hb6
      go_wp2_with fail
      go_ret
      exact ⟨rfl, HB6.out⟩
    · clear hq
      go_wp2_with fail
      refine (otk_4_8 p _ (env_below HE.out HB0.out)).mono ?_
      rintro e w5 ⟨rfl, hb5⟩
      have HB5 := Lib.hid (below_then HB0.out hb5)
      clear hb5
      go_wp2_with fail
      refine (HAW.out _ (env_below HE.out HB5.out)).mono ?_
      rintro e w6 ⟨rfl, hb6⟩
      have HB6 := Lib.hid (below_then HB5.out hb6)
      clear hb6
      go_wp2_with fail
      go_ret
      exact ⟨rfl, HB6.out⟩

end Go.Proofs.YtaopofjcbpefoaaGreatDoor
