/- Rows of the table of types. -/
import Derived.Deep.WholeRow
import Derived.Test.YtcpioladmcidcaaProg
import Derived.Test.YtcpioladmcidcaaKit
namespace Go.Proofs.Ytcpioladmcidcaa


theorem zero_of_info3 {P : Go.Program} {t : Go.TypeId} {z : Go.Value} {n b : Nat} (h : (P.info? t).map (fun i => (i.zero, i.size, i.bytes)) = some (some z, n, b)) : (P.info? t).map (·.size) = some n := by
  cases hq : P.info? t with
  | none => simp [hq] at h
  | some i => simp [hq] at h; simp [h]

theorem Try.infoByte : (Try.prog.info? 5).map (fun i => (i.zero, i.size, i.bytes)) = some (some (.int .u8 0), 1, 1) := by kernel_rfl

theorem Try.infoStr : (Try.prog.info? 9).map (fun i => (i.zero, i.size, i.bytes)) = some (some (.string ByteArray.empty), 1, 16) := by kernel_rfl

theorem Try.infoU64 : (Try.prog.info? 44).map (fun i => (i.zero, i.size, i.bytes)) = some (some (.int .u64 0), 1, 8) := by kernel_rfl

theorem Try.infoU32 : (Try.prog.info? 40).map (fun i => (i.zero, i.size, i.bytes)) = some (some (.int .u32 0), 1, 4) := by kernel_rfl

theorem Try.infoInt : (Try.prog.info? 3).map (fun i => (i.zero, i.size, i.bytes)) = some (some (.int .i64 0), 1, 8) := by kernel_rfl

theorem Try.infoTables : (Try.prog.info? 55).map (fun i => (i.zero, i.size)) = some (some (.agg (Array.replicate 72 (.int .u32 0))), 72) := by kernel_rfl

theorem Try.infoW64 : (Try.prog.info? 53).map (fun i => (i.zero, i.size)) = some (some (.agg (Array.replicate 64 (.int .u32 0))), 64) := by kernel_rfl

theorem Try.infoW8 : (Try.prog.info? 41).map (fun i => (i.zero, i.size)) = some (some (.agg (Array.replicate 8 (.int .u32 0))), 8) := by kernel_rfl

theorem Try.infoB32 : (Try.prog.info? 26).map (fun i => (i.zero, i.size)) = some (some (.agg (Array.replicate 32 (.int .u8 0))), 32) := by kernel_rfl

theorem Try.infoHash : (Try.prog.info? 27).map (fun i => (i.zero, i.size)) = some (some (.agg (Array.replicate 32 (.int .u8 0))), 32) := by kernel_rfl

theorem Try.infoHashn : (Try.prog.info? 27).map (·.size) = some 32 := (zero_of_info Try.infoHash).2

theorem Try.infoB72 : (Try.prog.info? 71).map (fun i => (i.zero, i.size)) = some (some (.agg (Array.replicate 72 (.int .u8 0))), 72) := by kernel_rfl

theorem Try.infoDig : (Try.prog.info? 47).map (fun i => (i.zero, i.size)) = some (some (.agg (Array.replicate 8 (.int .u32 0) ++ #[.int .u64 0] ++ Array.replicate 64 (.int .u8 0))), 73) := by kernel_rfl

theorem Try.infoW8n : (Try.prog.info? 41).map (·.size) = some 8 := (zero_of_info Try.infoW8).2

theorem Try.infoW64n : (Try.prog.info? 53).map (·.size) = some 64 := (zero_of_info Try.infoW64).2

theorem Try.infoB32n : (Try.prog.info? 26).map (·.size) = some 32 := (zero_of_info Try.infoB32).2

end Go.Proofs.Ytcpioladmcidcaa
