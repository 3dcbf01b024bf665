/- Contracts: the reference: Encode: what is refused by its numbers (Mr6a). -/
import Derived.BigRegion
import Derived.Deep.RegionHeld3
import Derived.BigQuiet
import Derived.Deep.QuietTactic
import Derived.Test.YthpljpbiamjmaaaProg
import Derived.Test.YthpljpbiamjmaaaKit
import Derived.Test.YthpljpbiamjmaaaRow
import Derived.Test.YthpljpbiamjmaaaCod7
namespace Go.Proofs.Ythpljpbiamjmaaa
open Go.RowKit Go.Proofs

set_option maxRecDepth 100000 in
set_option maxHeartbeats 8000000 in
theorem renc_bad0 {w : World} {kd fr tq tm ix lt cm si st : Int} {yes : Bool} {a a2 : Option Addr} {n c M c2 : Nat} {sd : ByteArray} (q0 : decide (kd < 1) = true) :
    Calls Try.prog 11 #[.agg #[.int .i64 kd, .int .i64 fr, .int .i64 tq, .int .i64 tm, .int .i64 ix, .int .i64 lt, .int .i64 cm, .bool yes, .slice a n c, .int .i64 si, .int .i64 st, .slice a2 M c2, .string sd]] w fun e w' => e = .returned (.tuple #[.slice none 0 0, .int .i64 1]) ∧ Below w.heap.size w w' := by
  have HBX := Lib.hid (below_more (Below.refl _ w) (.cells #[.int .i64 kd, .int .i64 fr, .int .i64 tq, .int .i64 tm, .int .i64 ix, .int .i64 lt, .int .i64 cm, .bool yes, .slice a n c, .int .i64 si, .int .i64 st, .slice a2 M c2, .string sd] 27))
  go_enter Try.func11, Try.ntmps11
  go_wp2_with fail
  go_quiet (fail)
  go_wp2_with fail
  go_ret2
  exact ⟨rfl, below_drewN HBX.out _⟩

set_option maxRecDepth 100000 in
set_option maxHeartbeats 8000000 in
theorem renc_bad1 {w : World} {kd fr tq tm ix lt cm si st : Int} {yes : Bool} {a a2 : Option Addr} {n c M c2 : Nat} {sd : ByteArray} (q0 : decide (kd < 1) = false) (q1 : decide (5 < kd) = true) :
    Calls Try.prog 11 #[.agg #[.int .i64 kd, .int .i64 fr, .int .i64 tq, .int .i64 tm, .int .i64 ix, .int .i64 lt, .int .i64 cm, .bool yes, .slice a n c, .int .i64 si, .int .i64 st, .slice a2 M c2, .string sd]] w fun e w' => e = .returned (.tuple #[.slice none 0 0, .int .i64 1]) ∧ Below w.heap.size w w' := by
  have HBX := Lib.hid (below_more (Below.refl _ w) (.cells #[.int .i64 kd, .int .i64 fr, .int .i64 tq, .int .i64 tm, .int .i64 ix, .int .i64 lt, .int .i64 cm, .bool yes, .slice a n c, .int .i64 si, .int .i64 st, .slice a2 M c2, .string sd] 27))
  go_enter Try.func11, Try.ntmps11
  go_wp2_with fail
  go_quiet (fail)
  go_wp2_with fail
  go_ret2
  exact ⟨rfl, below_drewN HBX.out _⟩

set_option maxRecDepth 100000 in
set_option maxHeartbeats 8000000 in
theorem renc_bad2 {w : World} {kd fr tq tm ix lt cm si st : Int} {yes : Bool} {a a2 : Option Addr} {n c M c2 : Nat} {sd : ByteArray} (q0 : decide (kd < 1) = false) (q1 : decide (5 < kd) = false) (q2 : decide (fr < 1) = true) :
    Calls Try.prog 11 #[.agg #[.int .i64 kd, .int .i64 fr, .int .i64 tq, .int .i64 tm, .int .i64 ix, .int .i64 lt, .int .i64 cm, .bool yes, .slice a n c, .int .i64 si, .int .i64 st, .slice a2 M c2, .string sd]] w fun e w' => e = .returned (.tuple #[.slice none 0 0, .int .i64 1]) ∧ Below w.heap.size w w' := by
  have HBX := Lib.hid (below_more (Below.refl _ w) (.cells #[.int .i64 kd, .int .i64 fr, .int .i64 tq, .int .i64 tm, .int .i64 ix, .int .i64 lt, .int .i64 cm, .bool yes, .slice a n c, .int .i64 si, .int .i64 st, .slice a2 M c2, .string sd] 27))
  go_enter Try.func11, Try.ntmps11
  go_wp2_with fail
  go_quiet (fail)
  go_wp2_with fail
  go_ret2
  exact ⟨rfl, below_drewN HBX.out _⟩

set_option maxRecDepth 100000 in
set_option maxHeartbeats 8000000 in
theorem renc_bad3 {w : World} {kd fr tq tm ix lt cm si st : Int} {yes : Bool} {a a2 : Option Addr} {n c M c2 : Nat} {sd : ByteArray} (q0 : decide (kd < 1) = false) (q1 : decide (5 < kd) = false) (q2 : decide (fr < 1) = false) (q3 : decide (9 < fr) = true) :
    Calls Try.prog 11 #[.agg #[.int .i64 kd, .int .i64 fr, .int .i64 tq, .int .i64 tm, .int .i64 ix, .int .i64 lt, .int .i64 cm, .bool yes, .slice a n c, .int .i64 si, .int .i64 st, .slice a2 M c2, .string sd]] w fun e w' => e = .returned (.tuple #[.slice none 0 0, .int .i64 1]) ∧ Below w.heap.size w w' := by
  have HBX := Lib.hid (below_more (Below.refl _ w) (.cells #[.int .i64 kd, .int .i64 fr, .int .i64 tq, .int .i64 tm, .int .i64 ix, .int .i64 lt, .int .i64 cm, .bool yes, .slice a n c, .int .i64 si, .int .i64 st, .slice a2 M c2, .string sd] 27))
  go_enter Try.func11, Try.ntmps11
  go_wp2_with fail
  go_quiet (fail)
  go_wp2_with fail
  go_ret2
  exact ⟨rfl, below_drewN HBX.out _⟩

set_option maxRecDepth 100000 in
set_option maxHeartbeats 8000000 in
theorem renc_bad4 {w : World} {kd fr tq tm ix lt cm si st : Int} {yes : Bool} {a a2 : Option Addr} {n c M c2 : Nat} {sd : ByteArray} (q0 : decide (kd < 1) = false) (q1 : decide (5 < kd) = false) (q2 : decide (fr < 1) = false) (q3 : decide (9 < fr) = false) (q4 : decide (tq < 1) = true) :
    Calls Try.prog 11 #[.agg #[.int .i64 kd, .int .i64 fr, .int .i64 tq, .int .i64 tm, .int .i64 ix, .int .i64 lt, .int .i64 cm, .bool yes, .slice a n c, .int .i64 si, .int .i64 st, .slice a2 M c2, .string sd]] w fun e w' => e = .returned (.tuple #[.slice none 0 0, .int .i64 1]) ∧ Below w.heap.size w w' := by
  have HBX := Lib.hid (below_more (Below.refl _ w) (.cells #[.int .i64 kd, .int .i64 fr, .int .i64 tq, .int .i64 tm, .int .i64 ix, .int .i64 lt, .int .i64 cm, .bool yes, .slice a n c, .int .i64 si, .int .i64 st, .slice a2 M c2, .string sd] 27))
  go_enter Try.func11, Try.ntmps11
  go_wp2_with fail
  go_quiet (fail)
  go_wp2_with fail
  go_ret2
  exact ⟨rfl, below_drewN HBX.out _⟩

set_option maxRecDepth 100000 in
set_option maxHeartbeats 8000000 in
theorem renc_bad5 {w : World} {kd fr tq tm ix lt cm si st : Int} {yes : Bool} {a a2 : Option Addr} {n c M c2 : Nat} {sd : ByteArray} (q0 : decide (kd < 1) = false) (q1 : decide (5 < kd) = false) (q2 : decide (fr < 1) = false) (q3 : decide (9 < fr) = false) (q4 : decide (tq < 1) = false) (q5 : decide (9 < tq) = true) :
    Calls Try.prog 11 #[.agg #[.int .i64 kd, .int .i64 fr, .int .i64 tq, .int .i64 tm, .int .i64 ix, .int .i64 lt, .int .i64 cm, .bool yes, .slice a n c, .int .i64 si, .int .i64 st, .slice a2 M c2, .string sd]] w fun e w' => e = .returned (.tuple #[.slice none 0 0, .int .i64 1]) ∧ Below w.heap.size w w' := by
  have HBX := Lib.hid (below_more (Below.refl _ w) (.cells #[.int .i64 kd, .int .i64 fr, .int .i64 tq, .int .i64 tm, .int .i64 ix, .int .i64 lt, .int .i64 cm, .bool yes, .slice a n c, .int .i64 si, .int .i64 st, .slice a2 M c2, .string sd] 27))
  go_enter Try.func11, Try.ntmps11
  go_wp2_with fail
  go_quiet (fail)
  go_wp2_with fail
  go_ret2
  exact ⟨rfl, below_drewN HBX.out _⟩

set_option maxRecDepth 100000 in
set_option maxHeartbeats 8000000 in
theorem renc_bad6 {w : World} {kd fr tq tm ix lt cm si st : Int} {yes : Bool} {a a2 : Option Addr} {n c M c2 : Nat} {sd : ByteArray} (q0 : decide (kd < 1) = false) (q1 : decide (5 < kd) = false) (q2 : decide (fr < 1) = false) (q3 : decide (9 < fr) = false) (q4 : decide (tq < 1) = false) (q5 : decide (9 < tq) = false) (q6 : decide (tm < 0) = true) :
    Calls Try.prog 11 #[.agg #[.int .i64 kd, .int .i64 fr, .int .i64 tq, .int .i64 tm, .int .i64 ix, .int .i64 lt, .int .i64 cm, .bool yes, .slice a n c, .int .i64 si, .int .i64 st, .slice a2 M c2, .string sd]] w fun e w' => e = .returned (.tuple #[.slice none 0 0, .int .i64 1]) ∧ Below w.heap.size w w' := by
  have HBX := Lib.hid (below_more (Below.refl _ w) (.cells #[.int .i64 kd, .int .i64 fr, .int .i64 tq, .int .i64 tm, .int .i64 ix, .int .i64 lt, .int .i64 cm, .bool yes, .slice a n c, .int .i64 si, .int .i64 st, .slice a2 M c2, .string sd] 27))
  go_enter Try.func11, Try.ntmps11
  go_wp2_with fail
  go_quiet (fail)
  go_wp2_with fail
  go_ret2
  exact ⟨rfl, below_drewN HBX.out _⟩

set_option maxRecDepth 100000 in
set_option maxHeartbeats 8000000 in
theorem renc_bad7 {w : World} {kd fr tq tm ix lt cm si st : Int} {yes : Bool} {a a2 : Option Addr} {n c M c2 : Nat} {sd : ByteArray} (q0 : decide (kd < 1) = false) (q1 : decide (5 < kd) = false) (q2 : decide (fr < 1) = false) (q3 : decide (9 < fr) = false) (q4 : decide (tq < 1) = false) (q5 : decide (9 < tq) = false) (q6 : decide (tm < 0) = false) (q7 : decide (ix < 0) = true) :
    Calls Try.prog 11 #[.agg #[.int .i64 kd, .int .i64 fr, .int .i64 tq, .int .i64 tm, .int .i64 ix, .int .i64 lt, .int .i64 cm, .bool yes, .slice a n c, .int .i64 si, .int .i64 st, .slice a2 M c2, .string sd]] w fun e w' => e = .returned (.tuple #[.slice none 0 0, .int .i64 1]) ∧ Below w.heap.size w w' := by
  have HBX := Lib.hid (below_more (Below.refl _ w) (.cells #[.int .i64 kd, .int .i64 fr, .int .i64 tq, .int .i64 tm, .int .i64 ix, .int .i64 lt, .int .i64 cm, .bool yes, .slice a n c, .int .i64 si, .int .i64 st, .slice a2 M c2, .string sd] 27))
  go_enter Try.func11, Try.ntmps11
  go_wp2_with fail
  go_quiet (fail)
  go_wp2_with fail
  go_ret2
  exact ⟨rfl, below_drewN HBX.out _⟩

set_option maxRecDepth 100000 in
set_option maxHeartbeats 8000000 in
theorem renc_bad8 {w : World} {kd fr tq tm ix lt cm si st : Int} {yes : Bool} {a a2 : Option Addr} {n c M c2 : Nat} {sd : ByteArray} (q0 : decide (kd < 1) = false) (q1 : decide (5 < kd) = false) (q2 : decide (fr < 1) = false) (q3 : decide (9 < fr) = false) (q4 : decide (tq < 1) = false) (q5 : decide (9 < tq) = false) (q6 : decide (tm < 0) = false) (q7 : decide (ix < 0) = false) (q8 : decide (lt < 0) = true) :
    Calls Try.prog 11 #[.agg #[.int .i64 kd, .int .i64 fr, .int .i64 tq, .int .i64 tm, .int .i64 ix, .int .i64 lt, .int .i64 cm, .bool yes, .slice a n c, .int .i64 si, .int .i64 st, .slice a2 M c2, .string sd]] w fun e w' => e = .returned (.tuple #[.slice none 0 0, .int .i64 1]) ∧ Below w.heap.size w w' := by
  have HBX := Lib.hid (below_more (Below.refl _ w) (.cells #[.int .i64 kd, .int .i64 fr, .int .i64 tq, .int .i64 tm, .int .i64 ix, .int .i64 lt, .int .i64 cm, .bool yes, .slice a n c, .int .i64 si, .int .i64 st, .slice a2 M c2, .string sd] 27))
  go_enter Try.func11, Try.ntmps11
  go_wp2_with fail
  go_quiet (fail)
  go_wp2_with fail
  go_ret2
  exact ⟨rfl, below_drewN HBX.out _⟩

set_option maxRecDepth 100000 in
set_option maxHeartbeats 8000000 in
theorem renc_bad9 {w : World} {kd fr tq tm ix lt cm si st : Int} {yes : Bool} {a a2 : Option Addr} {n c M c2 : Nat} {sd : ByteArray} (q0 : decide (kd < 1) = false) (q1 : decide (5 < kd) = false) (q2 : decide (fr < 1) = false) (q3 : decide (9 < fr) = false) (q4 : decide (tq < 1) = false) (q5 : decide (9 < tq) = false) (q6 : decide (tm < 0) = false) (q7 : decide (ix < 0) = false) (q8 : decide (lt < 0) = false) (q9 : decide (cm < 0) = true) :
    Calls Try.prog 11 #[.agg #[.int .i64 kd, .int .i64 fr, .int .i64 tq, .int .i64 tm, .int .i64 ix, .int .i64 lt, .int .i64 cm, .bool yes, .slice a n c, .int .i64 si, .int .i64 st, .slice a2 M c2, .string sd]] w fun e w' => e = .returned (.tuple #[.slice none 0 0, .int .i64 1]) ∧ Below w.heap.size w w' := by
  have HBX := Lib.hid (below_more (Below.refl _ w) (.cells #[.int .i64 kd, .int .i64 fr, .int .i64 tq, .int .i64 tm, .int .i64 ix, .int .i64 lt, .int .i64 cm, .bool yes, .slice a n c, .int .i64 si, .int .i64 st, .slice a2 M c2, .string sd] 27))
  go_enter Try.func11, Try.ntmps11
  go_wp2_with fail
  go_quiet (fail)
  go_wp2_with fail
  go_ret2
  exact ⟨rfl, below_drewN HBX.out _⟩

set_option maxRecDepth 100000 in
set_option maxHeartbeats 8000000 in
theorem renc_bad10 {w : World} {kd fr tq tm ix lt cm si st : Int} {yes : Bool} {a a2 : Option Addr} {n c M c2 : Nat} {sd : ByteArray} (q0 : decide (kd < 1) = false) (q1 : decide (5 < kd) = false) (q2 : decide (fr < 1) = false) (q3 : decide (9 < fr) = false) (q4 : decide (tq < 1) = false) (q5 : decide (9 < tq) = false) (q6 : decide (tm < 0) = false) (q7 : decide (ix < 0) = false) (q8 : decide (lt < 0) = false) (q9 : decide (cm < 0) = false) (q10 : decide (8 < (n : Int)) = true) :
    Calls Try.prog 11 #[.agg #[.int .i64 kd, .int .i64 fr, .int .i64 tq, .int .i64 tm, .int .i64 ix, .int .i64 lt, .int .i64 cm, .bool yes, .slice a n c, .int .i64 si, .int .i64 st, .slice a2 M c2, .string sd]] w fun e w' => e = .returned (.tuple #[.slice none 0 0, .int .i64 1]) ∧ Below w.heap.size w w' := by
  have HBX := Lib.hid (below_more (Below.refl _ w) (.cells #[.int .i64 kd, .int .i64 fr, .int .i64 tq, .int .i64 tm, .int .i64 ix, .int .i64 lt, .int .i64 cm, .bool yes, .slice a n c, .int .i64 si, .int .i64 st, .slice a2 M c2, .string sd] 27))
  go_enter Try.func11, Try.ntmps11
  go_wp2_with fail
  go_quiet (fail)
  go_wp2_with fail
  go_ret2
  exact ⟨rfl, below_drewN HBX.out _⟩

set_option maxRecDepth 100000 in
set_option maxHeartbeats 8000000 in
theorem renc_bad11 {w : World} {kd fr tq tm ix lt cm si st : Int} {yes : Bool} {a a2 : Option Addr} {n c M c2 : Nat} {sd : ByteArray} (q0 : decide (kd < 1) = false) (q1 : decide (5 < kd) = false) (q2 : decide (fr < 1) = false) (q3 : decide (9 < fr) = false) (q4 : decide (tq < 1) = false) (q5 : decide (9 < tq) = false) (q6 : decide (tm < 0) = false) (q7 : decide (ix < 0) = false) (q8 : decide (lt < 0) = false) (q9 : decide (cm < 0) = false) (q10 : decide (8 < (n : Int)) = false) (q11 : decide (9 < (M : Int)) = true) :
    Calls Try.prog 11 #[.agg #[.int .i64 kd, .int .i64 fr, .int .i64 tq, .int .i64 tm, .int .i64 ix, .int .i64 lt, .int .i64 cm, .bool yes, .slice a n c, .int .i64 si, .int .i64 st, .slice a2 M c2, .string sd]] w fun e w' => e = .returned (.tuple #[.slice none 0 0, .int .i64 1]) ∧ Below w.heap.size w w' := by
  have HBX := Lib.hid (below_more (Below.refl _ w) (.cells #[.int .i64 kd, .int .i64 fr, .int .i64 tq, .int .i64 tm, .int .i64 ix, .int .i64 lt, .int .i64 cm, .bool yes, .slice a n c, .int .i64 si, .int .i64 st, .slice a2 M c2, .string sd] 27))
  go_enter Try.func11, Try.ntmps11
  go_wp2_with fail
  go_quiet (fail)
  go_wp2_with fail
  go_ret2
  exact ⟨rfl, below_drewN HBX.out _⟩

set_option maxRecDepth 100000 in
set_option maxHeartbeats 8000000 in
theorem renc_bad12 {w : World} {kd fr tq tm ix lt cm si st : Int} {yes : Bool} {a a2 : Option Addr} {n c M c2 : Nat} {sd : ByteArray} (q0 : decide (kd < 1) = false) (q1 : decide (5 < kd) = false) (q2 : decide (fr < 1) = false) (q3 : decide (9 < fr) = false) (q4 : decide (tq < 1) = false) (q5 : decide (9 < tq) = false) (q6 : decide (tm < 0) = false) (q7 : decide (ix < 0) = false) (q8 : decide (lt < 0) = false) (q9 : decide (cm < 0) = false) (q10 : decide (8 < (n : Int)) = false) (q11 : decide (9 < (M : Int)) = false) (q12 : decide (65536 < (sd.size : Int)) = true) :
    Calls Try.prog 11 #[.agg #[.int .i64 kd, .int .i64 fr, .int .i64 tq, .int .i64 tm, .int .i64 ix, .int .i64 lt, .int .i64 cm, .bool yes, .slice a n c, .int .i64 si, .int .i64 st, .slice a2 M c2, .string sd]] w fun e w' => e = .returned (.tuple #[.slice none 0 0, .int .i64 1]) ∧ Below w.heap.size w w' := by
  have HBX := Lib.hid (below_more (Below.refl _ w) (.cells #[.int .i64 kd, .int .i64 fr, .int .i64 tq, .int .i64 tm, .int .i64 ix, .int .i64 lt, .int .i64 cm, .bool yes, .slice a n c, .int .i64 si, .int .i64 st, .slice a2 M c2, .string sd] 27))
  go_enter Try.func11, Try.ntmps11
  go_wp2_with fail
  go_quiet (fail)
  go_wp2_with fail
  go_ret2
  exact ⟨rfl, below_drewN HBX.out _⟩

set_option maxRecDepth 100000 in
set_option maxHeartbeats 8000000 in
theorem renc_bad13 {w : World} {kd fr tq tm ix lt cm si st : Int} {yes : Bool} {a a2 : Option Addr} {n c M c2 : Nat} {sd : ByteArray} (q0 : decide (kd < 1) = false) (q1 : decide (5 < kd) = false) (q2 : decide (fr < 1) = false) (q3 : decide (9 < fr) = false) (q4 : decide (tq < 1) = false) (q5 : decide (9 < tq) = false) (q6 : decide (tm < 0) = false) (q7 : decide (ix < 0) = false) (q8 : decide (lt < 0) = false) (q9 : decide (cm < 0) = false) (q10 : decide (8 < (n : Int)) = false) (q11 : decide (9 < (M : Int)) = false) (q12 : decide (65536 < (sd.size : Int)) = false) (q13 : decide (si < 0) = true) :
    Calls Try.prog 11 #[.agg #[.int .i64 kd, .int .i64 fr, .int .i64 tq, .int .i64 tm, .int .i64 ix, .int .i64 lt, .int .i64 cm, .bool yes, .slice a n c, .int .i64 si, .int .i64 st, .slice a2 M c2, .string sd]] w fun e w' => e = .returned (.tuple #[.slice none 0 0, .int .i64 1]) ∧ Below w.heap.size w w' := by
  have HBX := Lib.hid (below_more (Below.refl _ w) (.cells #[.int .i64 kd, .int .i64 fr, .int .i64 tq, .int .i64 tm, .int .i64 ix, .int .i64 lt, .int .i64 cm, .bool yes, .slice a n c, .int .i64 si, .int .i64 st, .slice a2 M c2, .string sd] 27))
  go_enter Try.func11, Try.ntmps11
  go_wp2_with fail
  go_quiet (fail)
  go_wp2_with fail
  go_ret2
  exact ⟨rfl, below_drewN HBX.out _⟩

set_option maxRecDepth 100000 in
set_option maxHeartbeats 8000000 in
theorem renc_bad14 {w : World} {kd fr tq tm ix lt cm si st : Int} {yes : Bool} {a a2 : Option Addr} {n c M c2 : Nat} {sd : ByteArray} (q0 : decide (kd < 1) = false) (q1 : decide (5 < kd) = false) (q2 : decide (fr < 1) = false) (q3 : decide (9 < fr) = false) (q4 : decide (tq < 1) = false) (q5 : decide (9 < tq) = false) (q6 : decide (tm < 0) = false) (q7 : decide (ix < 0) = false) (q8 : decide (lt < 0) = false) (q9 : decide (cm < 0) = false) (q10 : decide (8 < (n : Int)) = false) (q11 : decide (9 < (M : Int)) = false) (q12 : decide (65536 < (sd.size : Int)) = false) (q13 : decide (si < 0) = false) (q14 : decide (st < 0) = true) :
    Calls Try.prog 11 #[.agg #[.int .i64 kd, .int .i64 fr, .int .i64 tq, .int .i64 tm, .int .i64 ix, .int .i64 lt, .int .i64 cm, .bool yes, .slice a n c, .int .i64 si, .int .i64 st, .slice a2 M c2, .string sd]] w fun e w' => e = .returned (.tuple #[.slice none 0 0, .int .i64 1]) ∧ Below w.heap.size w w' := by
  have HBX := Lib.hid (below_more (Below.refl _ w) (.cells #[.int .i64 kd, .int .i64 fr, .int .i64 tq, .int .i64 tm, .int .i64 ix, .int .i64 lt, .int .i64 cm, .bool yes, .slice a n c, .int .i64 si, .int .i64 st, .slice a2 M c2, .string sd] 27))
  go_enter Try.func11, Try.ntmps11
  go_wp2_with fail
  go_quiet (fail)
  go_wp2_with fail
  go_ret2
  exact ⟨rfl, below_drewN HBX.out _⟩

end Go.Proofs.Ythpljpbiamjmaaa
