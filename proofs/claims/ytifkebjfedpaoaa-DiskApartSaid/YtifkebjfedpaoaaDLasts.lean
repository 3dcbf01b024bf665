/-
  DiskLasts: whatever was synced, whatever more was appended, and whatever the picks, a crash leaves what was synced and a first part of the rest; the law returns true, and what was there has not turned. No condition.
-/
import Derived.Test.YtifkebjfedpaoaaProg
import Derived.Test.YtifkebjfedpaoaaKit
import Derived.Test.YtifkebjfedpaoaaLaw
import Derived.Test.YtifkebjfedpaoaaRow
import Derived.Test.YtifkebjfedpaoaaCod2
import Derived.Test.YtifkebjfedpaoaaCod5
import Derived.Test.YtifkebjfedpaoaaCod7
import Derived.Test.YtifkebjfedpaoaaFrm4
import Derived.Test.YtifkebjfedpaoaaFrm5
import Derived.Test.YtifkebjfedpaoaaFrm8
import Derived.Test.YtifkebjfedpaoaaFrm11
import Derived.Test.YtifkebjfedpaoaaDsk0
import Derived.Test.YtifkebjfedpaoaaDsk7
import Derived.Test.YtifkebjfedpaoaaDsk9
import Derived.Test.YtifkebjfedpaoaaDsk14
import Derived.Test.YtifkebjfedpaoaaDsk17
import Derived.Test.YtifkebjfedpaoaaDsk18
import Derived.Test.YtifkebjfedpaoaaDsk19
import Derived.Test.YtifkebjfedpaoaaDsk20
namespace Go.Proofs.Ytifkebjfedpaoaa
open Go.ChangeShapes Go.WideShapes Go.ChangeAt Go.RowKit Go.Proofs
open Go.ChangeMaps (open_string shut_string)

theorem byteZ_take {w : World} {Z : Nat → Prop} {g N : Nat} {l : List UInt8} (hat : ByAt w g 0 l) (hN : N = l.length) (hZ : Z g) (n : Nat) (hn : n ≤ N) : ByteZ w Z (.slice (some ⟨g, 0, none⟩) n N) (l.take n) := by
  have hl : (l.take n).length = n := by rw [List.length_take]; omega
  exact .inr ⟨_, N, by rw [hl], by rw [hl]; exact hn, .inr ⟨g, 0, rfl, hZ, byAt_take hat n⟩⟩

theorem byteZ_drop {w : World} {Z : Nat → Prop} {g N : Nat} {l : List UInt8} (hat : ByAt w g 0 l) (hN : N = l.length) (hZ : Z g) (n : Nat) : ByteZ w Z (.slice (if N = n then some ⟨g, 0, none⟩ else some ⟨g, 0 + n, none⟩) (N - n) (N - n)) (l.drop n) := by
  have hl : (l.drop n).length = N - n := by rw [List.length_drop, hN]
  by_cases h : N = n
  · rw [if_pos h]
    exact .inr ⟨_, N - n, by rw [hl], by rw [hl]; exact Nat.le_refl _, .inl (List.eq_nil_of_length_eq_zero (by omega))⟩
  · rw [if_neg h]
    refine .inr ⟨_, N - n, by rw [hl], by rw [hl]; exact Nat.le_refl _, .inr ⟨g, 0 + n, rfl, hZ, fun j x hj => ?_⟩⟩
    rw [List.getElem?_drop] at hj
    rw [Nat.zero_add]
    have := hat (n + j) x hj
    rw [Nat.zero_add] at this
    exact this

theorem byAt_keep0 {w w' : World} {g : Nat} {l : List UInt8} (h : ByAt w g 0 l) (hk : w'.heap[g]? = w.heap[g]?) : ByAt w' g 0 l := fun j x hj => cell_same (h j x hj) hk

set_option maxHeartbeats 2000000 in
theorem diskLasts_any (x : Int) (_hx : -9223372036854775808 ≤ x ∧ x ≤ 9223372036854775807) (y : Int) (_hy : -9223372036854775808 ≤ y ∧ y ≤ 9223372036854775807) (v : Value) (ps : List Int) (w : World) (hp : PickAt w v ps) (hri : RangeI ps) :
    Calls Try.prog 4 #[.int .i64 x, .int .i64 y, v] w fun e w' => e = .returned (.bool true) ∧ Below w.heap.size w w' := by
  have HP := Lib.hid hp
  have HRI := Lib.hid hri
  obtain ⟨pa, pc, rfl, _, _⟩ := hp
  clear _hx _hy hri
  obtain ⟨np, hnp⟩ : ∃ np, np = ps.length := ⟨_, rfl⟩
  rw [← hnp]
  rw [← hnp] at HP
  have HNP := Lib.hid hnp
  clear hnp
  by_cases hc : x < 0 ∨ 500 < x ∨ y < 0 ∨ 500 < y ∨ 50 < (np : Int)
  · have hw := dawake_any w
    have HW := Lib.hid hw
    clear hw
    go_enter Try.func4, Try.ntmps4
    by_cases h1 : x < 0
    · go_wp2_with fail
      refine (HW.out).mono ?_
      rintro e w' ⟨rfl, hb⟩
      go_wp2_with fail
      go_ret
      exact ⟨rfl, hb⟩
    by_cases h2 : 500 < x
    · go_wp2_with fail
      refine (HW.out).mono ?_
      rintro e w' ⟨rfl, hb⟩
      go_wp2_with fail
      go_ret
      exact ⟨rfl, hb⟩
    by_cases h3 : y < 0
    · go_wp2_with fail
      refine (HW.out).mono ?_
      rintro e w' ⟨rfl, hb⟩
      go_wp2_with fail
      go_ret
      exact ⟨rfl, hb⟩
    by_cases h4 : 500 < y
    · go_wp2_with fail
      refine (HW.out).mono ?_
      rintro e w' ⟨rfl, hb⟩
      go_wp2_with fail
      go_ret
      exact ⟨rfl, hb⟩
    have h5 : 50 < (np : Int) := by omega
    clear hc
    go_wp2_with fail
    refine (HW.out).mono ?_
    rintro e w' ⟨rfl, hb⟩
    go_wp2_with fail
    go_ret
    exact ⟨rfl, hb⟩
  · obtain ⟨a, rfl⟩ : ∃ a : Nat, x = (a : Int) := ⟨x.toNat, by omega⟩
    obtain ⟨b, rfl⟩ : ∃ b : Nat, y = (b : Int) := ⟨y.toNat, by omega⟩
    have h2 : ¬ 500 < (a : Int) := by omega
    have h4 : ¬ 500 < (b : Int) := by omega
    have h5 : ¬ 50 < (np : Int) := by omega
    obtain ⟨N, hN⟩ : ∃ N, N = a + b := ⟨_, rfl⟩
    have hsum : (a : Int) + (b : Int) = (N : Int) := by omega
    have HNB : Hid (N ≤ 1000 ∧ a ≤ N ∧ N = a + b) := Lib.hid (by omega)
    have hNi : (N : Int) ≤ 1000 := by omega
    clear hc hN
    go_enter Try.func4, Try.ntmps4
    go_wp2_with fail
    refine (dnew_any 5000 w (by omega) (by omega)).mono ?_
    rintro e w1 h1
    rcases h1 with ⟨h1, _⟩ | ⟨_, _, rfl, hw1⟩
    · exact absurd ⟨by omega, by omega⟩ h1
    obtain ⟨g, hg⟩ : ∃ g, g = w.heap.size := ⟨_, rfl⟩
    have hd1 := dIn_new0 (room := 5000) hw1
    rw [← hg] at hd1 ⊢
    have HD1 := Lib.hid hd1
    clear hw1 hg hd1 h2 h4 h5
    go_wp2_with fail
    have hby := dbytes_any (N : Int) N 7 w1 (by omega) (by have := HNB.out; omega) (by omega)
    rw [show ((7 : Nat) : Int) = 7 from rfl] at hby
    refine hby.mono ?_
    clear hby
    rintro e w2 ⟨gb, rfl, hob, hb2⟩
    have hd2 := dIn_new HD1.out hb2
    have hgl := own_cap hob
    have hat2 := byAt_own hob
    obtain ⟨l, hl⟩ : ∃ l, l = byteL 7 N := ⟨_, rfl⟩
    have hll : N = l.length := by rw [hl, byteL_len]
    rw [← hl] at hat2
    have HZ : Hid (∀ k, k = gb → w1.heap.size ≤ k ∧ k < w2.heap.size) := Lib.hid (fun k hk => by rw [hk]; exact ⟨hgl.1, hgl.2.2⟩)
    have HD2 : Hid (DIn w w2 (fun k => k = gb) g (newM 5000)) := Lib.hid (dIn_less hd2 (fun k hk => .inr (HZ.out k hk)))
    have HAT2 := Lib.hid hat2
    have HLL := Lib.hid hll
    have HNA : Hid (¬ N < a) := Lib.hid (by have := HNB.out; omega)
    have hs1 : ∀ W, (Instr.slice 39 (.slice (some ⟨gb, 0, none⟩) N N) none (some (.int .i64 (a : Int))) none).run Try.prog W = .ok (.slice (some ⟨gb, 0, none⟩) a N) W := fun W => by
      rw [run_slice_h W 39 (some ⟨gb, 0, none⟩) N N (by kernel_rfl) .i64 a (by omega) (by have := HNA.out; omega), run_size1 (by kernel_rfl)]
      simp [Result.andThen, sliced, Addr.add_mid]
    have hs2 : ∀ W, (Instr.slice 39 (.slice (some ⟨gb, 0, none⟩) N N) (some (.int .i64 (a : Int))) none none).run Try.prog W = .ok (.slice (if N = a then some ⟨gb, 0, none⟩ else some ⟨gb, 0 + a, none⟩) (N - a) (N - a)) W := fun W =>
      slice_from (by kernel_rfl) (by kernel_rfl) gb 0 N N a (by have := HNA.out; omega) W
    obtain ⟨ad, had⟩ : ∃ ad, ad = (if N = a then some (⟨gb, 0, none⟩ : Addr) else some ⟨gb, 0 + a, none⟩) := ⟨_, rfl⟩
    obtain ⟨M, hM⟩ : ∃ M, M = N - a := ⟨_, rfl⟩
    rw [← had, ← hM] at hs2
    have HAD := Lib.hid had
    have HMM := Lib.hid hM
    clear hob hb2 hd2 hgl hat2 hl hll had hM
    go_wp2_with fail
    have hA := zapp_sl HD2.out ⟨#[102]⟩ (.slice (some ⟨gb, 0, none⟩) a N) (l.take a) 39 (0, 0) w2.heap.size (byteZ_take HAT2.out HLL.out (.inr rfl) a (by have := HNA.out; omega)) rfl (by unfold CodOk; decide) (by rw [List.length_take]; have := HNB.out; omega) 0 _ (oneD_new (by rw [List.length_take]; have := HNB.out; omega))
    refine hA.mono ?_
    clear hA
    rintro e w3 ⟨rfl, hd3, hk3⟩
    have HD3 := Lib.hid hd3
    have HAT3 := Lib.hid (byAt_keep0 HAT2.out (hk3.2 gb (HZ.out gb rfl).2 (.inr rfl)))
    have HL3 : Hid (gb < w3.heap.size) := Lib.hid (Nat.lt_of_lt_of_le (HZ.out gb rfl).2 hk3.1)
    clear hd3 hk3
    have HTL : Hid ((l.take a).length = a) := Lib.hid (by rw [List.length_take, ← HLL.out]; have := HNA.out; omega)
    have HO3 : Hid (CodOk (oneD (l.take a) 0 1)) := Lib.hid (oneD_ok (by rw [HTL.out]; have := HNB.out; omega) (by decide))
    go_wp2_with fail
    have hA := zsyn_sl HD3.out ⟨#[102]⟩ 9 (0, 0) w3.heap.size rfl HO3.out (by decide) 0 _ oneD_syn
    refine hA.mono ?_
    clear hA
    rintro e w4 ⟨rfl, hd4, hk4⟩
    rw [HTL.out] at hd4
    have HD4 := Lib.hid hd4
    have HAT4 := Lib.hid (byAt_keep0 HAT3.out (hk4.2 gb HL3.out (.inr rfl)))
    have HL4 : Hid (gb < w4.heap.size) := Lib.hid (Nat.lt_of_lt_of_le HL3.out hk4.1)
    clear hd4 hk4
    have HO4 : Hid (CodOk (oneD (l.take a) a 2)) := Lib.hid (oneD_ok (by rw [HTL.out]; have := HNB.out; omega) (by decide))
    go_wp2_with fail
    have hbz := byteZ_drop (Z := fun k => k < w.heap.size ∨ k = gb) HAT4.out HLL.out (.inr rfl) a
    rw [← HAD.out, ← HMM.out] at hbz
    have hA := zapp_sl HD4.out ⟨#[102]⟩ (.slice ad M M) (l.drop a) 39 (0, 0) w4.heap.size hbz rfl HO4.out (by rw [List.length_drop, ← HLL.out]; have := HNB.out; omega) 0 _ (oneD_app (by rw [HTL.out, List.length_drop, ← HLL.out]; have := HNB.out; omega))
    refine hA.mono ?_
    clear hA hbz
    rintro e w5 ⟨rfl, hd5, hk5⟩
    rw [List.take_append_drop] at hd5
    have HD5 := Lib.hid hd5
    have HAT5 := Lib.hid (byAt_keep0 HAT4.out (hk5.2 gb HL4.out (.inr rfl)))
    have HL5 : Hid (gb < w5.heap.size) := Lib.hid (Nat.lt_of_lt_of_le HL4.out hk5.1)
    clear hd5 hk5
    have HO5 : Hid (CodOk (oneD l a 3)) := Lib.hid (oneD_ok (by rw [← HLL.out]; have := HNB.out; omega) (by decide))
    go_wp2_with fail
    have hC := zcrash_any HD5.out ps (.slice pa np pc) HO5.out (pickAt_below HP.out (dIn_below HD5.out)) HRI.out (fun f hf => by
      simp [oneD] at hf
      subst hf
      show 1 ≤ maxLen
      decide)
    refine hC.mono ?_
    clear hC
    rintro e w6 ⟨rfl, _, hc6, hb6⟩
    obtain ⟨r, hr, hcm⟩ := oneD_crash (x := l) (i := a) (ops := 3) ps (by rw [← HLL.out]; have := HNA.out; omega)
    rw [hcm] at hc6
    have HC6 := Lib.hid hc6
    have HAT6 := Lib.hid (byAt_keep0 HAT5.out (hb6.block gb HL5.out))
    have HL6 : Hid (gb < w6.heap.size) := Lib.hid (Nat.lt_of_lt_of_le HL5.out hb6.size)
    obtain ⟨T, hT⟩ : ∃ T, T = a + r := ⟨_, rfl⟩
    rw [← hT] at hr hc6
    rw [← hT] at HC6
    have HTT : Hid (T ≤ N ∧ a ≤ T) := Lib.hid ⟨by rw [HLL.out]; exact hr, by omega⟩
    have HTK : Hid ((l.take T).length = T) := Lib.hid (by rw [List.length_take]; omega)
    clear hc6 hb6 hr hcm hT
    go_wp2_with fail
    have hR := zread_any HC6.out ⟨#[102]⟩ (by decide) (by
      show sizeM [⟨[102], l.take T, T⟩] < _
      simp only [sizeM, List.map_cons, List.map_nil, List.sum_cons, List.sum_nil]
      rw [HTK.out]
      have := HTT.out
      have := HNB.out
      omega)
    refine hR.mono ?_
    clear hR
    rintro e w7 ⟨h7, hb7⟩
    rw [show findM [⟨[102], l.take T, T⟩] (⟨#[102]⟩ : ByteArray).data.toList = some ⟨[102], l.take T, T⟩ from rfl] at h7
    obtain ⟨v7, rfl, ho7⟩ := h7
    rw [HTK.out] at ho7
    obtain ⟨a7, q7, rfl⟩ := own_len ho7
    have HAT7 := Lib.hid (byAt_keep0 HAT6.out (hb7.block gb HL6.out))
    have HO7 := Lib.hid ho7
    have HB7 := Lib.hid (dIn_below (dIn_new HC6.out hb7))
    clear hb7 ho7
    have hs3 : ∀ W, (Instr.slice 39 (.slice (some ⟨gb, 0, none⟩) N N) none (some (.int .i64 (T : Int))) none).run Try.prog W = .ok (.slice (some ⟨gb, 0, none⟩) T N) W := fun W => by
      rw [run_slice_h W 39 (some ⟨gb, 0, none⟩) N N (by kernel_rfl) .i64 T (by omega) (by have := HTT.out; omega), run_size1 (by kernel_rfl)]
      simp [Result.andThen, sliced, Addr.add_mid]
    have hge : (a : Int) ≤ (T : Int) := by have := HTT.out; omega
    have hle : (T : Int) ≤ (N : Int) := by have := HTT.out; omega
    go_wp2_with fail
    have hsl : SliceAt w7 (.slice (some ⟨gb, 0, none⟩) T N) ((l.take T).map byteV) := ⟨some ⟨gb, 0, none⟩, N, by rw [List.length_map, HTK.out], .inr ⟨gb, 0, rfl, fun j x hj => by
      rw [List.getElem?_map] at hj
      obtain ⟨y, hy, rfl⟩ := Option.map_eq_some_iff.1 hj
      exact byAt_take HAT7.out T j y hy⟩⟩
    refine (bytes_any (l.take T) (l.take T) _ _ w7 (by rw [HTK.out]; have := HTT.out; have := HNB.out; omega) (by rw [HTK.out]; have := HTT.out; have := HNB.out; omega) (own_sliceAt HO7.out) hsl).mono ?_
    rintro e w8 ⟨rfl, hx8⟩
    rw [show (l.take T == l.take T) = true by simp]
    have HB8 := Lib.hid (below_draws HB7.out hx8)
    clear hx8 hsl hs1 hs2 hs3
    go_wp2_with fail
    refine (dawake_any _).mono ?_
    rintro e w9 ⟨rfl, hb9⟩
    go_wp2_with fail
    go_ret
    exact ⟨rfl, below_then HB8.out hb9⟩

theorem diskLasts_own : ownKnob Try.prog.godebug = none := by kernel_rfl

set_option maxRecDepth 100000 in
theorem diskLasts_lifted (os : Os) (started : os.Started) (H : Type) (enc : TypeId × Value → H) :
    ReturnsInHanded {} Try.checked os 4 .any (Rows.diskLastsSpec.pre6 enc Try.prog Try.f4 Rows.diskLastsRow.domain false) (Rows.diskLastsSpec.post enc Try.prog Try.f4 false true false false) := by
  refine law_lifted (C := Try.checked) diskLasts_own started (by kernel_rfl) Try.func4
    (ChangeSpec.witness6 (enc := enc) (C := Try.checked) false ⟨#[], #[.int .i64 0, .int .i64 0, .slice none 0 0], []⟩ 8 (by kernel_rfl) (by kernel_rfl) (by kernel_rfl) (by kernel_rfl))
    (by kernel_rfl) (of_decide_eq_true (by kernel_rfl)) (tb := 4) (by kernel_rfl) Try.underlying4 rfl (fun ds h => by match ds, h with | [d0, d1, d2], _ => exact ⟨rfl, rfl, rfl⟩) ?_
  intro W base args ds p hval0 hA0 hlt hsz0
  have hval : ∀ (j : Nat) t v, Try.f4.params[j]? = some t → args[j]? = some v → Value.okWide Try.prog W .any base t v := hval0
  have hA : DataW.TrodAll enc Try.prog W 0 (fun _ => true) true Try.f4.params.toList args.toList ds p := hA0
  have hsz : (DataW.weightsEach Try.prog Try.f4.params.toList ds).all (· ≤ reachBytes) = true := hsz0
  rw [Try.params4] at hA hval hsz
  obtain ⟨v0, vs0, d0, ds0, p0, q0, hargs, rfl, rfl, h0, r0⟩ := trodAll_cons hA
  obtain ⟨v1, vs1, d1, ds1, p1, q1, rfl, rfl, rfl, h1, r1⟩ := trodAll_cons r0
  obtain ⟨v2, vs2, d2, ds2, p2, q2, rfl, rfl, rfl, h2, r2⟩ := trodAll_cons r1
  obtain ⟨rfl, rfl, rfl⟩ := trodAll_nil r2
  obtain rfl : args = #[v0, v1, v2] := by cases args; simp_all
  have s2 := sized_at hsz (j := 2) (t := 34) (d := d2) rfl rfl
  obtain ⟨a0, rfl, rfl, rfl, w0⟩ := open_int Try.underlying3 (hval 0 3 v0 rfl rfl) h0
  obtain ⟨a1, rfl, rfl, rfl, w1⟩ := open_int Try.underlying3 (hval 1 3 v1 rfl rfl) h1
  obtain ⟨a2, g2, z2⟩ := open_picks Try.underlying34 Try.underlying3 (by kernel_rfl) (by kernel_rfl) (hval 2 34 v2 rfl rfl) h2 s2
  exact diskLasts_any (w := W) a0 (bounds_i64 w0) a1 (bounds_i64 w1) v2 a2 g2 z2

theorem diskLasts_over : Rows.diskLastsRow.holds Try.pinned (OpenSpec.ofChange Rows.diskLastsSpec) :=
  OpenClaim.holds_of_wide 4 Try.f4 rfl rfl rfl rfl rfl rfl rfl ⟨rfl, rfl, rfl, rfl, rfl⟩ rfl rfl rfl rfl rfl (by kernel_rfl) Try.func4 (by kernel_rfl)
    (of_decide_eq_true (by kernel_rfl)) (by unfold Func.isWrapper; first | (rw [if_pos (by decide +kernel)]; kernel_rfl) | (rw [if_neg (by decide +kernel)]; exact ⟨rfl, rfl⟩))
    (fun os started H enc _ => diskLasts_lifted os started H enc)

theorem diskLasts_proved : Rows.DiskLastsSaid := diskLasts_over
#print axioms diskLasts_proved

end Go.Proofs.Ytifkebjfedpaoaa
