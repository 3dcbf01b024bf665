/-
  DiskPlays: for every room and every row of steps, whatever is appended, synced, named, cut, removed, copied and crashes, the code's disk answers as the reference disk does and leaves the same files; the law returns true, and what was there has not turned. No condition.
-/
import Derived.BigRegion
import Derived.BigQuiet
import Derived.Deep.RegionHeld3
import Derived.Deep.RegionLaw
import Derived.Test.YtfiocghgjjandaaProg
import Derived.Test.YtfiocghgjjandaaKit
import Derived.Test.YtfiocghgjjandaaLaw
import Derived.Test.YtfiocghgjjandaaRow
import Derived.Test.YtfiocghgjjandaaCod7
import Derived.Test.YtfiocghgjjandaaFrm4
import Derived.Test.YtfiocghgjjandaaDsk6
import Derived.Test.YtfiocghgjjandaaDsk9
import Derived.Test.YtfiocghgjjandaaDsk17
import Derived.Test.YtfiocghgjjandaaDsk19
import Derived.Test.YtfiocghgjjandaaRfd0
import Derived.Test.YtfiocghgjjandaaRfd4
import Derived.Test.YtfiocghgjjandaaDpl1
import Derived.Test.YtfiocghgjjandaaDpl2
import Derived.Test.YtfiocghgjjandaaDpl3
import Derived.Test.YtfiocghgjjandaaDpl5
namespace Go.Proofs.Ytfiocghgjjandaa
open Go.ChangeShapes Go.WideShapes Go.ChangeAt Go.RowKit Go.Proofs
open Go.ChangeMaps (open_string shut_string)

theorem call_new (room : Nat) (h : room ≤ 4194304) : CAll (newM room) 0 :=
  ⟨⟨List.Pairwise.nil, fun f hf => absurd hf (by simp [newM]), by show 0 ≤ 64; omega, Nat.zero_le _, h⟩, fun f hf => absurd hf (by simp [newM]), Nat.le_refl _, by show 0 < _; decide⟩

theorem twin_new (room : Nat) : TwinM (newM room) ⟨room, [], 0, -1⟩ := ⟨rfl, rfl, rfl, fun _ => (by show (-1 : Int) < 0; decide), fun h => (by cases h)⟩

theorem bothD_start {w w1 w2 : World} {g : Nat} {room : Nat} (hr : room ≤ 4194304) (hd : DIn w w1 (fun _ => False) g (newM room)) (hb : Below w1.heap.size w1 w2) (h2 : RefR w2 (fun k => k = w1.heap.size) w1.heap.size ⟨room, [], 0, -1⟩ (.slice none 0 0) [] (fun _ => False)) : BothD w w2 (fun _ => False) g w1.heap.size (newM room) 0 := by
  have hlt := refR_lt h2
  have hs := (dIn_below hd).size
  refine ⟨fun k => k = w1.heap.size, dIn_less (dIn_new hd hb) (fun k hk => ?_), ⟨_, twin_new room, _, _, _, h2⟩, fun k hk => ⟨by omega, by omega, fun h => h⟩, call_new room hr⟩
  rcases hk with hk | hk
  · exact .inr ⟨by omega, by omega⟩
  · exact hk.elim

set_option maxRecDepth 100000 in
set_option maxHeartbeats 16000000 in
theorem diskPlays_any (room : Int) (hroom : -9223372036854775808 ≤ room ∧ room ≤ 9223372036854775807) (v : Value) (ss : List StepD) (w : World) (hs : DStepsZ w v ss) :
    Calls Try.prog 3 #[.int .i64 room, v] w fun e w' => e = .returned (.bool true) ∧ Below w.heap.size w w' := by
  have HSM := Lib.hid (dsmall_any v ss w hs)
  obtain ⟨A, Cc, rfl, _, hin⟩ := hs
  obtain ⟨n, hnn⟩ : ∃ n, n = ss.length := ⟨_, rfl⟩
  rw [← hnn] at HSM ⊢
  have HN := Lib.hid hnn
  have HIN := Lib.hid hin
  have HRM : Hid (-9223372036854775808 ≤ room ∧ room ≤ 9223372036854775807) := Lib.hid hroom
  clear hnn hin hroom
  go_enter Try.func3, Try.ntmps3
  go_wp2_with fail
  refine (HSM.out).mono ?_
  rintro e w1 ⟨t, rfl, hsv, hd1⟩
  have HB1 := Lib.hid (below_draws (Below.refl w.heap.size w) hd1)
  have HSV := Lib.hid hsv
  clear hsv hd1
  cases t
  case false =>
    go_wp2_with fail
    refine (dawake_any w1).mono ?_
    rintro e w2 ⟨rfl, hb⟩
    have HB := Lib.hid (below_then HB1.out hb)
    clear hb
    go_wp2_with fail
    go_ret
    exact ⟨rfl, HB.out⟩
  case true =>
    have HS := Lib.hid (HSV.out rfl)
    clear HSV
    go_wp2_with fail
    refine (dnew_any room w1 HRM.out.1 HRM.out.2).mono ?_
    rintro e w2 h2
    by_cases hr : 0 ≤ room ∧ room ≤ 4194304
    · obtain ⟨rm, rfl⟩ : ∃ rm : Nat, room = (rm : Int) := ⟨room.toNat, by omega⟩
      rcases h2 with ⟨h2, _⟩ | ⟨_, _, rfl, hw2⟩
      · exact absurd hr h2
      have hd2 : DIn w1 w2 (fun _ => False) w1.heap.size (newM rm) := dIn_new0 hw2
      have hd2' : DIn w w2 (fun _ => False) w1.heap.size (newM rm) := by
        obtain ⟨F, a1, a2, a3, a4⟩ := hd2
        exact ⟨F, a1, fun k hk => ⟨by have := (a2 k hk).1; have := HB1.out.size; omega, (a2 k hk).2⟩, a3, HB1.out.trans (a4.mono HB1.out.size)⟩
      have HD2 := Lib.hid hd2'
      have hrr : rm ≤ 4194304 := by omega
      have HRR := Lib.hid hrr
      obtain ⟨g, hg⟩ : ∃ g, g = w1.heap.size := ⟨_, rfl⟩
      rw [← hg] at HD2 ⊢
      clear hw2 hd2 hd2' hg hr hrr
      go_wp2_with fail
      refine (rnew_any (rm : Int) HRM.out w2).mono ?_
      rintro e w3 h3
      rcases h3 with ⟨h3, _⟩ | ⟨_, rfl, hb3, hr3⟩
      · have := HRR.out
        exact absurd h3 (by omega)
      have HBD := Lib.hid (bothD_start HRR.out HD2.out hb3 hr3)
      obtain ⟨h, hh⟩ : ∃ h, h = w2.heap.size := ⟨_, rfl⟩
      rw [← hh] at HBD ⊢
      clear hb3 hr3 hh
      have HN100 : Hid (n ≤ 100) := Lib.hid (by rw [HN.out]; exact HS.out.1)
      go_wp2_with fail
      go_loopw [5, 7, 9] (fun dv mv iv wr => ∃ (i g h : Nat) (C : CodM), i ≤ n ∧ dv = .pointer (some ⟨g, 0, none⟩) ∧ mv = .pointer (some ⟨h, 0, none⟩) ∧ iv = .int .i64 i ∧ Hid (BothD w wr (fun _ => False) g h C i)) (fun _ _ iv _ => n - (intOf iv).toNat)
      case atStart => exact ⟨0, g, h, _, Nat.zero_le _, rfl, rfl, rfl, HBD⟩
      case round =>
        clear HBD
        obtain ⟨i, g, h, C, hi, rfl, rfl, rfl, HR⟩ := hrel
        obtain ⟨w4, hw4⟩ : ∃ w4 : World, w4 = wr := ⟨_, rfl⟩
        subst hw4
        by_cases hlt : i < n
        · obtain ⟨⟨kd, a, b, nn, ps⟩, hst⟩ : ∃ s, ss[i]? = some s := ⟨_, List.getElem?_eq_getElem (by rw [← HN.out]; exact hlt)⟩
          obtain ⟨bb, o, rfl, hbl, hrow⟩ := HIN.out.resolve_left (fun e => by rw [e] at hst; simp at hst)
          obtain ⟨pv, hrg, hok⟩ := hrow i _ hst
          have hbw := bothD_below HR.out
          have hsame : ∀ j x, w.cell? ⟨bb, j, none⟩ = some x → w4.cell? ⟨bb, j, none⟩ = some x := fun j x hx => cell_same hx (hbw.block bb hbl)
          have c0 : w4.cell? ⟨bb, o + i * 5, none⟩ = some (.int .i64 kd) := hsame _ _ (hrg 0 (.int .i64 kd) rfl)
          have c1 : w4.cell? ⟨bb, o + i * 5 + 1, none⟩ = some (.string a) := hsame _ _ (hrg 1 (.string a) rfl)
          have c2 : w4.cell? ⟨bb, o + i * 5 + 2, none⟩ = some (.string b) := hsame _ _ (hrg 2 (.string b) rfl)
          have c3 : w4.cell? ⟨bb, o + i * 5 + 3, none⟩ = some (.int .i64 nn) := hsame _ _ (hrg 3 (.int .i64 nn) rfl)
          have c4 : w4.cell? ⟨bb, o + i * 5 + 4, none⟩ = some pv := hsame _ _ (hrg 4 pv rfl)
          obtain ⟨pa, pc, hpv, hpc⟩ := hok.pick
          dsimp only at hpv
          have HDO := Lib.hid (ddoes_any HR.out (by have := HN100.out; omega) kd a b nn ps pv hok.sa hok.sb hok.n (HS.out.2 _ (List.mem_of_getElem? hst)) hok.pick hok.pr hok.pl i (by have := HN100.out; omega))
          have hy : (i : Int) < (n : Int) := by omega
          have hi100 : (i : Int) < 100 := by have := HN100.out; omega
          have HI := Lib.hid hlt
          subst hpv
          clear hst hbl hrow hrg hok hbw hsame hlt hi hpc
          go_wp2_with fail
          refine (HDO.out).mono ?_
          rintro e w5 ⟨g2, h2, C2, rfl, hbd⟩
          have HBN := Lib.hid hbd
          have HSA := Lib.hid (dsame_any hbd)
          clear hbd c0 c1 c2 c3 c4 HDO
          go_wp2_with fail
          refine (HSA.out).mono ?_
          rintro e w6 ⟨rfl, hb6⟩
          have HE : Hid (BothD w w6 (fun _ => False) g2 h2 C2 (i + 1)) := Lib.hid (bothD_less (bothD_new HBN.out hb6) (fun _ hx => hx.elim))
          clear hb6 HSA
          go_wp2_with fail
          go_roundw
          case rel => have := HI.out; exact ⟨i + 1, g2, h2, C2, by omega, rfl, rfl, by go_num, HE⟩
          case measure => have := HI.out; simp [intOf]; omega
        · have hyk : ¬ (i : Int) < (n : Int) := by omega
          have HBB := Lib.hid (bothD_below HR.out)
          clear hlt hi
          go_wp2_with fail
          refine (dawake_any w4).mono ?_
          rintro e w5 ⟨rfl, hb5⟩
          have HE := Lib.hid (below_then HBB.out hb5)
          clear hb5
          go_wp2_with fail
          go_ret
          exact ⟨rfl, HE.out⟩
    · rcases h2 with ⟨_, rfl, rfl⟩ | ⟨a1, a2, _⟩
      · have hr2 : room < 0 ∨ 4194304 < room := by omega
        have HR2 := Lib.hid hr2
        clear hr hr2
        go_wp2_with fail
        refine (rnew_any room HRM.out w2).mono ?_
        rintro e w3 h3
        rcases h3 with ⟨_, rfl, rfl⟩ | ⟨h3, _⟩
        · go_wp2_with fail
          refine (dawake_any w3).mono ?_
          rintro e w4 ⟨rfl, hb⟩
          have HB := Lib.hid (below_then HB1.out hb)
          clear hb
          go_wp2_with fail
          go_ret
          exact ⟨rfl, HB.out⟩
        · have := HR2.out
          exact absurd h3 (by omega)
      · exact absurd ⟨a1, a2⟩ hr

theorem diskPlays_own : ownKnob Try.prog.godebug = none := by kernel_rfl

set_option maxRecDepth 100000 in
theorem diskPlays_lifted (os : Os) (started : os.Started) (H : Type) (enc : TypeId × Value → H) :
    ReturnsInHanded {} Try.checked os 3 .any (Rows.diskPlaysSpec.pre6 enc Try.prog Try.f3 Rows.diskPlaysRow.domain false) (Rows.diskPlaysSpec.post enc Try.prog Try.f3 false true false false) := by
  refine law_lifted (C := Try.checked) diskPlays_own started (by kernel_rfl) Try.func3
    (ChangeSpec.witness6 (enc := enc) (C := Try.checked) false ⟨#[], #[.int .i64 0, .slice none 0 0], []⟩ 8 (by kernel_rfl) (by kernel_rfl) (by kernel_rfl) (by kernel_rfl))
    (by kernel_rfl) (of_decide_eq_true (by kernel_rfl)) (tb := 4) (by kernel_rfl) Try.underlying4 rfl (fun ds h => by match ds, h with | [d0, d1], _ => exact ⟨rfl, rfl, rfl⟩) ?_
  intro W base args ds p hval0 hA0 hlt hsz0
  have hval : ∀ (j : Nat) t v, Try.f3.params[j]? = some t → args[j]? = some v → Value.okWide Try.prog W .any base t v := hval0
  have hA : DataW.TrodAll enc Try.prog W 0 (fun _ => true) true Try.f3.params.toList args.toList ds p := hA0
  have hsz : (DataW.weightsEach Try.prog Try.f3.params.toList ds).all (· ≤ reachBytes) = true := hsz0
  rw [Try.params3] at hA hval hsz
  obtain ⟨v0, vs0, d0, ds0, p0, q0, hargs, rfl, rfl, h0, r0⟩ := trodAll_cons hA
  obtain ⟨v1, vs1, d1, ds1, p1, q1, rfl, rfl, rfl, h1, r1⟩ := trodAll_cons r0
  obtain ⟨rfl, rfl, rfl⟩ := trodAll_nil r1
  obtain rfl : args = #[v0, v1] := by cases args; simp_all
  have s1 := sized_at hsz (j := 1) (t := 22) (d := d1) rfl rfl
  obtain ⟨a0, rfl, rfl, rfl, w0⟩ := open_int Try.underlying3 (hval 0 3 v0 rfl rfl) h0
  obtain ⟨a1, g1⟩ := open_dsteps Try.underlying3 Try.underlying9 Try.underlying34 (by kernel_rfl) (by kernel_rfl) Try.underlying22 Try.underlying36 rfl rfl rfl rfl rfl (by kernel_rfl) (by kernel_rfl) (hval 1 22 v1 rfl rfl) h1 s1
  exact diskPlays_any (w := W) a0 (bounds_i64 w0) v1 a1 g1

theorem diskPlays_over : Rows.diskPlaysRow.holds Try.pinned (OpenSpec.ofChange Rows.diskPlaysSpec) :=
  OpenClaim.holds_of_wide 3 Try.f3 rfl rfl rfl rfl rfl rfl rfl ⟨rfl, rfl, rfl, rfl, rfl⟩ rfl rfl rfl rfl rfl (by kernel_rfl) Try.func3 (by kernel_rfl)
    (of_decide_eq_true (by kernel_rfl)) (by unfold Func.isWrapper; first | (rw [if_pos (by decide +kernel)]; kernel_rfl) | (rw [if_neg (by decide +kernel)]; exact ⟨rfl, rfl⟩))
    (fun os started H enc _ => diskPlays_lifted os started H enc)

theorem diskPlays_proved : Rows.DiskPlaysSaid := diskPlays_over
#print axioms diskPlays_proved

end Go.Proofs.Ytfiocghgjjandaa
