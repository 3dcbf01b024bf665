/- Contracts: in ascending order, each once: the reference's. -/
import Derived.Test.YtfgpcajjnpmoeaaShelf
import Derived.BigQuiet
import Derived.Sort.OwnSorted
import Derived.Laws.BitsLemmas
import Derived.Laws.Cover1
import Derived.Test.YtfgpcajjnpmoeaaProg
import Derived.Test.YtfgpcajjnpmoeaaKit
import Derived.Test.YtfgpcajjnpmoeaaInfo
import Derived.Test.YtfgpcajjnpmoeaaAsc4
import Derived.Test.YtfgpcajjnpmoeaaRow
import Derived.Test.YtfgpcajjnpmoeaaJoin
import Derived.Test.YtfgpcajjnpmoeaaDsk0
import Derived.Test.YtfgpcajjnpmoeaaRfd3
import Derived.Test.YtfgpcajjnpmoeaaUrl9
import Derived.Test.YtfgpcajjnpmoeaaHdr0
import Derived.Test.YtfgpcajjnpmoeaaHdr4
import Derived.Test.YtfgpcajjnpmoeaaHdr8
import Derived.Test.YtfgpcajjnpmoeaaHdr12
namespace Go.Proofs.Ytfgpcajjnpmoeaa
open Go.RowKit Go.Proofs Go.Sort

/-- A row with a hole (what stands in it does not matter). -/
def holeL (R : List (List UInt8)) (q : Nat) (y : List UInt8) : List (List UInt8) := R.take q ++ y :: R.drop q

theorem hole_len (R : List (List UInt8)) (q : Nat) (y : List UInt8) (h : q ≤ R.length) : (holeL R q y).length = R.length + 1 := by
  unfold holeL
  rw [List.length_append, List.length_cons, List.length_take, List.length_drop]
  omega

theorem hole_end (R : List (List UInt8)) (y : List UInt8) : holeL R R.length y = R ++ [y] := by
  unfold holeL
  rw [List.take_length, List.drop_length]

theorem hole_at {R : List (List UInt8)} {q : Nat} {y z : List UInt8} (hz : R[q]? = some z) : (holeL R (q + 1) y)[q]? = some z := by
  unfold holeL
  have hl : q < R.length := (List.getElem?_eq_some_iff.1 hz).1
  rw [List.getElem?_append_left (by rw [List.length_take]; omega), List.getElem?_take, if_pos (by omega)]
  exact hz

theorem hole_mid {R : List (List UInt8)} {q : Nat} {y : List UInt8} (h : q ≤ R.length) : (holeL R q y)[q]? = some y := by
  unfold holeL
  rw [List.getElem?_append_right (by rw [List.length_take]; omega), List.length_take, show q - min q R.length = 0 by omega]
  rfl

theorem hole_move {R : List (List UInt8)} {q : Nat} {y z : List UInt8} (hz : R[q]? = some z) : (holeL R (q + 1) y).set (q + 1) z = holeL R q z := by
  obtain ⟨hl, rfl⟩ := List.getElem?_eq_some_iff.1 hz
  unfold holeL
  rw [List.set_append_right _ _ (by rw [List.length_take]; omega), List.length_take, show q + 1 - min (q + 1) R.length = 0 by omega, List.set_cons_zero, List.take_succ_eq_append_getElem hl, List.append_assoc, List.drop_eq_getElem_cons hl]
  rfl

theorem hole_put (R : List (List UInt8)) (q : Nat) (y x : List UInt8) (h : q ≤ R.length) : (holeL R q y).set q x = insL R q x := by
  unfold holeL insL
  rw [List.set_append_right _ _ (by rw [List.length_take]; omega), List.length_take, show q - min q R.length = 0 by omega, List.set_cons_zero]

theorem asc_before {R : List (List UInt8)} {q : Nat} {y x : List UInt8} (h : AscL R) (hy : R[q]? = some y) (hx : bytesBefore y x = true) : ∀ z ∈ R.take (q + 1), bytesBefore z x = true := by
  intro z hz
  obtain ⟨hl, rfl⟩ := List.getElem?_eq_some_iff.1 hy
  rw [List.take_succ_eq_append_getElem hl, List.mem_append, List.mem_singleton] at hz
  rcases hz with hz | rfl
  · obtain ⟨j, hj, rfl⟩ := List.mem_iff_getElem.1 hz
    rw [List.length_take] at hj
    rw [List.getElem_take]
    exact bef_trans (List.pairwise_iff_getElem.1 h j q (by omega) hl (by omega)) hx
  · exact hx

theorem before_asym {a b : List UInt8} (h : bytesBefore a b = true) : bytesBefore b a = false := by
  cases hq : bytesBefore b a with
  | false => rfl
  | true =>
    have := bef_trans h hq
    rw [bef_irr] at this
    cases this

theorem wrap_fit {z : Int} (h0 : 0 ≤ z) (h1 : z < 1000000) : wrap64 z = z := by unfold wrap64; omega

theorem wrap_next {k : Nat} (h : (k : Int) < 20000) : wrap64 ((k : Int) + 1) = ((k + 1 : Nat) : Int) := by rw [wrap_fit (by omega) (by omega)]; omega

def SortedV (w' : World) (l : List (List UInt8)) (e : Ending) : Prop := ∃ v R, e = .returned v ∧ AscL R ∧ (∀ x, x ∈ R ↔ x ∈ l) ∧ SliceAt w' v (R.map strL) ∧ R.length ≤ l.length

theorem map_at {l : List (List UInt8)} {k : Nat} {x : List UInt8} (h : l[k]? = some x) : (l.map strL)[k]? = some (strL x) := by rw [List.getElem?_map, h]; rfl

theorem rsorted_any (l : List (List UInt8)) (u : Value) (w : World) (hu : SliceAt w u (l.map strL)) (hl : l.length ≤ 20000) :
    Calls Try.prog 51 #[u] w fun e w' => SortedV w' l e ∧ Below w.heap.size w w' := by
  obtain ⟨i0, hi, hz0, hz1, hz2⟩ := info_parts Try.infoStr
  obtain ⟨va, vc, hv2⟩ := hu.len
  rw [List.length_map] at hv2
  subst hv2
  have HV := Lib.hid hu
  obtain ⟨n, hn⟩ : ∃ n, n = l.length := ⟨_, rfl⟩
  have HNN := Lib.hid hn
  have HNB : Hid (n ≤ 20000) := Lib.hid (by omega)
  rw [← hn]
  clear hu hn hl
  go_enter Try.func51, Try.ntmps51
  go_wp2_with fail
  go_loopw [3, 4] (fun r i wr => ∃ (k : Nat) (R : List (List UInt8)) (rv : Value), k ≤ n ∧ i = .int .i64 k ∧ rv = r ∧ Hid (wr.ownsRow w.heap.size 9 1 rv R.length (R.map strL)) ∧ Hid (Below w.heap.size w wr) ∧ Hid (AscL R) ∧ Hid (∀ x, x ∈ R ↔ x ∈ l.take k) ∧ Hid (R.length ≤ k)) (fun _ i _ => n - (intOf i).toNat)
  case atStart => exact ⟨0, [], _, Nat.zero_le _, rfl, rfl, Lib.hid (World.ownsRow_nil _ _ _ _), Lib.hid (Below.refl _ _), Lib.hid List.Pairwise.nil, Lib.hid (fun x => by simp), Lib.hid (Nat.le_refl _)⟩
  case round =>
    obtain ⟨k, R, r, hk, rfl, rfl, HO, HB, HA, HM, HL⟩ := hrel
    obtain ⟨w1, hw1⟩ : ∃ w1 : World, w1 = wr := ⟨_, rfl⟩
    subst hw1
    by_cases hlt : k < n
    · obtain ⟨x, hxk⟩ : ∃ x, l[k]? = some x := ⟨_, List.getElem?_eq_getElem (by rw [← HNN.out]; exact hlt)⟩
      obtain ⟨X, hX⟩ : ∃ X : ByteArray, X = ⟨x.toArray⟩ := ⟨_, rfl⟩
      have HXL : Hid (X.data.toList = x) := Lib.hid (by rw [hX])
      have HXV : Hid (strL x = .string X) := Lib.hid (by rw [hX]; rfl)
      obtain ⟨a, c, he, hcs⟩ := HV.out
      rcases hcs with hnil | ⟨b, o, hb, hat⟩
      · exact absurd (show l.length = 0 by rw [List.map_eq_nil_iff.1 hnil]; rfl) (by have := HNN.out; omega)
      subst hb
      injection he with e1 e2 e3
      subst e1 e3
      clear e2
      have HC0 : Hid (∀ W, Below w.heap.size w W → W.cell? ⟨b, o + k, none⟩ = some (.string X)) := Lib.hid (fun W hW => cell_stays (by rw [← HXV.out]; exact hat k _ (map_at hxk)) hW)
      have hki : (k : Int) < (n : Int) := by omega
      have hk6 : (k : Int) < 20000 := by have := HNB.out; omega
      have HTK : Hid (∀ y, y ∈ l.take (k + 1) ↔ y ∈ l.take k ∨ y = x) := Lib.hid (fun y => by rw [take_succ_of hxk, List.mem_append, List.mem_singleton])
      obtain ⟨va2, vc2, hr⟩ := own_len HO.out
      subst hr
      obtain ⟨m, hm⟩ : ∃ m, m = R.length := ⟨_, rfl⟩
      have HMR := Lib.hid hm
      rw [← hm]
      have hm6 : (m : Int) < 20000 := by have := HL.out; omega
      clear hX hat hxk hm
      go_wp2_with fail
      go_loopw [5] (fun j2 wr2 => ∃ j : Nat, j ≤ m ∧ j2 = .int .i64 j ∧ Hid (∀ y ∈ R.drop j, bytesBefore x y = true) ∧ Hid (∃ d, wr2 = w1.drewN d)) (fun j2 _ => (intOf j2).toNat)
      case atStart => exact ⟨m, Nat.le_refl _, rfl, Lib.hid (fun y hy => by rw [HMR.out, List.drop_length] at hy; simp at hy), Lib.hid ⟨0, rfl⟩⟩
      case round =>
        obtain ⟨j, hj, rfl, HD, HDR⟩ := hrel
        obtain ⟨w2, hw2⟩ : ∃ w2 : World, w2 = wr := ⟨_, rfl⟩
        subst hw2
        have HB2 : Hid (Below w.heap.size w w2) := Lib.hid (below_draws HB.out HDR.out)
        have HO2 : Hid (w2.ownsRow w.heap.size 9 1 (.slice va2 m vc2) R.length (R.map strL)) := Lib.hid (by
          have h := own_below HO.out (below_draws (Below.refl _ _) HDR.out)
          rw [← HMR.out] at h ⊢
          exact h)
        have hc0 := HC0.out w2 HB2.out
        by_cases hj0 : j = 0
        · have hn0 : (0 < j) = False := eq_false (by omega)
          have HBF : Hid (∀ y ∈ R.take j, bytesBefore y x = true) := Lib.hid (fun y hy => by rw [hj0] at hy; simp at hy)
          clear hc0 hj0
          go_wp2_with fail
          go_quiet (fail)
          obtain ⟨w3, hw3⟩ : ∃ w3, w3 = w2.drewN nq := ⟨_, rfl⟩
          rw [← hw3]
          have HDR3 : Hid (∃ d, w3 = w1.drewN d) := Lib.hid (drewN_two HDR.out ⟨_, hw3⟩)
          have HB3 : Hid (Below w.heap.size w w3) := Lib.hid (below_draws HB.out HDR3.out)
          have HO3 : Hid (w3.ownsRow w.heap.size 9 1 (.slice va2 m vc2) R.length (R.map strL)) := Lib.hid (by
            have h := own_below HO.out (below_draws (Below.refl _ _) HDR3.out)
            rw [← HMR.out] at h ⊢
            exact h)
          clear hw3
          go_wp2_with fail
          go_quiet (fail)
          obtain ⟨w4, hw4⟩ : ∃ w4, w4 = w3.drewN nq := ⟨_, rfl⟩
          rw [← hw4]
          have HDR4 : Hid (∃ d, w4 = w1.drewN d) := Lib.hid (drewN_two HDR3.out ⟨_, hw4⟩)
          have HB4 : Hid (Below w.heap.size w w4) := Lib.hid (below_draws HB.out HDR4.out)
          have hown4 : w4.ownsRow w.heap.size 9 1 (.slice va2 m vc2) m (R.map strL) := by
            have h := own_below HO.out (below_draws (Below.refl _ _) HDR4.out)
            rw [← HMR.out] at h
            exact h
          clear hw4
          clear hn0
          have hsz := HB4.out.size
          go_wp2_with (at_builtin; refine wpList_append1 rfl _ _ 23 rfl w.heap.size 9 rfl i0 (.string ByteArray.empty) 16 Try.underlying23 hi hz0 hz1 hz2 rfl _ _ _ rfl hown4 rfl rfl (by omega) (by omega) hsz ?_; intro v5 w5 hown5 hb5; obtain ⟨g5, c5, rfl⟩ := own_some hown5 (Nat.succ_pos _))
          obtain ⟨M, hM⟩ : ∃ M, M = m + 1 := ⟨_, rfl⟩
          rw [← hM] at hown5
          rw [← hM]
          have hM1 : (M : Int) - 1 = (m : Int) := by omega
          have HB5 := Lib.hid (HB4.out.trans hb5)
          have HO5 : Hid (w5.ownsRow w.heap.size 9 1 (.slice (some ⟨g5, 0, none⟩) M c5) M ((holeL R m []).map strL)) := Lib.hid (by
            rw [HMR.out, hole_end, List.map_append]
            exact hown5)
          have HMM := Lib.hid hM
          have hM6 : (M : Int) ≤ 20000 := by omega
          have HKK : Hid (k < n ∧ (k : Int) < 20000 ∧ j ≤ m ∧ (m : Int) < 20000) := Lib.hid ⟨hlt, hk6, hj, hm6⟩
          have HW : Hid (wrap64 ((k : Int) + 1) = ((k + 1 : Nat) : Int)) := Lib.hid (wrap_next hk6)
          clear hown5 hb5 hown4 hM hsz HO3 HB3 HDR3 HO2 HB2
          go_wp2_with fail
          clear hM1 hM6 hm6 hk6 hki hlt hk hj
          go_loopw [6] (fun q2 wr2 => ∃ (q : Nat) (y : List UInt8), q ≤ m ∧ j ≤ q ∧ q2 = .int .i64 q ∧ Hid (wr2.ownsRow w.heap.size 9 1 (.slice (some ⟨g5, 0, none⟩) M c5) M ((holeL R q y).map strL)) ∧ Hid (Below w.heap.size w wr2)) (fun q2 _ => (intOf q2).toNat)
          case atStart => exact ⟨m, [], Nat.le_refl _, HKK.out.2.2.1, by go_num, HO5, HB5⟩
          case round =>
            obtain ⟨q, y, hqm, hjq, rfl, HO6, HB6⟩ := hrel
            obtain ⟨w6, hw6⟩ : ∃ w6 : World, w6 = wr := ⟨_, rfl⟩
            subst hw6
            have hg5 := own_base HO6.out
            by_cases hjlt : j < q
            · obtain ⟨p, rfl⟩ : ∃ p, q = p + 1 := ⟨q - 1, by omega⟩
              obtain ⟨z, hz⟩ : ∃ z, R[p]? = some z := ⟨_, List.getElem?_eq_getElem (by have := HMR.out; omega)⟩
              obtain ⟨Z, hZ⟩ : ∃ Z : ByteArray, Z = ⟨z.toArray⟩ := ⟨_, rfl⟩
              have hcp : w6.cell? ⟨g5, p, none⟩ = some (.string Z) := by
                rw [HO6.out.cellAt p (by have := HMM.out; omega), map_at (hole_at hz), hZ]
                rfl
              obtain ⟨qn, hqn⟩ : ∃ qn, qn = p + 1 := ⟨_, rfl⟩
              rw [← hqn] at hjlt hqm hjq HO6 ⊢
              have hfz := own_free HO6.out qn
              obtain ⟨Y6, hY6⟩ : ∃ Y6 : ByteArray, Y6 = ⟨y.toArray⟩ := ⟨_, rfl⟩
              have hcq : w6.cell? ⟨g5, qn, none⟩ = some (.string Y6) := by
                rw [HO6.out.cellAt qn (by have := HMM.out; omega), map_at (hole_mid (by have := HMR.out; omega)), hY6]
                rfl
              clear hY6
              obtain ⟨pz, hpz⟩ : ∃ pz : Int, pz = (p : Int) := ⟨_, rfl⟩
              have hqp : (qn : Int) - 1 = pz := by omega
              have hp0 : 0 ≤ pz := by omega
              have hpM : pz < (M : Int) := by have := HMM.out; omega
              have hpt : pz.toNat = p := by omega
              rw [← hpt] at hcp
              have HPZ := Lib.hid hpz
              have hp6 : pz < 20002 := by have := HKK.out; omega
              have hji : (j : Int) < (qn : Int) := by omega
              have hqM : (qn : Int) < (M : Int) := by have := HMM.out; omega
              have HO7 : Hid ((w6.setCell ⟨g5, qn, none⟩ (.string Z)).ownsRow w.heap.size 9 1 (.slice (some ⟨g5, 0, none⟩) M c5) M ((holeL R p z).map strL)) := Lib.hid (by
                have h := own_put HO6.out qn (.string Z)
                rw [show (Value.string Z) = strL z by rw [hZ]; rfl, ← List.map_set, hqn, hole_move hz] at h
                rw [show (Value.string Z) = strL z by rw [hZ]; rfl, hqn]
                exact h)
              have HB7 : Hid (Below w.heap.size w (w6.setCell ⟨g5, qn, none⟩ (.string Z))) := Lib.hid (HB6.out.setCell hg5 _)
              have HQN := Lib.hid hqn
              have HQM : Hid (qn ≤ m ∧ j ≤ qn ∧ j < qn) := Lib.hid ⟨hqm, hjq, hjlt⟩
              clear hz hZ hqn hqm hjq hjlt hg5 hpz hpt
              go_wp2_with fail
              go_roundw
              case rel => exact ⟨p, z, by have := HQN.out; have := HQM.out; omega, by have := HQN.out; have := HQM.out; omega, by rw [← HPZ.out], HO7, HB7⟩
              case measure => have := HQN.out; have := HPZ.out; simp [intOf]; omega
            · have hqj : q = j := by omega
              subst hqj
              have hc6 := HC0.out w6 HB6.out
              have hfz := own_free HO6.out q
              obtain ⟨Y6, hY6⟩ : ∃ Y6 : ByteArray, Y6 = ⟨y.toArray⟩ := ⟨_, rfl⟩
              have hcq : w6.cell? ⟨g5, q, none⟩ = some (.string Y6) := by
                rw [HO6.out.cellAt q (by have := HMM.out; omega), map_at (hole_mid (by have := HMR.out; omega)), hY6]
                rfl
              clear hY6
              have hqM : (q : Int) < (M : Int) := by have := HMM.out; omega
              have HO7 : Hid ((w6.setCell ⟨g5, q, none⟩ (.string X)).ownsRow w.heap.size 9 1 (.slice (some ⟨g5, 0, none⟩) M c5) M ((insL R q x).map strL)) := Lib.hid (by
                have h := own_put HO6.out q (.string X)
                rw [← HXV.out, ← List.map_set, hole_put R q y x (by have := HMR.out; omega)] at h
                rw [← HXV.out]
                exact h)
              have HB7 : Hid (Below w.heap.size w (w6.setCell ⟨g5, q, none⟩ (.string X))) := Lib.hid (HB6.out.setCell hg5 _)
              have HIL : Hid ((insL R q x).length = M) := Lib.hid (by have h1 := hole_len R q x (by have := HMR.out; omega); have h2 := HMM.out; have h3 := HMR.out; unfold insL; unfold holeL at h1; omega)
              clear hjlt hjq hg5 hqm
              have hki : (k : Int) < (n : Int) := by have := HKK.out; omega
              have hk6 : (k : Int) < 20000 := HKK.out.2.1
              go_wp2_with fail
              go_roundw
              case rel =>
                refine ⟨k + 1, insL R q x, _, by have := HKK.out; omega, by go_num, rfl, Lib.hid ?_, HB7, Lib.hid (ins_asc HA.out HBF.out HD.out), Lib.hid (fun y => by rw [ins_mem, HM.out, HTK.out]), Lib.hid (by have h1 := HIL.out; have h2 := HMM.out; have h3 := HMR.out; have h4 := HL.out; omega)⟩
                rw [HIL.out]
                exact HO7.out
              case measure => have h1 := HKK.out.1; simp [intOf]; omega
        · obtain ⟨jj, rfl⟩ : ∃ jj, j = jj + 1 := ⟨j - 1, by omega⟩
          obtain ⟨y, hy⟩ : ∃ y, R[jj]? = some y := ⟨_, List.getElem?_eq_getElem (by have := HMR.out; omega)⟩
          obtain ⟨Y, hY⟩ : ∃ Y : ByteArray, Y = ⟨y.toArray⟩ := ⟨_, rfl⟩
          obtain ⟨ga, gc, he2⟩ := own_some HO2.out (by have := HMR.out; omega)
          injection he2 with e1 e2 e3
          subst e1 e3
          clear e2
          have HCY : Hid (∀ W : World, W.ownsRow w.heap.size 9 1 (.slice (some ⟨ga, 0, none⟩) m vc2) R.length (R.map strL) → W.cell? ⟨ga, jj, none⟩ = some (.string Y)) := Lib.hid (fun W h => by
            have h2 : W.ownsRow w.heap.size 9 1 (.slice (some ⟨ga, 0, none⟩) m vc2) m (R.map strL) := by rw [← HMR.out] at h; exact h
            rw [h2.cellAt jj (by omega), map_at hy, hY]
            rfl)
          have hcy := HCY.out w2 HO2.out
          obtain ⟨j, hjd⟩ : ∃ j, j = jj + 1 := ⟨_, rfl⟩
          rw [← hjd] at hj hj0 HD ⊢
          have hjj : (j : Int) - 1 = (jj : Int) := by omega
          have hjp : 0 < j := by omega
          have hjt : (0 < j) = True := eq_true hjp
          have hjm : (jj : Int) < (m : Int) := by omega
          have hj6 : (jj : Int) < 20000 := by omega
          have hwj : IntKind.i64.wrap (jj : Int) = (jj : Int) := by rw [IntKind.wrap_i64]; omega
          have hless : Op.bytesLess Y.toList X.toList = bytesBefore y x := by rw [less_before, HXL.out, hY]
          have hYL : Y.data.toList = y := by rw [hY]
          cases hq : bytesBefore x y with
          | true =>
            rw [before_asym hq] at hless
            have hyx : (Y.toList == X.toList) = false := by
              rw [txt_eq, hYL, HXL.out]
              exact decide_eq_false (fun e => by rw [e, bef_irr] at hq; cases hq)
            have HD2 : Hid (∀ z ∈ R.drop jj, bytesBefore x z = true) := Lib.hid (fun z hz => by
              obtain ⟨hl, hyy⟩ := List.getElem?_eq_some_iff.1 hy
              rw [List.drop_eq_getElem_cons hl, ← hjd] at hz
              rcases List.mem_cons.1 hz with rfl | hz
              · rw [hyy]; exact hq
              · exact HD.out z hz)
            have HJD := Lib.hid hjd
            clear hq hy hY hYL hjd
            go_wp2_with fail
            go_quiet (fail)
            go_wp2_with fail
            go_roundw
            case rel => exact ⟨jj, by have := HJD.out; omega, by go_num, HD2, Lib.hid (drewN_two HDR.out ⟨_, rfl⟩)⟩
            case measure => have := HJD.out; simp [intOf]; omega
          | false =>
            by_cases hxy : y = x
            · have hyx : (Y.toList == X.toList) = true := by
                rw [txt_eq, hYL, HXL.out, hxy]
                simp
              rw [hxy, bef_irr] at hless
              have HMEM : Hid (x ∈ R) := Lib.hid (by rw [← hxy]; exact List.mem_of_getElem? hy)
              clear hq hy hY hYL hxy
              go_wp2_with fail
              go_quiet (fail)
              obtain ⟨w3, hw3⟩ : ∃ w3, w3 = w2.drewN nq := ⟨_, rfl⟩
              rw [← hw3]
              have HDR3 : Hid (∃ d, w3 = w1.drewN d) := Lib.hid (drewN_two HDR.out ⟨_, hw3⟩)
              have HB3 : Hid (Below w.heap.size w w3) := Lib.hid (below_draws HB.out HDR3.out)
              have HO3 : Hid (w3.ownsRow w.heap.size 9 1 (.slice (some ⟨ga, 0, none⟩) m vc2) R.length (R.map strL)) := Lib.hid (by
                have h := own_below HO.out (below_draws (Below.refl _ _) HDR3.out)
                rw [← HMR.out] at h ⊢
                exact h)
              clear hw3
              have hc3 := HC0.out w3 HB3.out
              have hcy3 := HCY.out w3 HO3.out
              clear hless hcy hc0
              go_wp2_with fail
              go_quiet (fail)
              go_wp2_with fail
              go_roundw
              case rel =>
                refine ⟨k + 1, R, _, by omega, by go_num, rfl, Lib.hid ?_, Lib.hid (below_draws HB3.out ⟨_, rfl⟩), HA, Lib.hid (fun z => ?_), Lib.hid (by have := HL.out; omega)⟩
                · have h := own_below HO3.out (below_draws (Below.refl _ _) ⟨nq, rfl⟩)
                  exact h
                · rw [HTK.out, ← HM.out]
                  exact ⟨.inl, fun h => h.elim id (fun e => e ▸ HMEM.out)⟩
              case measure => simp [intOf]; omega
            · have hyx : (Y.toList == X.toList) = false := by
                rw [txt_eq, hYL, HXL.out]
                exact decide_eq_false hxy
              rw [bef_total (fun e => hxy e.symm) hq] at hless
              have HBF : Hid (∀ z ∈ R.take j, bytesBefore z x = true) := Lib.hid (by
                rw [hjd]
                exact asc_before HA.out hy (bef_total (fun e => hxy e.symm) hq))
              clear hq hy hY hYL hxy hjd
              go_wp2_with fail
              go_quiet (fail)
              obtain ⟨w3, hw3⟩ : ∃ w3, w3 = w2.drewN nq := ⟨_, rfl⟩
              rw [← hw3]
              have HDR3 : Hid (∃ d, w3 = w1.drewN d) := Lib.hid (drewN_two HDR.out ⟨_, hw3⟩)
              have HB3 : Hid (Below w.heap.size w w3) := Lib.hid (below_draws HB.out HDR3.out)
              have HO3 : Hid (w3.ownsRow w.heap.size 9 1 (.slice (some ⟨ga, 0, none⟩) m vc2) R.length (R.map strL)) := Lib.hid (by
                have h := own_below HO.out (below_draws (Below.refl _ _) HDR3.out)
                rw [← HMR.out] at h ⊢
                exact h)
              clear hw3
              have hc3 := HC0.out w3 HB3.out
              have hcy3 := HCY.out w3 HO3.out
              clear hless hcy hc0
              go_wp2_with fail
              go_quiet (fail)
              obtain ⟨w4, hw4⟩ : ∃ w4, w4 = w3.drewN nq := ⟨_, rfl⟩
              rw [← hw4]
              have HDR4 : Hid (∃ d, w4 = w1.drewN d) := Lib.hid (drewN_two HDR3.out ⟨_, hw4⟩)
              have HB4 : Hid (Below w.heap.size w w4) := Lib.hid (below_draws HB.out HDR4.out)
              have hown4 : w4.ownsRow w.heap.size 9 1 (.slice (some ⟨ga, 0, none⟩) m vc2) m (R.map strL) := by
                have h := own_below HO.out (below_draws (Below.refl _ _) HDR4.out)
                rw [← HMR.out] at h
                exact h
              clear hw4
              clear hc3 hcy3 hyx hjp hjt hjj hj6 hwj hjm hj0 HCY
              have hsz := HB4.out.size
              go_wp2_with (at_builtin; refine wpList_append1 rfl _ _ 23 rfl w.heap.size 9 rfl i0 (.string ByteArray.empty) 16 Try.underlying23 hi hz0 hz1 hz2 rfl _ _ _ rfl hown4 rfl rfl (by omega) (by omega) hsz ?_; intro v5 w5 hown5 hb5; obtain ⟨g5, c5, rfl⟩ := own_some hown5 (Nat.succ_pos _))
              obtain ⟨M, hM⟩ : ∃ M, M = m + 1 := ⟨_, rfl⟩
              rw [← hM] at hown5
              rw [← hM]
              have hM1 : (M : Int) - 1 = (m : Int) := by omega
              have HB5 := Lib.hid (HB4.out.trans hb5)
              have HO5 : Hid (w5.ownsRow w.heap.size 9 1 (.slice (some ⟨g5, 0, none⟩) M c5) M ((holeL R m []).map strL)) := Lib.hid (by
                rw [HMR.out, hole_end, List.map_append]
                exact hown5)
              have HMM := Lib.hid hM
              have hM6 : (M : Int) ≤ 20000 := by omega
              have HKK : Hid (k < n ∧ (k : Int) < 20000 ∧ j ≤ m ∧ (m : Int) < 20000) := Lib.hid ⟨hlt, hk6, hj, hm6⟩
              have HW : Hid (wrap64 ((k : Int) + 1) = ((k + 1 : Nat) : Int)) := Lib.hid (wrap_next hk6)
              clear hown5 hb5 hown4 hM hsz HO3 HB3 HDR3 HO2 HB2
              go_wp2_with fail
              clear hM1 hM6 hm6 hk6 hki hlt hk hj
              go_loopw [6] (fun q2 wr2 => ∃ (q : Nat) (y : List UInt8), q ≤ m ∧ j ≤ q ∧ q2 = .int .i64 q ∧ Hid (wr2.ownsRow w.heap.size 9 1 (.slice (some ⟨g5, 0, none⟩) M c5) M ((holeL R q y).map strL)) ∧ Hid (Below w.heap.size w wr2)) (fun q2 _ => (intOf q2).toNat)
              case atStart => exact ⟨m, [], Nat.le_refl _, HKK.out.2.2.1, by go_num, HO5, HB5⟩
              case round =>
                obtain ⟨q, y, hqm, hjq, rfl, HO6, HB6⟩ := hrel
                obtain ⟨w6, hw6⟩ : ∃ w6 : World, w6 = wr := ⟨_, rfl⟩
                subst hw6
                have hg5 := own_base HO6.out
                by_cases hjlt : j < q
                · obtain ⟨p, rfl⟩ : ∃ p, q = p + 1 := ⟨q - 1, by omega⟩
                  obtain ⟨z, hz⟩ : ∃ z, R[p]? = some z := ⟨_, List.getElem?_eq_getElem (by have := HMR.out; omega)⟩
                  obtain ⟨Z, hZ⟩ : ∃ Z : ByteArray, Z = ⟨z.toArray⟩ := ⟨_, rfl⟩
                  have hcp : w6.cell? ⟨g5, p, none⟩ = some (.string Z) := by
                    rw [HO6.out.cellAt p (by have := HMM.out; omega), map_at (hole_at hz), hZ]
                    rfl
                  obtain ⟨qn, hqn⟩ : ∃ qn, qn = p + 1 := ⟨_, rfl⟩
                  rw [← hqn] at hjlt hqm hjq HO6 ⊢
                  have hfz := own_free HO6.out qn
                  obtain ⟨Y6, hY6⟩ : ∃ Y6 : ByteArray, Y6 = ⟨y.toArray⟩ := ⟨_, rfl⟩
                  have hcq : w6.cell? ⟨g5, qn, none⟩ = some (.string Y6) := by
                    rw [HO6.out.cellAt qn (by have := HMM.out; omega), map_at (hole_mid (by have := HMR.out; omega)), hY6]
                    rfl
                  clear hY6
                  obtain ⟨pz, hpz⟩ : ∃ pz : Int, pz = (p : Int) := ⟨_, rfl⟩
                  have hqp : (qn : Int) - 1 = pz := by omega
                  have hp0 : 0 ≤ pz := by omega
                  have hpM : pz < (M : Int) := by have := HMM.out; omega
                  have hpt : pz.toNat = p := by omega
                  rw [← hpt] at hcp
                  have HPZ := Lib.hid hpz
                  have hp6 : pz < 20002 := by have := HKK.out; omega
                  have hji : (j : Int) < (qn : Int) := by omega
                  have hqM : (qn : Int) < (M : Int) := by have := HMM.out; omega
                  have HO7 : Hid ((w6.setCell ⟨g5, qn, none⟩ (.string Z)).ownsRow w.heap.size 9 1 (.slice (some ⟨g5, 0, none⟩) M c5) M ((holeL R p z).map strL)) := Lib.hid (by
                    have h := own_put HO6.out qn (.string Z)
                    rw [show (Value.string Z) = strL z by rw [hZ]; rfl, ← List.map_set, hqn, hole_move hz] at h
                    rw [show (Value.string Z) = strL z by rw [hZ]; rfl, hqn]
                    exact h)
                  have HB7 : Hid (Below w.heap.size w (w6.setCell ⟨g5, qn, none⟩ (.string Z))) := Lib.hid (HB6.out.setCell hg5 _)
                  have HQN := Lib.hid hqn
                  have HQM : Hid (qn ≤ m ∧ j ≤ qn ∧ j < qn) := Lib.hid ⟨hqm, hjq, hjlt⟩
                  clear hz hZ hqn hqm hjq hjlt hg5 hpz hpt
                  go_wp2_with fail
                  go_roundw
                  case rel => exact ⟨p, z, by have := HQN.out; have := HQM.out; omega, by have := HQN.out; have := HQM.out; omega, by rw [← HPZ.out], HO7, HB7⟩
                  case measure => have := HQN.out; have := HPZ.out; simp [intOf]; omega
                · have hqj : q = j := by omega
                  subst hqj
                  have hc6 := HC0.out w6 HB6.out
                  have hfz := own_free HO6.out q
                  obtain ⟨Y6, hY6⟩ : ∃ Y6 : ByteArray, Y6 = ⟨y.toArray⟩ := ⟨_, rfl⟩
                  have hcq : w6.cell? ⟨g5, q, none⟩ = some (.string Y6) := by
                    rw [HO6.out.cellAt q (by have := HMM.out; omega), map_at (hole_mid (by have := HMR.out; omega)), hY6]
                    rfl
                  clear hY6
                  have hqM : (q : Int) < (M : Int) := by have := HMM.out; omega
                  have HO7 : Hid ((w6.setCell ⟨g5, q, none⟩ (.string X)).ownsRow w.heap.size 9 1 (.slice (some ⟨g5, 0, none⟩) M c5) M ((insL R q x).map strL)) := Lib.hid (by
                    have h := own_put HO6.out q (.string X)
                    rw [← HXV.out, ← List.map_set, hole_put R q y x (by have := HMR.out; omega)] at h
                    rw [← HXV.out]
                    exact h)
                  have HB7 : Hid (Below w.heap.size w (w6.setCell ⟨g5, q, none⟩ (.string X))) := Lib.hid (HB6.out.setCell hg5 _)
                  have HIL : Hid ((insL R q x).length = M) := Lib.hid (by have h1 := hole_len R q x (by have := HMR.out; omega); have h2 := HMM.out; have h3 := HMR.out; unfold insL; unfold holeL at h1; omega)
                  clear hjlt hjq hg5 hqm
                  have hki : (k : Int) < (n : Int) := by have := HKK.out; omega
                  have hk6 : (k : Int) < 20000 := HKK.out.2.1
                  go_wp2_with fail
                  go_roundw
                  case rel =>
                    refine ⟨k + 1, insL R q x, _, by have := HKK.out; omega, by go_num, rfl, Lib.hid ?_, HB7, Lib.hid (ins_asc HA.out HBF.out HD.out), Lib.hid (fun y => by rw [ins_mem, HM.out, HTK.out]), Lib.hid (by have h1 := HIL.out; have h2 := HMM.out; have h3 := HMR.out; have h4 := HL.out; omega)⟩
                    rw [HIL.out]
                    exact HO7.out
                  case measure => have h1 := HKK.out.1; simp [intOf]; omega
    · have HE : Hid (l.take k = l) := Lib.hid (List.take_of_length_le (by have := HNN.out; omega))
      go_wp2_with fail
      go_ret
      refine ⟨⟨_, R, rfl, HA.out, fun x => by rw [HM.out, HE.out], SliceAt.own HO.out, ?_⟩, HB.out⟩
      have h1 := HL.out
      have h2 := HNN.out
      omega

end Go.Proofs.Ytfgpcajjnpmoeaa
