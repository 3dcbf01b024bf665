/- Contracts: what stands between commas, the reference's. -/
import Derived.Test.YtfgpcajjnpmoeaaShelf
import Derived.BigQuiet
import Derived.Maps.AppendAt
import Derived.Test.YtfgpcajjnpmoeaaProg
import Derived.Test.YtfgpcajjnpmoeaaKit
import Derived.Test.YtfgpcajjnpmoeaaInfo
import Derived.Test.YtfgpcajjnpmoeaaAsc2
import Derived.Test.YtfgpcajjnpmoeaaAsc3
import Derived.Test.YtfgpcajjnpmoeaaAsc4
import Derived.Test.YtfgpcajjnpmoeaaRow
import Derived.Test.YtfgpcajjnpmoeaaJoin
import Derived.Test.YtfgpcajjnpmoeaaNet0
import Derived.Test.YtfgpcajjnpmoeaaHst1
import Derived.Test.YtfgpcajjnpmoeaaUrl9
import Derived.Test.YtfgpcajjnpmoeaaHdr0
import Derived.Test.YtfgpcajjnpmoeaaHdr10
namespace Go.Proofs.Ytfgpcajjnpmoeaa
open Go.RowKit Go.Proofs

/-- An append of one element, with what else stays and where the row lies. -/
theorem wpList_append1_at {P : Program} {W w : World} {x : Value} {ops : Array Oper} {rest : List Oper} {o : Oper} {a : Act} {Q : Exit → Act → World → Prop} (hgd : o.guard = none) (s y : Operand) (t : TypeId)
    (ho : o.op = .call { callee := .builtin .append, args := #[s, y], argTypes := #[t, t] })
    (base : Nat) (e : TypeId) (hW : W = w.alloc (.cells #[x] e)) (i : TypeInfo) (z : Value) (bytes : Nat) (ht : P.underlying t = some (.slice e)) (hi : P.info? e = some i) (hz : i.zero = some z)
    (hsize : i.size = 1) (hby : i.bytes = bytes) (hzs : z.cells.size = 1)
    (v : Value) (n : Nat) (xs : List Value) (hs : a.eval s = v) (hown : w.ownsRow base e 1 v n xs)
    (g : Nat) (hx : a.eval y = .slice (some ⟨g, 0, none⟩) 1 1) (hg0 : g = w.heap.size) (h1 : x.oneCell' = true)
    (hn : n < 1099511627776) (hbytes : bytes ≤ 64) (hbase : base ≤ w.heap.size)
    (h : ∀ v' w', w'.ownsRow base e 1 v' (n + 1) (xs ++ [x]) → Below base w w' → (∀ k, k < w.heap.size → v.ownBlock ≠ some k → w'.heap[k]? = w.heap[k]?) → (∀ k, v'.ownBlock = some k → v.ownBlock = some k ∨ w.heap.size ≤ k) → wpList P ops Q rest (a.put o.dst v') w') : wpList P ops Q (o :: rest) a W := by
  subst hW hg0
  refine wpList_append_own_at _ hgd s y t ho base e i z 1 bytes ht hi hz hsize hby hzs (by decide) v n xs hs (hown.alloc _) ⟨w.heap.size, 0, none⟩ 1 1 [x] hx rfl (cell_one_new _ _ _) ?_ ?_ ?_ ?_ ?_
  · intro u hu
    simp at hu
    rw [hu]; exact h1
  · unfold maxLen; omega
  · have : (n + 1) * bytes ≤ 1099511627776 * 64 := Nat.mul_le_mul (by omega) hbytes
    omega
  · simp; omega
  · intro v' w' hown' hg _ hb
    refine h v' w' hown' (((Below.refl base w).alloc hbase _).trans (below_own (hown.alloc _) hg (by simp; omega))) (fun k hk hne => ?_) (fun k hk => ?_)
    · have hs1 : (w.alloc (.cells #[x] e)).heap.size = w.heap.size + 1 := Array.size_push ..
      rw [hg.block k (by rw [hs1]; omega) (fun e => hne e.symm)]
      exact heap_alloc_old w _ hk
    · rcases hb with hb | hb
      · exact .inl (hb ▸ hk)
      · right
        rw [hk] at hb
        have hs1 : (w.alloc (.cells #[x] e)).heap.size = w.heap.size + 1 := Array.size_push ..
        injection hb with hb
        omega

theorem slice_same {w w' : World} {g : Nat} {m c : Nat} {xs : List Value} (h : SliceAt w (.slice (some ⟨g, 0, none⟩) m c) xs) (hg : w'.heap[g]? = w.heap[g]?) : SliceAt w' (.slice (some ⟨g, 0, none⟩) m c) xs := by
  obtain ⟨a, c1, he, hc⟩ := h
  injection he with e1 e2 e3
  subst e1 e2 e3
  refine ⟨_, _, rfl, ?_⟩
  rcases hc with hc | ⟨b, o, hb, hat⟩
  · exact .inl hc
  · refine .inr ⟨b, o, hb, fun j x hj => ?_⟩
    have h1 := hat j x hj
    injection hb with hb
    injection hb with hb1 hb2
    subst hb1
    unfold World.cell? at *
    rw [hg]
    exact h1

theorem list_snoc {vs : List (List UInt8)} {k : Nat} {x : List UInt8} (h : vs[k]? = some x) : listL (vs.take (k + 1)) = listL (vs.take k) ++ tidyL (splitL x 44) := by
  unfold listL
  rw [cuts_snoc h, tidyL_app]

theorem tidy_le (ps : List (List UInt8)) : (tidyL ps).length ≤ ps.length := by
  have := tidy_len ps ps.length
  rw [List.take_length] at this
  exact this

theorem list_le (vs : List (List UInt8)) (k : Nat) : (listL (vs.take k)).length ≤ llTot vs := by
  unfold listL
  have h1 := tidy_le (cutsL (vs.take k))
  have h2 := cuts_len (vs.take k)
  have h3 := llTot_take vs k
  omega

theorem rlist_any (vs : List (List UInt8)) (v : Value) (w : World) (hv : SliceAt w v (vs.map strL)) (hT : llTot vs ≤ 100000) :
    Calls Try.prog 17 #[v] w fun e w' => (∃ u, e = .returned u ∧ w'.ownsRow w.heap.size 9 1 u (listL vs).length ((listL vs).map strL)) ∧ Below w.heap.size w w' := by
  obtain ⟨i0, hi, hz0, hz1, hz2⟩ := info_parts Try.infoStr
  obtain ⟨va, vc, hv2⟩ := hv.len
  rw [List.length_map] at hv2
  subst hv2
  have HV := Lib.hid hv
  obtain ⟨n, hn⟩ : ∃ n, n = vs.length := ⟨_, rfl⟩
  have HNN := Lib.hid hn
  have HTT := Lib.hid hT
  have HNB : Hid (n ≤ 100000) := Lib.hid (by have := llTot_len vs; omega)
  rw [← hn]
  clear hv hn hT
  go_enter Try.func17, Try.ntmps17
  go_wp2_with fail
  go_loopw [3, 4] (fun r i wr => ∃ (k : Nat) (rv : Value), k ≤ n ∧ i = .int .i64 k ∧ rv = r ∧ Hid (wr.ownsRow w.heap.size 9 1 rv (listL (vs.take k)).length ((listL (vs.take k)).map strL)) ∧ Hid (Below w.heap.size w wr)) (fun _ i _ => n - (intOf i).toNat)
  case atStart => exact ⟨0, _, Nat.zero_le _, rfl, rfl, Lib.hid (World.ownsRow_nil _ _ _ _), Lib.hid (Below.refl _ _)⟩
  case round =>
    obtain ⟨k, r, hk, rfl, rfl, HO, HB⟩ := hrel
    obtain ⟨w1, hw1⟩ : ∃ w1 : World, w1 = wr := ⟨_, rfl⟩
    subst hw1
    by_cases hlt : k < n
    · obtain ⟨x, hxk⟩ : ∃ x, vs[k]? = some x := ⟨_, List.getElem?_eq_getElem (by rw [← HNN.out]; exact hlt)⟩
      obtain ⟨X, hX⟩ : ∃ X : ByteArray, X = ⟨x.toArray⟩ := ⟨_, rfl⟩
      obtain ⟨a, c, he, hcs⟩ := HV.out
      rcases hcs with hnil | ⟨b, o, hb, hat⟩
      · exact absurd (show vs.length = 0 by rw [List.map_eq_nil_iff.1 hnil]; rfl) (by have := HNN.out; omega)
      subst hb
      injection he with e1 e2 e3
      subst e1 e3
      clear e2
      have c0 : w1.cell? ⟨b, o + k, none⟩ = some (.string X) := cell_stays (hat k (.string X) (by rw [List.getElem?_map, hxk, hX]; rfl)) HB.out
      have hki : (k : Int) < (n : Int) := by omega
      have hk6 : (k : Int) < 100000 := by have := HNB.out; omega
      have hxs : X.size ≤ 100000 := by rw [hX, mk_size]; have := llTot_mem (List.mem_of_getElem? hxk); have := HTT.out; omega
      obtain ⟨ps, hps⟩ : ∃ ps, ps = splitL x 44 := ⟨_, rfl⟩
      have HSP : Hid (∀ W, Calls Try.prog 33 #[.string X, .int .u8 44] W fun e w' => (∃ v, e = .returned v ∧ w'.ownsRow W.heap.size 9 1 v ps.length (ps.map strL)) ∧ Below W.heap.size W w') := Lib.hid (fun W => by have := ref_split_any X 44 (by omega) W; rw [hX] at this; rw [hX, hps]; exact this)
      have HX : Hid (listL (vs.take (k + 1)) = listL (vs.take k) ++ tidyL ps) := Lib.hid (by rw [hps]; exact list_snoc hxk)
      have HLN := Lib.hid (list_le vs k)
      have hxl : x.length ≤ 100000 := by rw [hX, mk_size] at hxs; exact hxs
      have HPB : Hid (ps.length ≤ 100001) := Lib.hid (by rw [hps]; have h1 := splitL_len x 44; omega)
      have HPM : Hid (∀ p ∈ ps, p.length ≤ 100000) := Lib.hid (fun p hp => by rw [hps] at hp; have := split_mem_len hp; omega)
      have HP0 : Hid (0 < ps.length) := Lib.hid (by rw [hps]; exact splitL_pos x 44)
      clear hat hX hxk hxs hxl hps
      go_wp2_with fail
      refine (HSP.out _).mono ?_
      rintro e w2 ⟨⟨u, rfl, hown⟩, hb2⟩
      have HB2 := Lib.hid (below_then HB.out hb2)
      have HO2 := Lib.hid (own_below HO.out hb2)
      rcases hown.2 with ⟨_, h0⟩ | ⟨gP, cP, cur, rfl, hgP, _⟩
      · exact absurd h0 (by have := HP0.out; omega)
      have HSL := Lib.hid (SliceAt.own hown)
      have HGP : Hid (gP < w2.heap.size) := Lib.hid (own_lt hown rfl)
      have HNE : Hid (r.ownBlock ≠ some gP) := Lib.hid (fun e => by have := own_lt HO.out e; omega)
      obtain ⟨m, hm⟩ : ∃ m, m = ps.length := ⟨_, rfl⟩
      have HMM := Lib.hid hm
      rw [← hm]
      rw [← hm] at HSL
      clear hb2 c0 hown hgP hm
      go_wp2_with fail
      go_loopw [3, 6] (fun r2 i2 wr2 => ∃ (j : Nat) (rv : Value), j ≤ m ∧ i2 = .int .i64 j ∧ rv = r2 ∧ Hid (wr2.ownsRow w.heap.size 9 1 rv ((listL (vs.take k)).length + (tidyL (ps.take j)).length) ((listL (vs.take k) ++ tidyL (ps.take j)).map strL)) ∧ Hid (Below w.heap.size w wr2) ∧ Hid (SliceAt wr2 (.slice (some ⟨gP, 0, none⟩) m cP) (ps.map strL)) ∧ Hid (gP < wr2.heap.size) ∧ Hid (rv.ownBlock ≠ some gP)) (fun _ i2 _ => m - (intOf i2).toNat)
      case atStart => exact ⟨0, _, Nat.zero_le _, rfl, rfl, Lib.hid (by simp [tidyL]; exact HO2.out), HB2, HSL, HGP, HNE⟩
      case round =>
        obtain ⟨j, r2, hj, rfl, rfl, HO3, HB3, HSL3, HGP3, HNE3⟩ := hrel
        obtain ⟨w3, hw3⟩ : ∃ w3 : World, w3 = wr := ⟨_, rfl⟩
        subst hw3
        by_cases hjl : j < m
        · obtain ⟨p, hpk⟩ : ∃ p, ps[j]? = some p := ⟨_, List.getElem?_eq_getElem (by rw [← HMM.out]; exact hjl)⟩
          obtain ⟨Y, hY⟩ : ∃ Y : ByteArray, Y = ⟨p.toArray⟩ := ⟨_, rfl⟩
          obtain ⟨T, hT⟩ : ∃ T : ByteArray, T = ⟨(trimL p).toArray⟩ := ⟨_, rfl⟩
          obtain ⟨a, c, he, hcs⟩ := HSL3.out
          rcases hcs with hnil | ⟨b2, o2, hb, hat⟩
          · exact absurd (show ps.length = 0 by rw [List.map_eq_nil_iff.1 hnil]; rfl) (by have := HP0.out; omega)
          subst hb
          injection he with e1 e2 e3
          injection e1 with e1
          injection e1 with e1 e4
          subst e1 e3 e4
          clear e2
          have c0 : w3.cell? ⟨gP, 0 + j, none⟩ = some (.string Y) := hat j (.string Y) (by rw [List.getElem?_map, hpk, hY]; rfl)
          rw [Nat.zero_add] at c0
          have hji : (j : Int) < (m : Int) := by omega
          have hj6 : (j : Int) < 100001 := by have := HMM.out; have := HPB.out; omega
          have hys : Y.size ≤ 100000 := by rw [hY, mk_size]; exact HPM.out p (List.mem_of_getElem? hpk)
          have HTR : Hid (∀ W, Calls Try.prog 34 #[.string Y] W fun e w' => e = .returned (.string T) ∧ w' = W) := Lib.hid (fun W => by have := ref_trim_any Y (by omega) W; rw [hY] at this; rw [hY, hT]; exact this)
          have HX2 := Lib.hid (tidy_snoc hpk)
          have hcnt : (listL (vs.take k)).length + (tidyL (ps.take j)).length ≤ 200002 := by have h1 := tidy_len ps j; have := HLN.out; have := HTT.out; omega
          have HTV : Hid (strL (trimL p) = .string T) := Lib.hid (by rw [hT]; rfl)
          have hTe : T.size = (trimL p).length := by rw [hT, mk_size]
          clear hat hY hpk hT
          by_cases hz : T.size = 0
          · have y := emptyYes hz
            have HE : Hid (tidyL (ps.take (j + 1)) = tidyL (ps.take j)) := Lib.hid (by rw [HX2.out, if_pos (by rw [List.isEmpty_iff]; exact List.eq_nil_of_length_eq_zero (by omega)), List.append_nil])
            clear hTe hz
            go_wp2_with fail
            refine (HTR.out _).mono ?_
            rintro e w4 ⟨rfl, rfl⟩
            clear c0
            go_wp2_with fail
            go_roundw
            case rel => exact ⟨j + 1, _, by omega, by go_num, rfl, Lib.hid (by rw [HE.out]; exact HO3.out), HB3, HSL3, HGP3, HNE3⟩
            case measure => simp [intOf]; omega
          · have y := emptyNo hz
            have HE : Hid (tidyL (ps.take (j + 1)) = tidyL (ps.take j) ++ [trimL p]) := Lib.hid (by rw [HX2.out, if_neg (by rw [List.isEmpty_iff]; intro h; rw [h] at hTe; exact hz hTe)])
            have hown3 := HO3.out
            have hsz := HB3.out.size
            clear hTe hz
            go_wp2_with fail
            refine (HTR.out _).mono ?_
            rintro e w4 ⟨rfl, rfl⟩
            clear c0
            go_wp2_with (at_builtin; refine wpList_append1_at rfl _ _ 23 rfl w.heap.size 9 rfl i0 (.string ByteArray.empty) 16 Try.underlying23 hi hz0 hz1 hz2 rfl _ _ _ rfl hown3 _ rfl rfl rfl (by omega) (by omega) hsz ?_; intro v' w' hown' hb' hk' hbl')
            go_roundw
            case rel =>
              refine ⟨j + 1, _, by omega, by go_num, rfl, Lib.hid ?_, Lib.hid (HB3.out.trans hb'), Lib.hid (slice_same HSL3.out (hk' gP HGP3.out HNE3.out)), Lib.hid (Nat.lt_of_lt_of_le HGP3.out hb'.size), Lib.hid (fun e => (hbl' gP e).elim (fun h => HNE3.out h) (fun h => by have := HGP3.out; omega))⟩
              rw [HE.out, List.length_append, ← List.append_assoc, List.map_append]
              show w'.ownsRow _ _ _ _ _ (_ ++ [strL (trimL p)])
              rw [HTV.out]
              exact hown'
            case measure => simp [intOf]; omega
        · have HE : Hid (ps.take j = ps) := Lib.hid (List.take_of_length_le (by have := HMM.out; omega))
          go_wp2_with fail
          go_roundw
          case rel =>
            refine ⟨k + 1, _, by omega, by go_num, rfl, Lib.hid ?_, HB3⟩
            have h := HO3.out
            rw [HE.out] at h
            rw [HX.out, List.length_append]
            exact h
          case measure => simp [intOf]; omega
    · have HE : Hid (vs.take k = vs) := Lib.hid (List.take_of_length_le (by have := HNN.out; omega))
      go_wp2_with fail
      go_ret
      refine ⟨⟨_, rfl, ?_⟩, HB.out⟩
      have h := HO.out
      rw [HE.out] at h
      exact h

end Go.Proofs.Ytfgpcajjnpmoeaa
