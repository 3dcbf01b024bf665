/- Contracts: what stands between commas, the code's. -/
import Derived.Test.YtfgpcajjnpmoeaaShelf
import Derived.BigQuiet
import Derived.Maps.AppendAt
import Derived.Test.YtfgpcajjnpmoeaaProg
import Derived.Test.YtfgpcajjnpmoeaaKit
import Derived.Test.YtfgpcajjnpmoeaaInfo
import Derived.Test.YtfgpcajjnpmoeaaAsc2
import Derived.Test.YtfgpcajjnpmoeaaAsc4
import Derived.Test.YtfgpcajjnpmoeaaRow
import Derived.Test.YtfgpcajjnpmoeaaJoin
import Derived.Test.YtfgpcajjnpmoeaaHst1
import Derived.Test.YtfgpcajjnpmoeaaUrl9
import Derived.Test.YtfgpcajjnpmoeaaHdr0
namespace Go.Proofs.Ytfgpcajjnpmoeaa
open Go.RowKit Go.Proofs

/-- nil, or with an address. -/
def SlV (v : Value) : Prop := v = .slice none 0 0 ∨ ∃ ad m c, v = .slice (some ad) m c

theorem own_slv {w : World} {base : Nat} {e : TypeId} {s : Nat} {v : Value} {n : Nat} {xs : List Value} (h : w.ownsRow base e s v n xs) : SlV v := by
  rcases h.2 with ⟨hv, _⟩ | ⟨g, cap, cur, hv, _⟩
  · exact .inl hv
  · exact .inr ⟨_, _, _, hv⟩

/-- An append of a row of texts (one cell each), wherever it lies. -/
theorem wpList_append_strs {P : Program} {w : World} {ops : Array Oper} {rest : List Oper} {o : Oper} {a : Act} {Q : Exit → Act → World → Prop} (hgd : o.guard = none) (s x : Operand) (t : TypeId)
    (ho : o.op = .call { callee := .builtin .append, args := #[s, x], argTypes := #[t, t] })
    (base : Nat) (e : TypeId) (i : TypeInfo) (z : Value) (ht : P.underlying t = some (.slice e)) (hi : P.info? e = some i) (hz : i.zero = some z)
    (hsize : i.size = 1) (hby : i.bytes = 16) (hzs : z.cells.size = 1)
    (v : Value) (n : Nat) (xs : List Value) (hs : a.eval s = v) (hown : w.ownsRow base e 1 v n xs)
    (u : Value) (l : List Value) (hx : a.eval x = u) (hl : SliceAt w u l) (hu : SlV u) (h1 : ∀ y ∈ l, y.oneCell' = true) (m : Nat) (hm : m = l.length) (hn : n + m < 1099511627776) (hbase : base ≤ w.heap.size)
    (h : ∀ v' w', w'.ownsRow base e 1 v' (n + m) (xs ++ l) → Below base w w' → wpList P ops Q rest (a.put o.dst v') w') : wpList P ops Q (o :: rest) a w := by
  subst hm
  rcases hu with rfl | ⟨ad, m, c, rfl⟩
  · obtain ⟨a1, c1, he, _⟩ := hl
    injection he with _ e2 _
    have hnil : l = [] := List.eq_nil_of_length_eq_zero e2.symm
    subst hnil
    refine wpList_append_own_none hgd s x t ho base e i 1 ht hi v n xs hs hown hx ?_
    refine h v w ?_ (Below.refl _ _)
    rw [List.append_nil]
    exact hown
  · obtain ⟨a1, c1, he, hc⟩ := hl
    injection he with e1 e2 e3
    subst e1 e2 e3
    refine wpList_append_own _ hgd s x t ho base e i z 1 16 ht hi hz hsize hby hzs (by decide) v n xs hs hown ad l.length c l hx (by simp) ?_ h1 (by unfold maxLen; omega) (by omega) hbase ?_
    · intro j y hj
      rcases hc with rfl | ⟨b, off, hb, hat⟩
      · simp at hj
      · cases hb
        rw [Addr.add_mid]
        exact hat j y hj
    · intro v' w' hown' hg _
      exact h v' w' hown' (below_own hown hg hbase)

theorem strs_one {l : List (List UInt8)} : ∀ y ∈ l.map strL, y.oneCell' = true := by
  intro y hy
  obtain ⟨x, _, rfl⟩ := List.mem_map.1 hy
  rfl

/-! how long -/
def llTot : List (List UInt8) → Nat
  | [] => 0
  | x :: r => 1 + x.length + llTot r

theorem llTot_app : ∀ a b : List (List UInt8), llTot (a ++ b) = llTot a + llTot b
  | [], b => by simp [llTot]
  | x :: r, b => by simp only [List.cons_append, llTot, llTot_app r b]; omega

theorem llTot_len : ∀ l : List (List UInt8), l.length ≤ llTot l
  | [] => Nat.zero_le _
  | x :: r => by have := llTot_len r; simp only [llTot, List.length_cons]; omega

theorem llTot_mem : ∀ {l : List (List UInt8)} {x : List UInt8}, x ∈ l → x.length ≤ llTot l
  | y :: r, x, h => by
    simp only [llTot]
    rcases List.mem_cons.1 h with rfl | h
    · omega
    · have := llTot_mem h; omega

theorem llTot_take : ∀ (l : List (List UInt8)) (k : Nat), llTot (l.take k) ≤ llTot l
  | [], k => by simp
  | x :: r, 0 => by simp [llTot]
  | x :: r, k + 1 => by have := llTot_take r k; simp only [List.take_succ_cons, llTot]; omega

theorem cuts_snoc {vs : List (List UInt8)} {k : Nat} {x : List UInt8} (h : vs[k]? = some x) : cutsL (vs.take (k + 1)) = cutsL (vs.take k) ++ splitL x 44 := by
  rw [take_succ_of h, cutsL_app]
  simp [cutsL]

theorem cuts_len : ∀ vs : List (List UInt8), (cutsL vs).length ≤ llTot vs
  | [] => Nat.zero_le _
  | x :: r => by
    have h1 := cuts_len r
    have h2 := splitL_len x 44
    unfold cutsL at *
    simp only [List.flatMap_cons, List.length_append, llTot]
    omega

theorem cuts_mem {vs : List (List UInt8)} {p : List UInt8} (h : p ∈ cutsL vs) : p.length ≤ llTot vs := by
  unfold cutsL at h
  obtain ⟨x, hx, hp⟩ := List.mem_flatMap.1 h
  have h1 := split_mem_len hp
  have h2 := llTot_mem hx
  omega

theorem parts_any (vs : List (List UInt8)) (v : Value) (w : World) (hv : SliceAt w v (vs.map strL)) (hT : llTot vs ≤ 100000) :
    Calls Try.prog 31 #[v] w fun e w' => (∃ u, e = .returned u ∧ w'.ownsRow w.heap.size 9 1 u (cutsL vs).length ((cutsL vs).map strL)) ∧ Below w.heap.size w w' := by
  obtain ⟨i0, hi, hz0, hz1, hz2⟩ := info_parts Try.infoStr
  obtain ⟨va, vc, hv2⟩ := hv.len
  rw [List.length_map] at hv2
  subst hv2
  have HV := Lib.hid hv
  obtain ⟨n, hn⟩ : ∃ n, n = vs.length := ⟨_, rfl⟩
  have HNN := Lib.hid hn
  have HTT := Lib.hid hT
  have HNB : Hid (n ≤ 100000) := Lib.hid (by have := llTot_len vs; omega)
  rw [← hn]
  clear hv hn hT
  go_enter Try.func31, Try.ntmps31
  go_wp2_with fail
  go_loopw [3, 8] (fun r i wr => ∃ k : Nat, k ≤ n ∧ i = .int .i64 k ∧ Hid (wr.ownsRow w.heap.size 9 1 r (cutsL (vs.take k)).length ((cutsL (vs.take k)).map strL)) ∧ Hid (Below w.heap.size w wr)) (fun _ i _ => n - (intOf i).toNat)
  case atStart => exact ⟨0, Nat.zero_le _, rfl, Lib.hid (World.ownsRow_nil _ _ _ _), Lib.hid (Below.refl _ _)⟩
  case round =>
    obtain ⟨k, hk, rfl, HO, HB⟩ := hrel
    obtain ⟨w1, hw1⟩ : ∃ w1 : World, w1 = wr := ⟨_, rfl⟩
    subst hw1
    by_cases hlt : k < n
    · obtain ⟨x, hxk⟩ : ∃ x, vs[k]? = some x := ⟨_, List.getElem?_eq_getElem (by rw [← HNN.out]; exact hlt)⟩
      obtain ⟨X, hX⟩ : ∃ X : ByteArray, X = ⟨x.toArray⟩ := ⟨_, rfl⟩
      obtain ⟨a, c, he, hcs⟩ := HV.out
      rcases hcs with hnil | ⟨b, o, hb, hat⟩
      · exact absurd (show vs.length = 0 by rw [List.map_eq_nil_iff.1 hnil]; rfl) (by have := HNN.out; omega)
      subst hb
      injection he with e1 e2 e3
      subst e1 e3
      clear e2
      have c0 : w1.cell? ⟨b, o + k, none⟩ = some (.string X) := cell_stays (hat k (.string X) (by rw [List.getElem?_map, hxk, hX]; rfl)) HB.out
      have hki : (k : Int) < (n : Int) := by omega
      have hk6 : (k : Int) < 100000 := by have := HNB.out; omega
      have hxs : X.size ≤ 100000 := by rw [hX, mk_size]; have := llTot_mem (List.mem_of_getElem? hxk); have := HTT.out; omega
      have HSP : Hid (∀ W, Calls Try.prog 56 #[.string X, .int .u8 44] W fun e w' => (∃ v, e = .returned v ∧ w'.ownsRow W.heap.size 9 1 v (splitL x 44).length ((splitL x 44).map strL)) ∧ Below W.heap.size W w') := Lib.hid (fun W => by have := split_any X 44 (by omega) W; rw [hX] at this; rw [hX]; exact this)
      have HX := Lib.hid (cuts_snoc hxk)
      have hcnt : (cutsL (vs.take k)).length ≤ 100000 := by have h1 := cuts_len (vs.take k); have h2 := llTot_take vs k; have := HTT.out; omega
      have hcnt2 : (splitL x 44).length ≤ 100001 := by have h1 := splitL_len x 44; rw [hX, mk_size] at hxs; omega
      clear hat hX hxk
      go_wp2_with fail
      refine (HSP.out _).mono ?_
      rintro e w2 ⟨⟨u, rfl, hown⟩, hb2⟩
      have hown2 := own_below HO.out hb2
      have HB2 := Lib.hid (below_then HB.out hb2)
      have hsz := HB2.out.size
      have hsl := SliceAt.own hown
      have hslv := own_slv hown
      clear hb2 c0 hown
      go_wp2_with (at_builtin; refine wpList_append_strs rfl _ _ 23 rfl w.heap.size 9 i0 (.string ByteArray.empty) Try.underlying23 hi hz0 hz1 hz2 rfl _ _ _ rfl hown2 u _ rfl hsl hslv strs_one (splitL x 44).length (by rw [List.length_map]) (by omega) hsz ?_; intro v' w' hown' hb')
      go_roundw
      case rel =>
        refine ⟨k + 1, by omega, by go_num, Lib.hid ?_, Lib.hid (HB2.out.trans hb')⟩
        rw [HX.out, List.length_append, List.map_append]
        exact hown'
      case measure => simp [intOf]; omega
    · have HE : Hid (vs.take k = vs) := Lib.hid (List.take_of_length_le (by have := HNN.out; omega))
      go_wp2_with fail
      go_ret
      refine ⟨⟨_, rfl, ?_⟩, HB.out⟩
      have h := HO.out
      rw [HE.out] at h
      exact h

/-! trimmed, the empty ones left out -/
theorem tidy_snoc {ps : List (List UInt8)} {k : Nat} {p : List UInt8} (h : ps[k]? = some p) : tidyL (ps.take (k + 1)) = tidyL (ps.take k) ++ (if (trimL p).isEmpty = true then [] else [trimL p]) := by
  rw [take_succ_of h, tidyL_app]
  congr 1
  unfold tidyL
  by_cases hq : (trimL p).isEmpty = true
  · rw [if_pos hq]
    simp [hq]
  · rw [if_neg hq]
    simp [hq]

theorem tidy_len (ps : List (List UInt8)) (k : Nat) : (tidyL (ps.take k)).length ≤ k := by
  unfold tidyL
  have h1 := List.length_filter_le (fun x : List UInt8 => !x.isEmpty) ((ps.take k).map trimL)
  rw [List.length_map, List.length_take] at h1
  omega

theorem trim_len (l : List UInt8) : (trimL l).length ≤ l.length := by
  unfold trimL trimF
  rw [List.length_reverse]
  have a1 := (List.dropWhile_suffix isSp (l := (List.dropWhile isSp l).reverse)).length_le
  have a2 := (List.dropWhile_suffix isSp (l := l)).length_le
  rw [List.length_reverse] at a1
  omega

theorem list_any (vs : List (List UInt8)) (v : Value) (w : World) (hv : SliceAt w v (vs.map strL)) (hT : llTot vs ≤ 100000) :
    Calls Try.prog 16 #[v] w fun e w' => (∃ u, e = .returned u ∧ w'.ownsRow w.heap.size 9 1 u (listL vs).length ((listL vs).map strL)) ∧ Below w.heap.size w w' := by
  obtain ⟨i0, hi, hz0, hz1, hz2⟩ := info_parts Try.infoStr
  obtain ⟨ps, hps⟩ : ∃ ps, ps = cutsL vs := ⟨_, rfl⟩
  have HP : Hid (Calls Try.prog 31 #[v] w fun e w' => (∃ u, e = .returned u ∧ w'.ownsRow w.heap.size 9 1 u ps.length (ps.map strL)) ∧ Below w.heap.size w w') := Lib.hid (by rw [hps]; exact parts_any vs v w hv hT)
  have HLL : Hid (listL vs = tidyL ps) := Lib.hid (by rw [hps]; rfl)
  have HPB : Hid (ps.length ≤ 100000) := Lib.hid (by rw [hps]; have := cuts_len vs; omega)
  have HPM : Hid (∀ p ∈ ps, p.length ≤ 100000) := Lib.hid (fun p hp => by rw [hps] at hp; have := cuts_mem hp; omega)
  clear hv hT hps
  go_enter Try.func16, Try.ntmps16
  go_wp2_with fail
  refine HP.out.mono ?_
  rintro e w1 ⟨⟨u, rfl, hown⟩, hb1⟩
  have B1 := Lib.hid hb1
  have hsl := SliceAt.own hown
  obtain ⟨ua, uc, rfl⟩ := own_len hown
  have HSL := Lib.hid hsl
  obtain ⟨n, hn⟩ : ∃ n, n = ps.length := ⟨_, rfl⟩
  have HNN := Lib.hid hn
  rw [← hn]
  clear hown hb1 hsl hn
  go_wp2_with fail
  go_loopw [3, 10] (fun r i wr => ∃ k : Nat, k ≤ n ∧ i = .int .i64 k ∧ Hid (wr.ownsRow w1.heap.size 9 1 r (tidyL (ps.take k)).length ((tidyL (ps.take k)).map strL)) ∧ Hid (Below w1.heap.size w1 wr)) (fun _ i _ => n - (intOf i).toNat)
  case atStart => exact ⟨0, Nat.zero_le _, rfl, Lib.hid (World.ownsRow_nil _ _ _ _), Lib.hid (Below.refl _ _)⟩
  case round =>
    obtain ⟨k, hk, rfl, HO, HB⟩ := hrel
    obtain ⟨w2, hw2⟩ : ∃ w2 : World, w2 = wr := ⟨_, rfl⟩
    subst hw2
    by_cases hlt : k < n
    · obtain ⟨p, hpk⟩ : ∃ p, ps[k]? = some p := ⟨_, List.getElem?_eq_getElem (by rw [← HNN.out]; exact hlt)⟩
      obtain ⟨X, hX⟩ : ∃ X : ByteArray, X = ⟨p.toArray⟩ := ⟨_, rfl⟩
      obtain ⟨T, hT⟩ : ∃ T : ByteArray, T = ⟨(trimL p).toArray⟩ := ⟨_, rfl⟩
      obtain ⟨a, c, he, hcs⟩ := HSL.out
      rcases hcs with hnil | ⟨b, o, hb, hat⟩
      · exact absurd (show ps.length = 0 by rw [List.map_eq_nil_iff.1 hnil]; rfl) (by have := HNN.out; omega)
      subst hb
      injection he with e1 e2 e3
      subst e1 e3
      clear e2
      have c0 : w2.cell? ⟨b, o + k, none⟩ = some (.string X) := cell_stays (hat k (.string X) (by rw [List.getElem?_map, hpk, hX]; rfl)) HB.out
      have hki : (k : Int) < (n : Int) := by omega
      have hk6 : (k : Int) < 100000 := by have := HNN.out; have := HPB.out; omega
      have hxs : X.size ≤ 100000 := by rw [hX, mk_size]; exact HPM.out p (List.mem_of_getElem? hpk)
      have HTR : Hid (∀ W, Calls Try.prog 32 #[.string X] W fun e w' => e = .returned (.string T) ∧ Below W.heap.size W w') := Lib.hid (fun W => by have := trim_any X (by omega) W; rw [hX] at this; rw [hX, hT]; exact this)
      have HX := Lib.hid (tidy_snoc hpk)
      have hcnt : (tidyL (ps.take k)).length ≤ 100000 := by have h1 := tidy_len ps k; omega
      have HTV : Hid (strL (trimL p) = .string T) := Lib.hid (by rw [hT]; rfl)
      have hTe : T.size = (trimL p).length := by rw [hT, mk_size]
      clear hat hX hpk hT
      by_cases hz : T.size = 0
      · have y := emptyYes hz
        have HE : Hid (tidyL (ps.take (k + 1)) = tidyL (ps.take k)) := Lib.hid (by rw [HX.out, if_pos (by rw [List.isEmpty_iff]; exact List.eq_nil_of_length_eq_zero (by omega)), List.append_nil])
        clear hTe hz
        go_wp2_with fail
        refine (HTR.out _).mono ?_
        rintro e w3 ⟨rfl, hb3⟩
        have HO3 := Lib.hid (own_below HO.out hb3)
        have HB3 := Lib.hid (below_then HB.out hb3)
        clear hb3 c0
        go_wp2_with fail
        go_roundw
        case rel => exact ⟨k + 1, by omega, by go_num, Lib.hid (by rw [HE.out]; exact HO3.out), HB3⟩
        case measure => simp [intOf]; omega
      · have y := emptyNo hz
        have HE : Hid (tidyL (ps.take (k + 1)) = tidyL (ps.take k) ++ [trimL p]) := Lib.hid (by rw [HX.out, if_neg (by rw [List.isEmpty_iff]; intro h; rw [h] at hTe; exact hz hTe)])
        clear hTe hz
        go_wp2_with fail
        refine (HTR.out _).mono ?_
        rintro e w3 ⟨rfl, hb3⟩
        have hown3 := own_below HO.out hb3
        have HB3 := Lib.hid (below_then HB.out hb3)
        have hsz := HB3.out.size
        clear hb3 c0
        go_wp2_with (at_builtin; refine wpList_append1 rfl _ _ 23 rfl w1.heap.size 9 rfl i0 (.string ByteArray.empty) 16 Try.underlying23 hi hz0 hz1 hz2 rfl _ _ _ rfl hown3 rfl rfl (by omega) (by omega) hsz ?_; intro v' w' hown' hb')
        go_roundw
        case rel =>
          refine ⟨k + 1, by omega, by go_num, Lib.hid ?_, Lib.hid (HB3.out.trans hb')⟩
          rw [HE.out, List.length_append, List.map_append]
          show w'.ownsRow _ _ _ _ _ (_ ++ [strL (trimL p)])
          rw [HTV.out]
          exact hown'
        case measure => simp [intOf]; omega
    · have HE : Hid (ps.take k = ps) := Lib.hid (List.take_of_length_le (by have := HNN.out; omega))
      go_wp2_with fail
      go_ret
      refine ⟨⟨_, rfl, ?_⟩, below_then B1.out HB.out⟩
      have h := HO.out
      rw [HE.out] at h
      rw [HLL.out]
      exact own_mono h B1.out.size

end Go.Proofs.Ytfgpcajjnpmoeaa
