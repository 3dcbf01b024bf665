/- csp: the first of some names, the code's and the reference's. -/
import Derived.Test.YtceajdpjablfiaaShelf
import Derived.BigRegion
import Derived.BigQuiet
import Derived.Test.YtceajdpjablfiaaProg
import Derived.Test.YtceajdpjablfiaaKit
import Derived.Test.YtceajdpjablfiaaInfo
import Derived.Test.YtceajdpjablfiaaAsc4
import Derived.Test.YtceajdpjablfiaaRow
import Derived.Test.YtceajdpjablfiaaRow2
import Derived.Test.YtceajdpjablfiaaCod8
import Derived.Test.YtceajdpjablfiaaJoin
import Derived.Test.YtceajdpjablfiaaTxt2
import Derived.Test.YtceajdpjablfiaaRfd3
import Derived.Test.YtceajdpjablfiaaRfd9
import Derived.Test.YtceajdpjablfiaaUrl9
import Derived.Test.YtceajdpjablfiaaHdr10
import Derived.Test.YtceajdpjablfiaaCsp0
import Derived.Test.YtceajdpjablfiaaCsp1
import Derived.Test.YtceajdpjablfiaaCsp2
namespace Go.Proofs.Ytceajdpjablfiaa
open Go.RowKit Go.Proofs

/-- append([]string(nil), l...), as one step of a region that draws. -/
theorem step_append_strs0 {P : Program} {ops : Array Oper} {o : Oper} {a : Act} {w : World} {K : Act → World → Prop} {Q : Exit → Act → World → Prop} {E : Prop} (hgd : o.guard = none) (s x : Operand) (t : TypeId)
    (ho : o.op = .call { callee := .builtin .append, args := #[s, x], argTypes := #[t, t] })
    (i : TypeInfo) (z : Value) (ht : P.underlying t = some (.slice 9)) (hi : P.info? 9 = some i) (hz : i.zero = some z)
    (hsize : i.size = 1) (hby : i.bytes = 16) (hzs : z.cells.size = 1) (hs : a.eval s = .slice none 0 0)
    (u : Value) (l : List (List UInt8)) (hx : a.eval x = u) (hu : StrSl w u l) (n : Nat) (hnn : n = l.length) (hn : n ≤ 100000)
    (h : ∀ v' w', Hid (w'.ownsRow w.heap.size 9 1 v' n (l.map strL)) → Hid (Below w.heap.size w w') → K (a.put o.dst v') w') :
    if Region.wanted o (yielded ops a.tmps) = true then Oper.wp P o a w K Q else E := by
  subst hnn
  have h0 : w.ownsRow w.heap.size 9 1 (.slice none 0 0) 0 [] := World.ownsRow_nil _ _ _ _
  rcases hu with ⟨rfl, rfl⟩ | ⟨b, q, c, cur, fr, rfl, _, hat⟩
  · exact step_append_nil hgd s x t ho w.heap.size 9 i 1 ht hi (.slice none 0 0) 0 [] hs h0 hx (h _ _ (Lib.hid h0) (Lib.hid (Below.refl _ _)))
  · refine step_append_at hgd s x t ho w.heap.size 9 i z 1 16 ht hi hz hsize hby hzs (by decide) (.slice none 0 0) 0 [] hs h0 ⟨b, q, none⟩ l.length c (l.map strL) hx (by simp) (fun j y hj => ?_) strs_one (by unfold maxLen; omega) (by omega) (Nat.le_refl _) ?_
    · rw [Addr.add_mid]
      rw [List.getElem?_map] at hj
      cases hy : l[j]? with
      | none => rw [hy] at hj; cases hj
      | some y2 => rw [hy] at hj; cases hj; exact hat j y2 hy
    · intro v' w' ho2 hg2 _
      have ho3 := ho2.out
      rw [Nat.zero_add, List.nil_append] at ho3
      exact h v' w' (Lib.hid ho3) (Lib.hid ((Below.refl _ _).grown hg2.out (Nat.le_refl _) (fun k hk => by simp [Value.ownBlock] at hk)))

def zeroM : DirM := ⟨[], []⟩

/-- What a search tells. -/
def FindV (w w' : World) (e : Ending) (o : Option DirM) : Prop :=
  (∃ a c, e = .returned (.tuple #[.agg #[strL (o.getD zeroM).cdn, .slice a (o.getD zeroM).cdl.length c], .bool o.isSome]) ∧ StrSl w' (.slice a (o.getD zeroM).cdl.length c) (o.getD zeroM).cdl) ∧ Below w.heap.size w w'

theorem txt_eq {a b : ByteArray} (h : a.data.toList = b.data.toList) : (a.toList == b.toList) = true := by rw [ByteArray.toList_eq, ByteArray.toList_eq, h, beq_iff_eq]

theorem txt_ne {a b : ByteArray} (h : a.data.toList ≠ b.data.toList) : (a.toList == b.toList) = false := by rw [ByteArray.toList_eq, ByteArray.toList_eq, beq_eq_false_iff_ne]; exact h

set_option maxRecDepth 100000 in
theorem cfindv_any (ds : List DirM) (v : Value) (ns : List (List UInt8)) (u : Value) (w : World) (hv : DirsAt w v ds) (hu : SliceAt w u (ns.map strL)) (hd : ds.length ≤ 6000) (hn : ns.length ≤ 6000) (hT : dirsN ds ≤ 6000) :
    Calls Try.prog 15 #[v, u] w fun e w' => FindV w w' e (cpickO ds ns) := by
  obtain ⟨i0, hi, hz0, hz1, hz2⟩ := info_parts Try.infoStr
  obtain ⟨ua, uc, hu2⟩ := hu.len
  rw [List.length_map] at hu2
  obtain ⟨va, vc, hv2⟩ := dirs_len hv
  subst hu2 hv2
  have hz := zero_cells Try.infoDirZ
  obtain ⟨w0, hw0⟩ : ∃ w0 : World, w0 = w.alloc (.cells #[.string ⟨#[]⟩, .slice none 0 0] 30) := ⟨_, rfl⟩
  have hb0 : Below w.heap.size w w0 := by rw [hw0]; exact below_more (Below.refl _ _) _
  have HR0 : Hid (Rw w0 0 w.heap.size 30 [.string ⟨#[]⟩, .slice none 0 0]) := Lib.hid (by rw [hw0]; exact Rw.alloc w _ _ (Nat.zero_le _))
  have HB0 := Lib.hid hb0
  have HV := Lib.hid (dirs_below hv hb0)
  have HU := Lib.hid (SliceAt.below hu hb0)
  obtain ⟨n, hnn⟩ : ∃ n, n = ds.length := ⟨_, rfl⟩
  obtain ⟨m, hmm⟩ : ∃ m, m = ns.length := ⟨_, rfl⟩
  have HNN := Lib.hid hnn
  have HMM := Lib.hid hmm
  have HNB : Hid (n ≤ 6000 ∧ m ≤ 6000) := Lib.hid ⟨by omega, by omega⟩
  have HTT := Lib.hid hT
  rw [← hnn, ← hmm]
  clear hv hu hnn hmm hd hn hT hb0
  go_enter Try.func15, Try.ntmps15
  go_wp2_with (first | (refine wpList_alloc_z rfl 30 rfl #[.string ⟨#[]⟩, .slice none 0 0] hz ?_) | fail)
  rw [← hw0]
  clear hw0
  go_loopw [12] (fun j wr => ∃ k : Nat, k ≤ m ∧ j = .int .i64 k ∧ Hid (cpickO ds (ns.take k) = none) ∧ Hid (Below w0.heap.size w0 wr)) (fun j _ => m - (intOf j).toNat)
  case atStart => exact ⟨0, Nat.zero_le _, rfl, Lib.hid rfl, Lib.hid (Below.refl _ _)⟩
  case round =>
    obtain ⟨k, hk, rfl, HP, HB⟩ := hrel
    obtain ⟨w1, hw1⟩ : ∃ w1 : World, w1 = wr := ⟨_, rfl⟩
    subst hw1
    by_cases hlt : k < m
    · obtain ⟨N, hNk⟩ : ∃ N : ByteArray, ns[k]? = some N.data.toList := by
        obtain ⟨x, hx⟩ : ∃ x, ns[k]? = some x := ⟨_, List.getElem?_eq_getElem (by rw [← HMM.out]; exact hlt)⟩
        exact ⟨⟨x.toArray⟩, hx⟩
      obtain ⟨a, c, he, hcs⟩ := HU.out
      rcases hcs with hnil | ⟨b, o, hb, hat⟩
      · exact absurd (show ns.length = 0 by rw [List.map_eq_nil_iff.1 hnil]; rfl) (by have := HMM.out; omega)
      subst hb
      injection he with e1 e2 e3
      subst e1 e3
      clear e2
      have c0 : w1.cell? ⟨b, o + k, none⟩ = some (.string N) := cell_stays (hat k (.string N) (by rw [List.getElem?_map, hNk]; show some (strL _) = _; rw [strL_data])) HB.out
      have hki : (k : Int) < (m : Int) := by omega
      have hk6 : (k : Int) < 6000 := by have := HNB.out.2; omega
      have HNK := Lib.hid hNk
      have HKM := Lib.hid hlt
      clear hat hNk hlt hk
      go_wp2_with fail
      have HK6 := Lib.hid (And.intro hki hk6)
      clear hki hk6 c0
      go_loopw [18] (fun j wr => ∃ i : Nat, i ≤ n ∧ j = .int .i64 i ∧ Hid (cmetB (ds.take i) N.data.toList = false) ∧ Hid (Below w0.heap.size w0 wr)) (fun j _ => n - (intOf j).toNat)
      case atStart => exact ⟨0, Nat.zero_le _, rfl, Lib.hid rfl, HB⟩
      case round =>
        obtain ⟨i, hi9, rfl, HM, HB1⟩ := hrel
        obtain ⟨w2, hw2⟩ : ∃ w2 : World, w2 = wr := ⟨_, rfl⟩
        subst hw2
        by_cases hil : i < n
        · obtain ⟨d, hdi⟩ : ∃ d, ds[i]? = some d := ⟨_, List.getElem?_eq_getElem (by rw [← HNN.out]; exact hil)⟩
          obtain ⟨bv, ov, cv, hvv, d0, ud, d1, hsd⟩ := dirs_at (dirs_below HV.out HB1.out) hdi
          injection hvv with e1 e2 e3
          subst e1 e3
          clear e2
          obtain ⟨X, hX⟩ : ∃ X : ByteArray, X.data.toList = d.cdn := ⟨⟨d.cdn.toArray⟩, rfl⟩
          rw [strL_of hX] at d0
          obtain ⟨da, dc, rfl⟩ := strSl_len hsd
          have hii : (i : Int) < (n : Int) := by omega
          have hi6 : (i : Int) < 6000 := by have := HNB.out.1; omega
          have HSD := Lib.hid hsd
          by_cases hq : X.data.toList = N.data.toList
          · have y := txt_eq hq
            have hq0 := hq
            have HPK : Hid (cpickO ds ns = some d) := Lib.hid (cpick_at HNK.out (cfind_at hdi (by rw [← hX]; exact hq0) HM.out) HP.out)
            have HXV : Hid (strL d.cdn = .string X) := Lib.hid (strL_of hX)
            have hdl : d.cdl.length ≤ 6000 := by
              have h1 := dirsN_mem (List.mem_of_getElem? hdi)
              have h2 := HTT.out
              have h3 := llTot_len d.cdl
              unfold dirN at h1
              simp only [llTot] at h1
              omega
            obtain ⟨q, hq9⟩ : ∃ q, q = d.cdl.length := ⟨_, rfl⟩
            have HQL := Lib.hid hq9
            rw [← hq9] at d1 HSD hdl
            obtain ⟨w3, hw3⟩ : ∃ w3 : World, w3 = w2.alloc (.cells #[.string X, .slice da q dc] 30) := ⟨_, rfl⟩
            have hb3 : Below w2.heap.size w2 w3 := by rw [hw3]; exact below_more (Below.refl _ _) _
            have k0 : w3.cell? ⟨w2.heap.size, 0, none⟩ = some (.string X) := by rw [hw3]; exact alloc_cell w2 _ _ _ 0
            have k1 : w3.cell? ⟨w2.heap.size, 1, none⟩ = some (.slice da q dc) := by rw [hw3]; exact alloc_cell w2 _ _ _ 1
            have hb3d : Below w2.heap.size w2 w3.drew := below_draws hb3 ⟨1, rfl⟩
            have HK0 : Hid (w3.drew.cell? ⟨w2.heap.size, 0, none⟩ = some (.string X)) := Lib.hid k0
            have HSD3 : Hid (StrSl w3.drew (.slice da q dc) d.cdl) := Lib.hid (strSl_below HSD.out hb3d)
            have HB3 : Hid (Below w.heap.size w w3.drew) := Lib.hid (below_then (below_then HB0.out HB1.out) hb3d)
            have HR3 : Hid (Rw w3.drew 0 w.heap.size 30 [.string ⟨#[]⟩, .slice none 0 0]) := Lib.hid (Rw.below HR0.out (below_then HB1.out hb3d))
            clear hq hq0 hX hdi hsd hb3 hb3d hq9 HSD
            go_wp2_with fail
            rw [← hw3]
            clear hw3
            go_region_law (refine step_append_strs0 rfl _ _ 27 rfl i0 (.string ByteArray.empty) Try.underlying27 hi hz0 hz1 hz2 rfl (by simp [Act.eval]) (.slice da q dc) d.cdl (by simp [Act.eval]) HSD3.out q HQL.out (by omega) ?_; intro v5 w5 o5 b5; obtain ⟨a5, c5, rfl⟩ := own_len o5.out; have m0 : w5.cell? ⟨w2.heap.size, 0, none⟩ = some (.string X) := cell_stays HK0.out b5.out; have hr5 := Rw.below HR3.out b5.out; have n0 : w5.cell? ⟨w.heap.size, 0, none⟩ = some (.string ⟨#[]⟩) := hr5.cell rfl; have n1 : w5.cell? ⟨w.heap.size, 1, none⟩ = some (.slice none 0 0) := hr5.cell rfl; have f0 : w5.frozen? ⟨w.heap.size, 0, none⟩ = false := hr5.free 0; have p1 : (w5.setCell ⟨w.heap.size, 0, none⟩ (.string X)).cell? ⟨w.heap.size, 1, none⟩ = some (.slice none 0 0) := cell_keep n1 (by decide) _; have f1 : (w5.setCell ⟨w.heap.size, 0, none⟩ (.string X)).frozen? ⟨w.heap.size, 1, none⟩ = false := (hr5.stored 0 (.string X)).free 1; have HR5 := Lib.hid hr5; clear hr5)
            all_goals
              have HS5 : Hid (StrSl w5 (.slice a5 q c5) d.cdl) := Lib.hid (by
                have h := o5.out
                rw [HQL.out] at h ⊢
                exact strSl_own h)
              have HB5 := Lib.hid (below_then HB3.out b5.out)
              go_wp2_with fail
              rw [HPK.out]
              refine bodyPost_ret (v := .tuple #[.agg #[.string X, .slice a5 q c5], .bool true]) ?_ rfl ⟨⟨a5, c5, by show _ = Ending.returned (.tuple #[.agg #[strL d.cdn, .slice a5 d.cdl.length c5], .bool true]); rw [HXV.out, HQL.out], by show StrSl _ (.slice a5 d.cdl.length c5) d.cdl; rw [← HQL.out]; exact strSl_cells HS5.out HR5.out [.string X, .slice a5 q c5]⟩, below_setCells (g := w.heap.size) (Nat.le_refl _) [.string X, .slice a5 q c5] 0 _ HB5.out⟩
              exact results_row_tmp rfl _ _ w.heap.size 0 _ [.string X, .slice a5 q c5] _ rfl (Rw.storedAll HR5.out _ rfl) Try.underlying30 rfl Try.sizeDir _ rfl
          · have y := txt_ne hq
            have HM2 : Hid (cmetB (ds.take (i + 1)) N.data.toList = false) := Lib.hid (cmet_take hdi (by rw [← hX]; exact hq) HM.out)
            have HB2 := Lib.hid (below_more HB1.out (.cells #[.string X, .slice da d.cdl.length dc] 30))
            clear hq hX hdi hsd
            go_wp2_with fail
            go_roundw
            case rel => exact ⟨i + 1, by omega, by go_num, HM2, HB2⟩
            case measure => simp [intOf]; omega
        · have HF : Hid (cmetB ds N.data.toList = false) := Lib.hid (by
            have h := HM.out
            rwa [List.take_of_length_le (by have := HNN.out; omega)] at h)
          have hk6 := HK6.out.2
          go_wp2_with fail
          go_roundw
          case rel => exact ⟨k + 1, by have := HKM.out; omega, by go_num, Lib.hid (cpick_next HNK.out HF.out HP.out), HB1⟩
          case measure => have := HKM.out; simp [intOf]; omega
    · have HF : Hid (cpickO ds ns = none) := Lib.hid (by
        have h := HP.out
        rwa [List.take_of_length_le (by have := HMM.out; omega)] at h)
      have hr1 := Rw.below HR0.out HB.out
      have HTH := Lib.hid (Rw.there hr1 0 2 (Nat.le_refl _))
      obtain ⟨hend, hbe⟩ := dir_back (n := ⟨#[]⟩) (a := none) (k := 0) (c := 0) hr1 (below_then HB0.out HB.out)
      have HEND := Lib.hid hend
      have HBE := Lib.hid hbe
      clear hr1 hend hbe
      go_wp2_with (first | (refine wpList_store_mid rfl 30 (.tmp 4) (.tmp 34) rfl w.heap.size 0 #[.string ⟨#[]⟩, .slice none 0 0] rfl rfl HTH.out Try.sizeDir (dir_one _ _ _ _) ?_) | fail)
      rw [HF.out]
      refine bodyPost_ret (v := .tuple #[zeroDir, .bool false]) ?_ rfl ⟨⟨none, 0, rfl, .inl ⟨rfl, rfl⟩⟩, HBE.out⟩
      exact results_row_tmp rfl _ _ w.heap.size 0 _ [.string ⟨#[]⟩, .slice none 0 0] _ rfl HEND.out Try.underlying30 rfl Try.sizeDir _ rfl

set_option maxRecDepth 100000 in
theorem rfindv_any (ds : List DirM) (v : Value) (ns : List (List UInt8)) (u : Value) (w : World) (hv : DirsAt w v ds) (hu : SliceAt w u (ns.map strL)) (hd : ds.length ≤ 6000) (hn : ns.length ≤ 6000) :
    Calls Try.prog 16 #[v, u] w fun e w' => FindV w w' e (cpickO ds ns) := by
  obtain ⟨ua, uc, hu2⟩ := hu.len
  rw [List.length_map] at hu2
  obtain ⟨va, vc, hv2⟩ := dirs_len hv
  subst hu2 hv2
  have hz := zero_cells Try.infoDirZ
  obtain ⟨w0, hw0⟩ : ∃ w0 : World, w0 = w.alloc (.cells #[.string ⟨#[]⟩, .slice none 0 0] 30) := ⟨_, rfl⟩
  have hb0 : Below w.heap.size w w0 := by rw [hw0]; exact below_more (Below.refl _ _) _
  have HR0 : Hid (Rw w0 0 w.heap.size 30 [.string ⟨#[]⟩, .slice none 0 0]) := Lib.hid (by rw [hw0]; exact Rw.alloc w _ _ (Nat.zero_le _))
  have HB0 := Lib.hid hb0
  have HV := Lib.hid (dirs_below hv hb0)
  have HU := Lib.hid (SliceAt.below hu hb0)
  obtain ⟨n, hnn⟩ : ∃ n, n = ds.length := ⟨_, rfl⟩
  obtain ⟨m, hmm⟩ : ∃ m, m = ns.length := ⟨_, rfl⟩
  have HNN := Lib.hid hnn
  have HMM := Lib.hid hmm
  have HNB : Hid (n ≤ 6000 ∧ m ≤ 6000) := Lib.hid ⟨by omega, by omega⟩
  rw [← hnn, ← hmm]
  clear hv hu hnn hmm hd hn hb0
  go_enter Try.func16, Try.ntmps16
  go_wp2_with (first | (refine wpList_alloc_z rfl 30 rfl #[.string ⟨#[]⟩, .slice none 0 0] hz ?_) | fail)
  rw [← hw0]
  clear hw0
  go_loopw [6] (fun j wr => ∃ k : Nat, k ≤ m ∧ j = .int .i64 k ∧ Hid (cpickO ds (ns.take k) = none) ∧ Hid (∃ q, wr = w0.drewN q)) (fun j _ => m - (intOf j).toNat)
  case atStart => exact ⟨0, Nat.zero_le _, rfl, Lib.hid rfl, Lib.hid ⟨0, rfl⟩⟩
  case round =>
    obtain ⟨k, hk, rfl, HP, HD⟩ := hrel
    obtain ⟨w1, hw1⟩ : ∃ w1 : World, w1 = wr := ⟨_, rfl⟩
    subst hw1
    by_cases hlt : k < m
    · obtain ⟨N, hNk⟩ : ∃ N : ByteArray, ns[k]? = some N.data.toList := by
        obtain ⟨x, hx⟩ : ∃ x, ns[k]? = some x := ⟨_, List.getElem?_eq_getElem (by rw [← HMM.out]; exact hlt)⟩
        exact ⟨⟨x.toArray⟩, hx⟩
      obtain ⟨a, c, he, hcs⟩ := HU.out
      rcases hcs with hnil | ⟨b, o, hb, hat⟩
      · exact absurd (show ns.length = 0 by rw [List.map_eq_nil_iff.1 hnil]; rfl) (by have := HMM.out; omega)
      subst hb
      injection he with e1 e2 e3
      subst e1 e3
      clear e2
      have HC0 : Hid (∀ q, (w0.drewN q).cell? ⟨b, o + k, none⟩ = some (.string N)) := Lib.hid (fun q => by
        have h := hat k (.string N) (by rw [List.getElem?_map, hNk]; show some (strL _) = _; rw [strL_data])
        exact h)
      have hki : (k : Int) < (m : Int) := by omega
      have hk6 : (k : Int) < 6000 := by have := HNB.out.2; omega
      have HNK := Lib.hid hNk
      have HKM := Lib.hid hlt
      clear hat hNk hlt hk
      go_wp2_with fail
      have HK6 := Lib.hid (And.intro hki hk6)
      clear hki hk6
      go_loopw [7] (fun j wr => ∃ i : Nat, i ≤ n ∧ j = .int .i64 i ∧ Hid (cmetB (ds.take i) N.data.toList = false) ∧ Hid (∃ q, wr = w0.drewN q)) (fun j _ => n - (intOf j).toNat)
      case atStart => exact ⟨0, Nat.zero_le _, rfl, Lib.hid rfl, HD⟩
      case round =>
        obtain ⟨i, hi9, rfl, HM, HD1⟩ := hrel
        obtain ⟨w2, hw2⟩ : ∃ w2 : World, w2 = wr := ⟨_, rfl⟩
        subst hw2
        have hb1 : Below w0.heap.size w0 w2 := below_draws (Below.refl _ _) HD1.out
        have HB1 := Lib.hid hb1
        by_cases hil : i < n
        · obtain ⟨d, hdi⟩ : ∃ d, ds[i]? = some d := ⟨_, List.getElem?_eq_getElem (by rw [← HNN.out]; exact hil)⟩
          obtain ⟨bv, ov, cv, hvv, d0, ud, d1, hsd⟩ := dirs_at (dirs_below HV.out HB1.out) hdi
          injection hvv with e1 e2 e3
          subst e1 e3
          clear e2
          obtain ⟨X, hX⟩ : ∃ X : ByteArray, X.data.toList = d.cdn := ⟨⟨d.cdn.toArray⟩, rfl⟩
          rw [strL_of hX] at d0
          obtain ⟨da, dc, rfl⟩ := strSl_len hsd
          have hii : (i : Int) < (n : Int) := by omega
          have hi6 : (i : Int) < 6000 := by have := HNB.out.1; omega
          have hki := HK6.out.1
          have c0 : w2.cell? ⟨b, o + k, none⟩ = some (.string N) := by obtain ⟨q, hq⟩ := HD1.out; rw [hq]; exact HC0.out q
          have HSD := Lib.hid hsd
          have HE1 := Lib.hid (And.intro d0 d1)
          by_cases hq : X.data.toList = N.data.toList
          · have y := txt_eq hq
            have HPK : Hid (cpickO ds ns = some d) := Lib.hid (cpick_at HNK.out (cfind_at hdi (by rw [← hX]; exact hq) HM.out) HP.out)
            have HXV : Hid (strL d.cdn = .string X) := Lib.hid (strL_of hX)
            obtain ⟨q, hq9⟩ : ∃ q, q = d.cdl.length := ⟨_, rfl⟩
            have HQL := Lib.hid hq9
            rw [← hq9] at d1 HSD HE1
            clear hq hX hdi hsd hq9 hb1
            go_wp2_with fail
            go_quiet (fail)
            obtain ⟨w9, hw9⟩ : ∃ w9, w9 = w2.drewN nq := ⟨_, rfl⟩
            have hb9 : Below w2.heap.size w2 w9 := by rw [hw9]; exact below_draws (Below.refl _ _) ⟨_, rfl⟩
            have hr9 : Rw w9 0 w.heap.size 30 [.string ⟨#[]⟩, .slice none 0 0] := Rw.below HR0.out (below_then HB1.out hb9)
            have d2 : w9.cell? ⟨bv, ov + i * 2, none⟩ = some (.string X) := by rw [hw9]; exact HE1.out.1
            have d3 : w9.cell? ⟨bv, ov + i * 2 + 1, none⟩ = some (.slice da q dc) := by rw [hw9]; exact HE1.out.2
            have HS9 : Hid (StrSl w9 (.slice da q dc) d.cdl) := Lib.hid (strSl_below HSD.out hb9)
            have HB9 := Lib.hid (below_then (below_then HB0.out HB1.out) hb9)
            have HR9 := Lib.hid hr9
            have HTH := Lib.hid (Rw.there hr9 0 2 (Nat.le_refl _))
            rw [← hw9]
            clear hw9 hb9 hr9 d0 d1 c0
            go_wp2_with (first | (refine wpList_store_mid rfl 30 (.tmp 4) (.tmp 33) rfl w.heap.size 0 #[.string X, .slice da q dc] rfl rfl HTH.out Try.sizeDir (dir_one _ _ _ _) ?_) | fail)
            rw [HPK.out]
            refine bodyPost_ret (v := .tuple #[.agg #[.string X, .slice da q dc], .bool true]) ?_ rfl ⟨⟨da, dc, by show _ = Ending.returned (.tuple #[.agg #[strL d.cdn, .slice da d.cdl.length dc], .bool true]); rw [HXV.out, HQL.out], by show StrSl _ (.slice da d.cdl.length dc) d.cdl; rw [← HQL.out]; exact strSl_cells HS9.out HR9.out [.string X, .slice da q dc]⟩, below_setCells (g := w.heap.size) (Nat.le_refl _) [.string X, .slice da q dc] 0 _ HB9.out⟩
            exact results_row_tmp rfl _ _ w.heap.size 0 _ [.string X, .slice da q dc] _ rfl (Rw.storedAll HR9.out _ rfl) Try.underlying30 rfl Try.sizeDir _ rfl
          · have y := txt_ne hq
            have HM2 : Hid (cmetB (ds.take (i + 1)) N.data.toList = false) := Lib.hid (cmet_take hdi (by rw [← hX]; exact hq) HM.out)
            clear hq hX hdi hsd hb1
            go_wp2_with fail
            go_quiet (fail)
            have HD2 : Hid (∃ q, w2.drewN nq = w0.drewN q) := Lib.hid (drewN_more HD1.out nq)
            clear d0 d1 c0
            go_wp2_with fail
            go_roundw
            case rel => exact ⟨i + 1, by omega, by go_num, HM2, HD2⟩
            case measure => simp [intOf]; omega
        · have HF : Hid (cmetB ds N.data.toList = false) := Lib.hid (by
            have h := HM.out
            rwa [List.take_of_length_le (by have := HNN.out; omega)] at h)
          have hk6 := HK6.out.2
          go_wp2_with fail
          go_roundw
          case rel => exact ⟨k + 1, by have := HKM.out; omega, by go_num, Lib.hid (cpick_next HNK.out HF.out HP.out), HD1⟩
          case measure => have := HKM.out; simp [intOf]; omega
    · have HF : Hid (cpickO ds ns = none) := Lib.hid (by
        have h := HP.out
        rwa [List.take_of_length_le (by have := HMM.out; omega)] at h)
      have hb1 : Below w0.heap.size w0 w1 := below_draws (Below.refl _ _) HD.out
      have hr1 := Rw.below HR0.out hb1
      have HTH := Lib.hid (Rw.there hr1 0 2 (Nat.le_refl _))
      obtain ⟨hend, hbe⟩ := dir_back (n := ⟨#[]⟩) (a := none) (k := 0) (c := 0) hr1 (below_then HB0.out hb1)
      have HEND := Lib.hid hend
      have HBE := Lib.hid hbe
      clear hr1 hend hbe hb1
      go_wp2_with (first | (refine wpList_store_mid rfl 30 (.tmp 4) (.tmp 34) rfl w.heap.size 0 #[.string ⟨#[]⟩, .slice none 0 0] rfl rfl HTH.out Try.sizeDir (dir_one _ _ _ _) ?_) | fail)
      rw [HF.out]
      refine bodyPost_ret (v := .tuple #[zeroDir, .bool false]) ?_ rfl ⟨⟨none, 0, rfl, .inl ⟨rfl, rfl⟩⟩, HBE.out⟩
      exact results_row_tmp rfl _ _ w.heap.size 0 _ [.string ⟨#[]⟩, .slice none 0 0] _ rfl HEND.out Try.underlying30 rfl Try.sizeDir _ rfl

end Go.Proofs.Ytceajdpjablfiaa
