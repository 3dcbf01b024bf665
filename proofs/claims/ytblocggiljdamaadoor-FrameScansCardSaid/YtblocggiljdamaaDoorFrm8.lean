/- Contracts: the reference's Put. -/
import Derived.BigRegion
import Derived.Deep.RegionHeldLaw
import Derived.Test.YtblocggiljdamaaDoorProg
import Derived.Test.YtblocggiljdamaaDoorKit
import Derived.Test.YtblocggiljdamaaDoorInfo
import Derived.Test.YtblocggiljdamaaDoorRow
import Derived.Test.YtblocggiljdamaaDoorU32
import Derived.Test.YtblocggiljdamaaDoorSha
import Derived.Test.YtblocggiljdamaaDoorCod5
import Derived.Test.YtblocggiljdamaaDoorCod7
import Derived.Test.YtblocggiljdamaaDoorCod9
import Derived.Test.YtblocggiljdamaaDoorFrm0
import Derived.Test.YtblocggiljdamaaDoorFrm1
import Derived.Test.YtblocggiljdamaaDoorFrm2
import Derived.Test.YtblocggiljdamaaDoorFrm4
import Derived.Test.YtblocggiljdamaaDoorFrm5
import Derived.Test.YtblocggiljdamaaDoorFrm6
namespace Go.Proofs.YtblocggiljdamaaDoor
open Go.RowKit Go.Proofs

/-- out = append(out, b...), bytes that lie anywhere: nothing but out's own block turned. -/
theorem wpList_append_slg {P : Program} {w : World} {ops : Array Oper} {rest : List Oper} {o : Oper} {a : Act} {Q : Exit → Act → World → Prop} (hgd : o.guard = none) (s x : Operand) (t : TypeId)
    (ho : o.op = .call { callee := .builtin .append, args := #[s, x], argTypes := #[t, t] })
    (base : Nat) (e : TypeId) (i : TypeInfo) (z : Value) (ht : P.underlying t = some (.slice e)) (hi : P.info? e = some i) (hz : i.zero = some z)
    (hsize : i.size = 1) (hby : i.bytes = 1) (hzs : z.cells.size = 1)
    (v : Value) (n : Nat) (xs : List Value) (hs : a.eval s = v) (hown : w.ownsRow base e 1 v n xs)
    (u : Value) (l : List UInt8) (hx : a.eval x = u) (B : Nat) (hl : ByteSl w B u l) (hn : n + l.length < 1099511627776) (hbase : base ≤ w.heap.size)
    (h : ∀ v' w', w'.ownsRow base e 1 v' (n + l.length) (xs ++ l.map byteV) → w.grownBy w' v.ownBlock → wpList P ops Q rest (a.put o.dst v') w') : wpList P ops Q (o :: rest) a w := by
  rcases hl with ⟨rfl, rfl⟩ | ⟨ad, c, rfl, hc, hlies⟩
  · refine wpList_append_own_none hgd s x t ho base e i 1 ht hi v n xs hs hown hx ?_
    refine h v w ?_ (World.grownBy.refl _ _)
    rw [List.map_nil, List.append_nil]
    exact hown
  · refine wpList_append_own _ hgd s x t ho base e i z 1 1 ht hi hz hsize hby hzs (by decide) v n xs hs hown ad l.length c (l.map byteV) hx (by simp) ?_ byteV_one (by unfold maxLen; omega) (by omega) hbase ?_
    · intro j u hj
      rcases hlies with rfl | ⟨b, o, ha, _, hb⟩
      · simp at hj
      · cases ha
        rw [Addr.add_mid]
        rw [List.getElem?_map] at hj
        obtain ⟨y, hy, rfl⟩ := Option.map_eq_some_iff.1 hj
        exact hb j y hy
    · intro v' w' hown' hg _
      exact h v' w' hown' hg

theorem own_block {w : World} {base : Nat} {e : TypeId} {v : Value} {n : Nat} {xs : List Value} (h : w.ownsRow base e 1 v n xs) (hn : n ≠ 0) : ∃ g, v.ownBlock = some g ∧ base ≤ g ∧ g < w.heap.size := by
  rcases h.2 with ⟨_, hv⟩ | ⟨g, cap, cur, hv, hb, hh, _⟩
  · exact absurd hv hn
  · subst hv
    refine ⟨g, rfl, hb, ?_⟩
    rcases Nat.lt_or_ge g w.heap.size with hg | hg
    · exact hg
    · rw [Array.getElem?_eq_none hg] at hh; cases hh

theorem own_sliceAt {w : World} {base : Nat} {e : TypeId} {v : Value} {n : Nat} {l : List UInt8} (h : w.ownsRow base e 1 v n (l.map byteV)) : SliceAt w v (l.map byteV) := SliceAt.own h

theorem frame_len8 (p : List UInt8) : (be4 p.length ++ be4 (crcS (be4 p.length ++ p)).toNat).length = 8 := by rw [List.length_append, be4_len, be4_len]

set_option maxHeartbeats 1000000 in
theorem refput_any (p : List UInt8) (v : Value) (w : World) (hv : ByteSl w w.heap.size v p) (hl : p.length < 4294967296) :
    Calls Tryd.prog 12 #[v] w fun e w' => putV [p] w.heap.size w' e ∧ Below w.heap.size w w' := by
  obtain ⟨i0, hi, hz0, hz1, hz2⟩ := info_parts Tryd.infoByte
  have hfl : ([p] : List (List UInt8)).flatten = p := by simp
  obtain ⟨a, c, hva, _⟩ := byteSl_len hv
  subst hva
  obtain ⟨N, hN⟩ : ∃ N, N = p.length := ⟨_, rfl⟩
  rw [← hN] at hl
  have HV := Lib.hid hv
  have HN := Lib.hid hN
  rw [← hN] at HV ⊢
  have HFL := Lib.hid hfl
  clear hv hN hfl
  go_enter Tryd.func12, Tryd.ntmps12
  by_cases hbig : 131072 < N
  · have hy : (131072 : Int) < (N : Int) := by omega
    have HB : Hid (131072 < ([p] : List (List UInt8)).flatten.length) := Lib.hid (by rw [HFL.out, ← HN.out]; exact hbig)
    clear hbig hl
    go_wp2_with fail
    go_ret2
    exact ⟨.inr ⟨HB.out, rfl⟩, Below.refl _ _⟩
  have hy : ¬ (131072 : Int) < (N : Int) := by omega
  have hwn : IntKind.u64.wrap (N : Int) = (N : Int) := by rw [IntKind.wrap_u64]; omega
  have HSM : Hid (N ≤ 131072) := Lib.hid (by omega)
  have HL1 := Lib.hid (lay_any w.heap.size 4 0 N (.slice none 0 0) [] w (World.ownsRow_nil _ _ _ _) (Nat.le_refl _) (by decide) (by omega) (by decide))
  clear hbig hl
  go_wp2_with fail
  refine (HL1.out).mono ?_
  rintro e w1 ⟨⟨v1, rfl, hown1⟩, hb1⟩
  rw [Nat.zero_add, List.nil_append] at hown1
  obtain ⟨a1, c1, rfl⟩ := own_len hown1
  have hown1' : w1.ownsRow w.heap.size 5 1 (.slice a1 4 c1) 4 ((be4 N).map byteV) := hown1
  have HO1 := Lib.hid hown1'
  have HB1 := Lib.hid hb1
  clear hown1 hown1' hb1 HL1
  have hbm : Below w1.heap.size w1 (w1.alloc (.cells #[] 5)) := below_more (Below.refl _ _) _
  have hs1 : ByteSl (w1.alloc (.cells #[] 5)) (w1.alloc (.cells #[] 5)).heap.size (.slice a1 4 c1) (be4 N) := own_sl (own_below HO1.out hbm)
  have HS1 := Lib.hid hs1
  have HBM := Lib.hid hbm
  have hlen4 : 0 + (be4 N).length < 1099511627776 := by rw [be4_len]; omega
  clear hs1 hbm
  go_wp2_with (first
    | (at_builtin; refine wpList_append_sl rfl (.tmp 13) (.tmp 14) 23 rfl w1.heap.size 5 i0 (.int .u8 0) Tryd.underlying23 hi hz0 hz1 hz2 rfl _ 0 [] rfl (World.ownsRow_lit w1 #[] 0 (Nat.le_refl _) (by decide) rfl) _ (be4 N) rfl _ HS1.out hlen4 (by simp) ?_; intro v2 w2 hown2 hb2; have hb12 := HBM.out.trans hb2; have hv1 := own_below HO1.out hb12; have hbw2 := below_then HB1.out hb12; have hl2 := HV.out.keep hbw2 (Nat.le_refl _))
    | (at_builtin; refine wpList_append_slg rfl (.tmp 16) (.tmp 17) 23 rfl w.heap.size 5 i0 (.int .u8 0) Tryd.underlying23 hi hz0 hz1 hz2 rfl (.slice a1 4 c1) 4 ((be4 N).map byteV) rfl hv1 _ p rfl _ hl2 (by rw [← HN.out]; have := HSM.out; omega) hbw2.size ?_; intro v3 w3 hown3 hg3)
    | fail)
  rw [be4_len, Nat.zero_add, List.nil_append] at hown2
  obtain ⟨a2, c2, rfl⟩ := own_len hown2
  obtain ⟨g1, hg1, _, hg1w⟩ := own_block HO1.out (by decide)
  obtain ⟨g2, hg2, hg2w, _⟩ := own_block hown2 (by decide)
  have hk2 := hown2.kept hg3 (.inr (by rw [hg1, hg2]; intro e; cases e; omega))
  have hbw3 : Below w.heap.size w w3 := hbw2.trans (below_own hv1 hg3 hbw2.size)
  rw [← List.map_append] at hown3
  have HSA := Lib.hid (own_sliceAt hown3)
  have HO3 := Lib.hid hk2
  have HB3 := Lib.hid hbw3
  have HB1S : Hid (w1.heap.size ≤ w3.heap.size) := Lib.hid (Nat.le_trans hb12.size hg3.size)
  have HCL : Hid ((be4 N ++ p).length ≤ 140737488351232) := Lib.hid (by rw [List.length_append, be4_len, ← HN.out]; have := HSM.out; omega)
  clear hown2 hown3 hg3 hk2 hbw3 hg1 hg1w hg2 hg2w hb12 hv1 hbw2 hl2 hb2 HS1 HBM hlen4 HO1
  refine (refcrc_any (be4 N ++ p) _ _ HSA.out HCL.out).mono ?_
  rintro e w4 ⟨rfl, hb4⟩
  obtain ⟨X, hX⟩ : ∃ X, X = crcS (be4 N ++ p) := ⟨_, rfl⟩
  rw [← hX]
  have HX := Lib.hid hX
  have hwx : IntKind.u64.wrap (iw X) = (X.toNat : Int) := by unfold iw; rw [IntKind.wrap_u64]; have := X.toNat_lt; omega
  have ho4 := own_below HO3.out hb4
  have HL2 := Lib.hid (lay_any w1.heap.size 4 4 X.toNat (.slice a2 4 c2) (be4 N) w4 ho4 (Nat.le_trans HB1S.out hb4.size) (by decide) (by have := X.toNat_lt; omega) (by decide))
  have HS4 : Hid (w1.heap.size ≤ w4.heap.size) := Lib.hid (Nat.le_trans HB1S.out hb4.size)
  have HB4 := Lib.hid (below_then HB3.out hb4)
  clear hX ho4 hb4
  unfold wV
  go_wp2_with fail
  refine (HL2.out).mono ?_
  rintro e w5 ⟨⟨v5, rfl, hown5⟩, hb5⟩
  obtain ⟨a5, c5, rfl⟩ := own_len hown5
  have HO5 := Lib.hid hown5
  have hbw5 : Below w.heap.size w w5 := HB4.out.trans (hb5.mono HB1.out.size)
  have HB5 := Lib.hid hbw5
  have HL5 := Lib.hid (HV.out.keep hbw5 (Nat.le_refl _))
  have HSZ : Hid (w1.heap.size ≤ w5.heap.size) := Lib.hid (Nat.le_trans HS4.out hb5.size)
  clear hown5 hb5 hbw5 HL2
  go_wp2_with (first
    | (at_builtin; refine wpList_append_sl rfl (.tmp 22) (.tmp 23) 23 rfl w1.heap.size 5 i0 (.int .u8 0) Tryd.underlying23 hi hz0 hz1 hz2 rfl (.slice a5 (4 + 4) c5) (4 + 4) _ rfl HO5.out _ p rfl _ HL5.out (by rw [← HN.out]; have := HSM.out; omega) HSZ.out ?_; intro v6 w6 hown6 hb6)
    | fail)
  obtain ⟨g6, c6, rfl, _⟩ := own_some hown6 (by omega)
  have hbw6 : Below w.heap.size w w6 := HB5.out.trans (hb6.mono HB1.out.size)
  have hfr : (be4 N ++ layS 4 X.toNat).map byteV ++ p.map byteV = (frameS p).map byteV := by
    rw [← List.map_append, HX.out, HN.out]
    rfl
  rw [hfr] at hown6
  have HO6 := Lib.hid (own_mono hown6 HB1.out.size)
  have HB6 := Lib.hid hbw6
  clear hown6 hb6 hbw6 hfr
  go_wp2_with fail
  go_ret2
  refine ⟨.inl ⟨by rw [HFL.out, ← HN.out]; exact HSM.out, g6, c6, ?_, ?_⟩, HB6.out⟩
  · rw [HFL.out, ← HN.out, show N + 8 = 4 + 4 + N by omega]
    rfl
  · rw [HFL.out, ← HN.out, show N + 8 = 4 + 4 + N by omega, HN.out]
    exact HO6.out

end Go.Proofs.YtblocggiljdamaaDoor
