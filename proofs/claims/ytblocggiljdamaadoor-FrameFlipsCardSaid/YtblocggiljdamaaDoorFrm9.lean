/- Contracts: the reference's Next. -/
import Derived.BigRegion
import Derived.Deep.RegionHeldLaw
import Derived.Test.YtblocggiljdamaaDoorProg
import Derived.Test.YtblocggiljdamaaDoorKit
import Derived.Test.YtblocggiljdamaaDoorInfo
import Derived.Test.YtblocggiljdamaaDoorRow
import Derived.Test.YtblocggiljdamaaDoorU32
import Derived.Test.YtblocggiljdamaaDoorSha
import Derived.Test.YtblocggiljdamaaDoorCod2
import Derived.Test.YtblocggiljdamaaDoorCod5
import Derived.Test.YtblocggiljdamaaDoorCod7
import Derived.Test.YtblocggiljdamaaDoorCod9
import Derived.Test.YtblocggiljdamaaDoorFrm0
import Derived.Test.YtblocggiljdamaaDoorFrm1
import Derived.Test.YtblocggiljdamaaDoorFrm4
import Derived.Test.YtblocggiljdamaaDoorFrm6
import Derived.Test.YtblocggiljdamaaDoorFrm7
import Derived.Test.YtblocggiljdamaaDoorFrm8
namespace Go.Proofs.YtblocggiljdamaaDoor
open Go.RowKit Go.Proofs

/-- An append of bytes that lie anywhere, as one step of a region that draws. -/
theorem step_append_slg {P : Program} {ops : Array Oper} {o : Oper} {a : Act} {w : World} {K : Act → World → Prop} {Q : Exit → Act → World → Prop} {E : Prop} (hgd : o.guard = none) (s x : Operand) (t : TypeId)
    (ho : o.op = .call { callee := .builtin .append, args := #[s, x], argTypes := #[t, t] })
    (base : Nat) (e : TypeId) (i : TypeInfo) (z : Value) (ht : P.underlying t = some (.slice e)) (hi : P.info? e = some i) (hz : i.zero = some z)
    (hsize : i.size = 1) (hby : i.bytes = 1) (hzs : z.cells.size = 1)
    (v : Value) (n : Nat) (xs : List Value) (hs : a.eval s = v) (hown : w.ownsRow base e 1 v n xs)
    (u : Value) (l : List UInt8) (hx : a.eval x = u) (B : Nat) (hl : ByteSl w B u l) (hn : n + l.length < 1099511627776) (hbase : base ≤ w.heap.size)
    (h : ∀ v' w', w'.ownsRow base e 1 v' (n + l.length) (xs ++ l.map byteV) → w.grownBy w' v.ownBlock → K (a.put o.dst v') w') :
    if Region.wanted o (yielded ops a.tmps) = true then Oper.wp P o a w K Q else E := by
  have hw : Region.wanted o (yielded ops a.tmps) = true := by simp [Region.wanted, hgd]
  rw [if_pos hw]
  rcases hl with ⟨rfl, rfl⟩ | ⟨ad, c, rfl, hc, hlies⟩
  · have hrun := run_append_owned_none (P := P) (w := w) base t o.type e i 1 ht hi v n xs hown
    unfold Oper.wp
    simp [execOp, ho, resolve, invoke, builtin, hs, hx, hrun, Result.andThen]
    refine h v w ?_ (World.grownBy.refl _ _)
    rw [List.map_nil, List.append_nil]
    exact hown
  · refine wp_append_own w s x t ho base e i z 1 1 ht hi hz hsize hby hzs (by decide) v n xs hs hown ad l.length c (l.map byteV) hx (by simp) ?_ byteV_one (by unfold maxLen; omega) (by omega) hbase ?_
    · intro j u hj
      rcases hlies with rfl | ⟨b, o, ha, _, hb⟩
      · simp at hj
      · cases ha
        rw [Addr.add_mid]
        rw [List.getElem?_map] at hj
        obtain ⟨y, hy, rfl⟩ := Option.map_eq_some_iff.1 hj
        exact hb j y hy
    · intro v' w' hown' hg _
      exact h v' w' hown' hg

set_option maxHeartbeats 2000000 in
theorem refnext_any (l : List UInt8) (v : Value) (w : World) (h : ByteSl w w.heap.size v l) (hl : l.length ≤ 140737488351232) :
    Calls Tryd.prog 17 #[v] w fun e w' => nextV l w.heap.size w' e ∧ Below w.heap.size w w' := by
  obtain ⟨i0, hi, hz0, hz1, hz2⟩ := info_parts Tryd.infoByte
  obtain ⟨a, c, rfl, hc, hlies⟩ := byteSl_len h
  obtain ⟨N, hN⟩ : ∃ N, N = l.length := ⟨_, rfl⟩
  rw [← hN] at hc hl ⊢
  have HN := Lib.hid hN
  have HL := Lib.hid hlies
  clear h hlies hN
  go_enter Tryd.func17, Tryd.ntmps17
  by_cases h4 : N < 4
  · have hy : (N : Int) < 4 := by omega
    have HV := Lib.hid (next1 (b := l) (by rw [← HN.out]; exact h4))
    go_wp2_with fail
    go_ret3
    exact ⟨nextV_none HV.out, Below.refl _ _⟩
  have hne : l ≠ [] := by intro e; have := HN.out; rw [e] at this; simp at this; omega
  obtain ⟨b, o, rfl, hb, hat⟩ := HL.out.resolve_left hne
  have hy4 : ¬ (N : Int) < 4 := by omega
  have HNUM := Lib.hid (get_any b o N c l w HN.out.symm hat (by omega))
  have hlt4 : numS (l.take 4) < 4294967296 := by
    obtain ⟨x0, x1, x2, x3, ht, _⟩ := four_of (l := l) (by rw [← HN.out]; omega)
    rw [ht]; exact num4_lt rfl
  obtain ⟨S, hS⟩ : ∃ S, S = numS (l.take 4) := ⟨_, rfl⟩
  rw [← hS] at HNUM hlt4
  have HS := Lib.hid hS
  have HAT := Lib.hid hat
  have HBW := Lib.hid hb
  have HC := Lib.hid hc
  clear hat hne hS hb HL
  go_wp2_with fail
  refine (HNUM.out).mono ?_
  rintro e w1 ⟨rfl, rfl⟩
  clear HNUM
  by_cases hbig : 131072 < S
  · have hyb : (131072 : Int) < (S : Int) := by omega
    have HV := Lib.hid (next2 (b := l) (by rw [← HN.out]; omega) (by rw [← HS.out]; exact hbig))
    clear hbig hl
    go_wp2_with fail
    go_ret3
    exact ⟨nextV_none HV.out, Below.refl _ _⟩
  have hyb : ¬ (131072 : Int) < (S : Int) := by omega
  obtain ⟨T, hT⟩ : ∃ T, T = 8 + S := ⟨_, rfl⟩
  have hsum : (8 : Int) + (S : Int) = (T : Int) := by omega
  have h4N : 4 ≤ l.length := by rw [← HN.out]; omega
  have HBIG : Hid (¬ 131072 < numS (l.take 4)) := Lib.hid (by rw [← HS.out]; exact hbig)
  have hwS : IntKind.i64.wrap (S : Int) = (S : Int) := by rw [IntKind.wrap_i64]; omega
  by_cases h8 : N < 8
  · have hy8 : (N : Int) < 8 := by omega
    have HV := Lib.hid (next3 (b := l) h4N HBIG.out (by rw [← HS.out, ← HN.out]; omega))
    clear hbig hl hT h8 h4N
    go_wp2_with fail
    go_ret3
    exact ⟨nextV_none HV.out, Below.refl _ _⟩
  have hy8 : ¬ (N : Int) < 8 := by omega
  by_cases hshort : N < T
  · have hys : (N : Int) - 8 < (S : Int) := by omega
    have HV := Lib.hid (next3 (b := l) h4N HBIG.out (by rw [← HS.out, ← HN.out]; omega))
    clear hbig hl hT hshort h4N
    go_wp2_with fail
    go_ret3
    exact ⟨nextV_none HV.out, Below.refl _ _⟩
  have hys : ¬ (N : Int) - 8 < (S : Int) := by omega
  have hTc : (T : Int) ≤ (c : Int) := by have := HC.out; omega
  have hc4 : ¬ c = 4 := by omega
  have hT8 : 8 ≤ T := by omega
  have hwT : IntKind.u64.wrap (T : Int) = (T : Int) := by rw [IntKind.wrap_u64]; omega
  have hsT : ∀ W, (Instr.slice 23 (.slice (some ⟨b, o, none⟩) N c) (some (.int .i64 8)) (some (.int .u64 (T : Int))) none).run Tryd.prog W = .ok (.slice (if c = 8 then some ⟨b, o, none⟩ else some ⟨b, o + 8, none⟩) (T - 8) (c - 8)) W := fun W => by
    rw [run_slice_lh W 23 (some ⟨b, o, none⟩) N c (by kernel_rfl) .i64 .u64 8 T (by omega) (by omega) (by omega), run_size1 (by kernel_rfl)]
    simp [Result.andThen, sliced, Addr.add_mid]
  have hs4 : ∀ W, (Instr.slice 23 (.slice (some ⟨b, o, none⟩) N c) (some (.int .i64 4)) none none).run Tryd.prog W = .ok (.slice (some ⟨b, o + 4, none⟩) (N - 4) (c - 4)) W := fun W => by
    have h := slice_from (P := Tryd.prog) (t := 23) (by kernel_rfl) (by kernel_rfl) b o N c 4 (by omega) W
    rw [if_neg hc4] at h
    exact h
  have hsh : ∀ W, (Instr.slice 23 (.slice (some ⟨b, o, none⟩) N c) none (some (.int .i64 4)) none).run Tryd.prog W = .ok (.slice (some ⟨b, o, none⟩) 4 c) W := fun W => by
    rw [run_slice_h W 23 (some ⟨b, o, none⟩) N c (by kernel_rfl) .i64 4 (by omega) (by omega), run_size1 (by kernel_rfl)]
    simp [Result.andThen, sliced, Addr.add_mid]
  have hatT : ByAt w b o (l.take T) := byAt_take HAT.out T
  have hlT : (l.take T).length = T := by rw [List.length_take, ← HN.out]; omega
  have hd8 := lies_drop (cap := c) (n := 8) HBW.out hatT (by omega) (by omega)
  obtain ⟨ad, had⟩ : ∃ ad, (if c = 8 then some (⟨b, o, none⟩ : Addr) else some ⟨b, o + 8, none⟩) = some ad := by split <;> exact ⟨_, rfl⟩
  rw [had] at hsT hd8
  clear had
  have hpay : (l.take T).drop 8 = (l.drop 8).take S := by rw [List.drop_take]; congr 1; omega
  rw [hpay] at hd8
  obtain ⟨p, hp⟩ : ∃ p, p = (l.drop 8).take S := ⟨_, rfl⟩
  rw [← hp] at hd8
  have hpl : p.length = S := by rw [hp, List.length_take, List.length_drop, ← HN.out]; omega
  have hsl8 : ByteSl w w.heap.size (.slice (some ad) (T - 8) (c - 8)) p := .inr ⟨ad, c - 8, by rw [hpl]; congr 1; omega, by omega, hd8⟩
  have hbm : Below w.heap.size w (w.alloc (.cells #[] 5)) := below_more (Below.refl _ _) _
  have HS8 := Lib.hid (hsl8.keep hbm (Nat.le_refl _))
  have HPL := Lib.hid hpl
  have HP := Lib.hid hp
  have HBM := Lib.hid hbm
  have hplb : 0 + p.length < 1099511627776 := by omega
  have hw8 : wrap64 ((N : Int) - 8) = (N : Int) - 8 := by
    unfold wrap64
    omega
  have HPB := Lib.hid hplb
  have HTT := Lib.hid hT
  have HTN : Hid (8 + numS (l.take 4) ≤ l.length) := Lib.hid (by rw [← HS.out, ← HN.out]; omega)
  have HSB : Hid (S ≤ 131072) := Lib.hid (by omega)
  have HL1 := Lib.hid hl
  have H8N : Hid (8 ≤ N) := Lib.hid (by omega)
  clear hd8 hatT hlT hpay hp hpl hsl8 hbm hplb hT hl hbig h8 hshort h4N hlt4 hc
  go_wp2_with (first
    | (at_builtin; refine wpList_append_sl rfl (.tmp 25) (.tmp 29) 23 rfl w.heap.size 5 i0 (.int .u8 0) Tryd.underlying23 hi hz0 hz1 hz2 rfl _ 0 [] rfl (World.ownsRow_lit w #[] 0 (Nat.le_refl _) (by decide) rfl) _ p rfl _ HS8.out HPB.out (by simp) ?_; intro v6 w2 hown6 hb2)
    | fail)
  rw [Nat.zero_add, List.nil_append, HPL.out] at hown6
  obtain ⟨a6, c6, rfl⟩ := own_len hown6
  have hbw2 : Below w.heap.size w w2 := HBM.out.trans hb2
  have HO6 := Lib.hid hown6
  have HB2 := Lib.hid hbw2
  have hL0 : ByAt w b o (l.take 4) := byAt_take HAT.out 4
  have hl4 : (l.take 4).length = 4 := by rw [List.length_take, ← HN.out]; have := H8N.out; omega
  have hbd : Below w.heap.size w (w2.alloc (.cells #[] 5)).drew := below_draws (below_more hbw2 _) ⟨1, rfl⟩
  have hlit : ((w2.alloc (.cells #[] 5)).drew).ownsRow w2.heap.size 5 1 (.slice (some ⟨w2.heap.size, 0, none⟩) 0 0) 0 [] := World.ownsRow_lit w2 #[] 0 (Nat.le_refl _) (by decide) rfl
  have hs33 : ByteSl (w2.alloc (.cells #[] 5)).drew w.heap.size (.slice (some ⟨b, o, none⟩) 4 c) (l.take 4) :=
    .inr ⟨⟨b, o, none⟩, c, by rw [hl4], by rw [hl4]; have := HC.out; have := H8N.out; omega, .inr ⟨b, o, rfl, HBW.out, hL0.keep hbd HBW.out⟩⟩
  have HLIT := Lib.hid hlit
  have HS33 := Lib.hid hs33
  have HBD := Lib.hid hbd
  have HL4 : Hid (0 + (l.take 4).length < 1099511627776) := Lib.hid (by rw [hl4]; omega)
  have HL4' : Hid ((l.take 4).length = 4) := Lib.hid hl4
  have HSZ2 : Hid (w2.heap.size ≤ (w2.alloc (.cells #[] 5)).drew.heap.size) := Lib.hid (below_more (Below.refl w2.heap.size w2) (.cells #[] 5)).size
  have HBL2 : Hid (Below w2.heap.size w2 (w2.alloc (.cells #[] 5)).drew) := Lib.hid (below_draws (below_more (Below.refl _ _) _) ⟨1, rfl⟩)
  have hget : ∀ W, Below w.heap.size w W → Calls Tryd.prog 27 #[.slice (some ⟨b, o + 4, none⟩) (N - 4) (c - 4), .int .i64 4] W fun e w' => e = .returned (.int .u64 ((numS ((l.drop 4).take 4) : Nat) : Int)) ∧ W = w' := fun W hW =>
    get_any b (o + 4) (N - 4) (c - 4) (l.drop 4) W (by rw [List.length_drop, ← HN.out]) (fun j x hj => by
      rw [List.getElem?_drop] at hj
      rw [Nat.add_assoc]
      exact (HAT.out.keep hW HBW.out) (4 + j) x hj) (by have := H8N.out; omega)
  obtain ⟨Q, hQ⟩ : ∃ Q, Q = numS ((l.drop 4).take 4) := ⟨_, rfl⟩
  obtain ⟨X, hX⟩ : ∃ X, X = crcS (l.take 4 ++ p) := ⟨_, rfl⟩
  rw [← hQ] at hget
  have HGET := Lib.hid hget
  have HQ := Lib.hid hQ
  have HX := Lib.hid hX
  have hwx : IntKind.u64.wrap (iw X) = (X.toNat : Int) := by unfold iw; rw [IntKind.wrap_u64]; have := X.toNat_lt; omega
  have HCRC : Hid (∀ (W : World) (v : Value), SliceAt W v ((l.take 4 ++ p).map byteV) → Calls Tryd.prog 15 #[v] W fun e w' => e = .returned (.int .u32 (iw X)) ∧ Below W.heap.size W w') := Lib.hid (fun W v hv => by
    have h := refcrc_any (l.take 4 ++ p) v W hv (by rw [List.length_append, hl4, HPL.out]; have := HSB.out; omega)
    rw [← hX] at h
    exact h)
  have hpb : 0 + (l.take 4).length + p.length < 1099511627776 := by rw [hl4, HPL.out]; have := HSB.out; omega
  have HPB2 := Lib.hid hpb
  clear hown6 hb2 hbw2 hL0 hl4 hbd hlit hs33 hget hQ hX hpb
  by_cases hsame : X.toNat = Q
  case' pos =>
    have hq : ((X.toNat : Int) != (Q : Int)) = false := by rw [hsame]; simp
    have HV := Lib.hid (next5 (b := l) HBIG.out HTN.out (by rw [← HS.out, ← HP.out, ← HX.out, ← HQ.out, hsame]; simp))
  case' neg =>
    have hq : ((X.toNat : Int) != (Q : Int)) = true := by rw [bne_iff_ne]; omega
    have HV := Lib.hid (next4 (b := l) HBIG.out HTN.out (by rw [← HS.out, ← HP.out, ← HX.out, ← HQ.out]; exact hsame))
  all_goals
    clear hsame
    go_region_held_law (fun _ => True) (trivial)
      (first
        | (refine step_append_slg rfl (.tmp 31) (.tmp 33) 23 rfl w2.heap.size 5 i0 (.int .u8 0) Tryd.underlying23 hi hz0 hz1 hz2 rfl (.slice (some ⟨w2.heap.size, 0, none⟩) 0 0) 0 [] rfl HLIT.out (.slice (some ⟨b, o, none⟩) 4 c) (l.take 4) rfl _ HS33.out HL4.out HSZ2.out ?_; intro v34 w34 hown34 hg34; have hb34 := below_own HLIT.out hg34 HSZ2.out)
        | (refine step_append_slg rfl (.tmp 34) (.tmp 35) 23 rfl w2.heap.size 5 i0 (.int .u8 0) Tryd.underlying23 hi hz0 hz1 hz2 rfl v34 _ _ rfl hown34 (.slice a6 S c6) p rfl _ (own_sl (own_below HO6.out (HBL2.out.trans hb34))) HPB2.out (Nat.le_trans HSZ2.out hb34.size) ?_; intro v36 w36 hown36 hg36; have hb36 := below_own hown34 hg36 (Nat.le_trans HSZ2.out hb34.size))
        | (go_at_call 15; refine (HCRC.out _ _ (own_sliceAt (by rw [List.map_append]; exact hown36))).mono ?_; rintro e w37 ⟨rfl, hb37⟩)
        | (go_at_call 27; refine (HGET.out _ (below_then (HBD.out.trans ((hb34.trans hb36).mono HB2.out.size)) hb37)).mono ?_; rintro e w38 ⟨rfl, rfl⟩))
    have hsz36 : w2.heap.size ≤ w36.heap.size := Nat.le_trans HSZ2.out (Nat.le_trans hb34.size hb36.size)
    have hbf : Below w2.heap.size w2 w37 := HBL2.out.trans ((hb34.trans hb36).trans (hb37.mono hsz36))
    have HOF := Lib.hid (own_below HO6.out hbf)
    have HBF := Lib.hid (below_then HB2.out hbf)
    clear hown34 hg34 hb34 hown36 hg36 hb36 hb37 hsz36 hbf
    go_wp2_with fail
    go_ret3
  · exact ⟨nextV_none HV.out, HBF.out⟩
  · refine ⟨?_, HBF.out⟩
    unfold nextV
    rw [HV.out, ← HS.out, ← HTT.out, ← HP.out]
    refine ⟨.slice a6 S c6, rfl, ?_⟩
    show w37.ownsRow w.heap.size 5 1 (.slice a6 S c6) p.length (p.map byteV)
    rw [HPL.out]
    exact HOF.out

end Go.Proofs.YtblocggiljdamaaDoor
