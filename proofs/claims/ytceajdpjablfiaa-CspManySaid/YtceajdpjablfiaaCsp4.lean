/- csp: a policy is read, the code's (with a map of the names) and the reference's. -/
import Derived.Test.YtceajdpjablfiaaShelf
import Derived.BigRegion
import Derived.BigQuiet
import Derived.Maps.OwnSet
import Derived.Maps.AppendAt
import Derived.Test.YtceajdpjablfiaaProg
import Derived.Test.YtceajdpjablfiaaKit
import Derived.Test.YtceajdpjablfiaaPlain
import Derived.Test.YtceajdpjablfiaaStr
import Derived.Test.YtceajdpjablfiaaAsc4
import Derived.Test.YtceajdpjablfiaaRow
import Derived.Test.YtceajdpjablfiaaRow2
import Derived.Test.YtceajdpjablfiaaCod8
import Derived.Test.YtceajdpjablfiaaStp
import Derived.Test.YtceajdpjablfiaaHst1
import Derived.Test.YtceajdpjablfiaaUrl9
import Derived.Test.YtceajdpjablfiaaHdr10
import Derived.Test.YtceajdpjablfiaaCsp0
import Derived.Test.YtceajdpjablfiaaCsp1
import Derived.Test.YtceajdpjablfiaaCsp2
import Derived.Test.YtceajdpjablfiaaCsp3
namespace Go.Proofs.Ytceajdpjablfiaa
open Go.RowKit Go.Proofs Go.Maps

theorem Try.infoDir : (Try.prog.info? 30).map (fun i => (i.zero, i.size, i.bytes)) = some (some (.agg #[.string ⟨#[]⟩, .slice none 0 0]), 2, 40) := by kernel_rfl

theorem Try.keyS : Keyed Try.prog 9 := string_keyed Try.underlying9

theorem key_txt (s : ByteArray) (hs : s.size ≤ maxLen) : keyOf Try.prog 9 (.string s) = some (.string s.data.toList) := WideMaps.keyOf_string_mk Try.underlying9 hs

theorem zero_unit (w : World) : (zeroValue 46).run Try.prog w = .ok (.agg #[]) w := by kernel_rfl

/-- The names that were met: the set in block b. -/
def SeenAt (w : World) (b k : Nat) (ds : List DirM) : Prop := ∃ D : DataW Unit, w.ownsMap Try.prog 9 unitElem b k D ∧ ∀ x, Maps.has D (.string x) = cmetB ds x

theorem seen_same {w w' : World} {b k : Nat} {ds : List DirM} (h : SeenAt w b k ds) (hb : w'.heap[b]? = w.heap[b]?) : SeenAt w' b k ds := by
  obtain ⟨D, ⟨es, clock, h1, F, hs, hD⟩, h2⟩ := h
  exact ⟨D, ⟨es, clock, hb.trans h1, F, hs, hD⟩, h2⟩

theorem seen_blk {w : World} {b k : Nat} {ds : List DirM} (h : SeenAt w b k ds) : ∃ es clock, w.heap[b]? = some (.map es clock) := by
  obtain ⟨D, ⟨es, clock, h1, _⟩, _⟩ := h
  exact ⟨es, clock, h1⟩

theorem seen_below {w w' : World} {b k : Nat} {ds : List DirM} (h : SeenAt w b k ds) (hb : Below w.heap.size w w') : SeenAt w' b k ds := by
  obtain ⟨es, clock, h1⟩ := seen_blk h
  exact seen_same h (hb.block b (heap_lt h1))

theorem seen_stay {w w' : World} {b k : Nat} {ds : List DirM} (h : SeenAt w b k ds) (hs : StayD w w') : SeenAt w' b k ds := by
  obtain ⟨es, clock, h1⟩ := seen_blk h
  exact seen_same h (hs b (heap_lt h1) (fun cs fr e => by rw [h1] at e; cases e))

theorem seen_mono {w : World} {b k : Nat} {ds : List DirM} (h : SeenAt w b k ds) : SeenAt w b (k + 1) ds := by
  obtain ⟨D, h1, h2⟩ := h
  exact ⟨D, h1.mono (Nat.le_succ k), h2⟩

theorem seen_put {w' : World} {b k : Nat} {ds : List DirM} {d : DirM} {D : DataW Unit} (hm : IsMap D) (h : ∀ x, Maps.has D (.string x) = cmetB ds x) (hown : w'.ownsMap Try.prog 9 unitElem b (k + 1) (D.put (.string d.cdn) (.agg []))) : SeenAt w' b (k + 1) (ds ++ [d]) := by
  refine ⟨_, hown, fun x => ?_⟩
  rw [cmet_snoc]
  by_cases hx : d.cdn = x
  · subst hx
    rw [has_put_same hm (show WideAt.IsKeyLit (.string d.cdn) from trivial), decide_eq_true rfl, Bool.or_true]
  · rw [has_put_other (fun e => hx (by injection e with e; exact e.symm)), h, decide_eq_false hx, Bool.or_false]

/-- A map was written: what lies elsewhere stays. -/
theorem grown_map {W w4 : World} {b : Nat} {es : Array MapEntry} {clock : Nat} (hb : W.heap[b]? = some (.map es clock)) (hg : W.grownBy w4 (some b)) :
    (∀ (g o : Nat) (v : Value), W.cell? ⟨g, o, none⟩ = some v → w4.cell? ⟨g, o, none⟩ = some v) ∧ (∀ (base : Nat) (v : Value) (ds : List DirM), OwnD W base v ds → OwnD w4 base v ds) ∧ (∀ (u : Value) (xs : List (List UInt8)), StrSl W u xs → StrSl w4 u xs) := by
  have hk : ∀ g, g < W.heap.size → g ≠ b → w4.heap[g]? = W.heap[g]? := fun g hlt hne => hg.block g hlt (fun e => hne (by injection e))
  have hstr : ∀ (u : Value) (xs : List (List UInt8)), StrSl W u xs → StrSl w4 u xs := fun u xs h => strSl_same h (fun g cur fr he => hk g (heap_lt he) (fun e => by rw [e, hb] at he; cases he))
  refine ⟨fun g o v h => ?_, fun base v ds h => ?_, hstr⟩
  · have hlt := block_of_cell h
    refine (cell_heap (hk g hlt (fun e => ?_))).trans h
    subst e
    unfold World.cell? at h
    simp only [hb] at h
    cases h
  · obtain ⟨rs, h1, h2, h3⟩ := h
    refine ⟨rs, h1, h2.kept hg ?_, fun r hr => hstr _ _ (h3 r hr)⟩
    rcases h2.2 with ⟨hv, _⟩ | ⟨g, cap, cur, hv, _, hh, _⟩
    · exact .inl (by rw [hv]; rfl)
    · refine .inr ?_
      rw [hv]
      intro e
      simp [Value.ownBlock] at e
      subst e
      rw [hb] at hh
      cases hh

/-- A policy as it was read. -/
def CspV (w w' : World) (e : Ending) (ds : List DirM) : Prop := (∃ v, e = .returned v ∧ OwnD w' w.heap.size v ds) ∧ Below w.heap.size w w'

theorem csp_len (ps : List (List UInt8)) (k : Nat) : (cspP (ps.take k)).length ≤ k := by
  have key : ∀ (ps : List (List UInt8)) (out : List DirM), (ps.foldl caddD out).length ≤ out.length + ps.length := by
    intro ps
    induction ps with
    | nil => intro out; simp
    | cons p r ih =>
      intro out
      have h := ih (caddD out p)
      have h2 : (caddD out p).length ≤ out.length + 1 := by
        unfold caddD
        split
        · omega
        · split
          · omega
          · simp
      rw [List.foldl_cons, List.length_cons]
      omega
  have h := key (ps.take k) []
  rw [List.length_take] at h
  unfold cspP
  simp only [List.length_nil] at h
  omega

set_option maxRecDepth 100000 in
set_option maxHeartbeats 2000000 in
theorem cparse_any (s : ByteArray) (hs : s.size ≤ 20000) (w : World) : Calls Try.prog 10 #[.string s] w fun e w' => CspV w w' e (cspL s.data.toList) := by
  have hmm := @run_makeMap Try.prog
  obtain ⟨i0, hi, hz0, hz1, hz2⟩ := info_parts Try.infoDir
  obtain ⟨ps, hps⟩ : ∃ ps, ps = splitL s.data.toList 59 := ⟨_, rfl⟩
  have HSP : Hid (∀ W, Calls Try.prog 22 #[.string s, .int .u8 59] W fun e w' => (∃ v, e = .returned v ∧ w'.ownsRow W.heap.size 9 1 v ps.length (ps.map strL)) ∧ Below W.heap.size W w') := Lib.hid (fun W => by rw [hps]; exact split_any s 59 (by omega) W)
  have HTOT : Hid (llTot ps ≤ 20001) := Lib.hid (by
    rw [hps]
    unfold splitL
    rw [csplit_tot]
    have := size_data s
    simp only [List.length_nil]
    omega)
  have HRES : Hid (cspL s.data.toList = cspP ps) := Lib.hid (by rw [hps]; rfl)
  obtain ⟨n, hn⟩ : ∃ n, n = ps.length := ⟨_, rfl⟩
  have HNN := Lib.hid hn
  have HNB : Hid (n ≤ 20001) := Lib.hid (by have h1 := HTOT.out; have h2 := llTot_len ps; omega)
  rw [HRES.out]
  clear hps hs
  go_enter Try.func10, Try.ntmps10
  go_wp2_with fail
  refine (HSP.out _).mono ?_
  rintro e w1 ⟨⟨pv, rfl, hown⟩, hb1⟩
  have hps0 := strSl_own hown
  obtain ⟨pa, pc, rfl⟩ := own_len hown
  rw [← hn] at hps0 ⊢
  have HO := Lib.hid hps0
  have hb01 : Below w.heap.size w w1 := below_then (below_more (Below.refl _ _) _) hb1
  have HB1 := Lib.hid hb01
  have HSE : Hid (SeenAt w1 w.heap.size 0 []) := Lib.hid (seen_below (⟨.map [], World.ownsMap_made w _ _ _, fun x => rfl⟩ : SeenAt (w.alloc (.map #[] 0)) w.heap.size 0 []) hb1)
  clear hown hb1 hb01 hn hps0
  go_wp2_with fail
  go_loopw [3, 15] (fun l j wr => ∃ k : Nat, k ≤ n ∧ j = .int .i64 k ∧ Hid (OwnD wr w.heap.size l (cspP (ps.take k))) ∧ Hid (SeenAt wr w.heap.size k (cspP (ps.take k))) ∧ Hid (Below w.heap.size w wr) ∧ Hid (StrSl wr (.slice pa n pc) ps)) (fun _ j _ => n - (intOf j).toNat)
  case atStart => exact ⟨0, Nat.zero_le _, rfl, Lib.hid (ownD_nil _ _), HSE, HB1, HO⟩
  case round =>
    obtain ⟨k, hk, rfl, HO9, HS9, HB9, HC9⟩ := hrel
    obtain ⟨w2, hw2⟩ : ∃ w2 : World, w2 = wr := ⟨_, rfl⟩
    subst hw2
    by_cases hlt : k < n
    · obtain ⟨P, hPk⟩ : ∃ P : ByteArray, ps[k]? = some P.data.toList := by
        obtain ⟨x, hx⟩ : ∃ x, ps[k]? = some x := ⟨_, List.getElem?_eq_getElem (by rw [← HNN.out]; exact hlt)⟩
        exact ⟨⟨x.toArray⟩, hx⟩
      obtain ⟨a, c, he, hcs⟩ := strSl_at HC9.out
      rcases hcs with hnil | ⟨b, o, hb, hat⟩
      · exact absurd (show ps.length = 0 by rw [List.map_eq_nil_iff.1 hnil]; rfl) (by have := HNN.out; omega)
      subst hb
      injection he with e1 e2 e3
      subst e1 e3
      clear e2
      have c0 : w2.cell? ⟨b, o + k, none⟩ = some (.string P) := hat k (.string P) (by rw [List.getElem?_map, hPk]; show some (strL _) = _; rw [strL_data])
      have hki : (k : Int) < (n : Int) := by omega
      have hk6 : (k : Int) < 20001 := by have := HNB.out; omega
      have hPs : P.size ≤ 20001 := by have h1 := llTot_mem (List.mem_of_getElem? hPk); have h2 := HTOT.out; rw [size_data] at h1; omega
      have HX := Lib.hid (cspP_snoc hPk)
      clear hat hPk
      cases hd : dirO P.data.toList with
      | none =>
        have HCL : Hid (∀ W, Calls Try.prog 23 #[.string P] W fun e w' => e = .returned (.tuple #[.agg #[.string ⟨#[]⟩, .slice none 0 0], .bool false]) ∧ Below W.heap.size W w') := Lib.hid (fun W => cdir_no P (by omega) hd W)
        have HE : Hid (cspP (ps.take (k + 1)) = cspP (ps.take k)) := Lib.hid (by rw [HX.out, cadd_none hd])
        clear hd hPs
        go_wp2_with fail
        refine (HCL.out _).mono ?_
        rintro e w3 ⟨rfl, hb3⟩
        have hbe := below_more hb3 (.cells #[.string ⟨#[]⟩, .slice none 0 0] 30)
        have HO3 := Lib.hid (ownD_below HO9.out hbe)
        have HS3 := Lib.hid (seen_mono (seen_below HS9.out hbe))
        have HB3 := Lib.hid (below_then HB9.out hbe)
        have HC3 := Lib.hid (strSl_below HC9.out hbe)
        clear hb3 hbe c0
        go_wp2_with fail
        go_roundw
        case rel => exact ⟨k + 1, by omega, by go_num, Lib.hid (by rw [HE.out]; exact HO3.out), Lib.hid (by rw [HE.out]; exact HS3.out), HB3, HC3⟩
        case measure => simp [intOf]; omega
      | some d =>
        have HCL := Lib.hid (fun W => cdir_yes P (by omega) hd W)
        obtain ⟨X, hX⟩ : ∃ X : ByteArray, X.data.toList = d.cdn := ⟨⟨d.cdn.toArray⟩, rfl⟩
        have HXV : Hid (strL d.cdn = .string X) := Lib.hid (strL_of hX)
        have hXs : X.size ≤ 20002 := by
          have h1 := dirO_tot hd
          rw [size_data] at h1
          have h2 : X.size = d.cdn.length := by rw [← hX, size_data]
          unfold dirN at h1
          simp only [llTot] at h1
          omega
        have hkey := key_txt X (by unfold maxLen; omega)
        rw [hX] at hkey
        have hcnt : (cspP (ps.take k)).length < 1000000 := by have h1 := csp_len ps k; have h2 := HNB.out; omega
        obtain ⟨q, hq9⟩ : ∃ q, q = d.cdl.length := ⟨_, rfl⟩
        have HQL := Lib.hid hq9
        rw [← hq9] at HCL
        rw [HXV.out] at HCL
        have HKEY := Lib.hid hkey
        have HCNT := Lib.hid hcnt
        cases hm : cmetB (cspP (ps.take k)) d.cdn with
        | true =>
          have HE : Hid (cspP (ps.take (k + 1)) = cspP (ps.take k)) := Lib.hid (by rw [HX.out, cadd_met hd hm])
          have HM := Lib.hid hm
          clear hd hPs hX hXs hkey hcnt hq9 hm
          go_wp2_with fail
          refine (HCL.out _).mono ?_
          rintro e w3 ⟨⟨ua, uc, rfl, hsl⟩, hb3⟩
          have hb4 : Below w2.heap.size w2 (w3.alloc (.cells #[.string X, .slice ua q uc] 30)) := below_more hb3 _
          have hbe : Below w2.heap.size w2 ((w3.alloc (.cells #[.string X, .slice ua q uc] 30)).alloc (.cells #[] 46)) := below_more hb4 _
          obtain ⟨D, hown4, hD⟩ := seen_below HS9.out hb4
          have hhas : Maps.has D (.string d.cdn) = true := by rw [hD]; exact HM.out
          have d0 := alloc_cell w3 #[.string X, .slice ua q uc] 30 (0, 0) 0
          have HO3 := Lib.hid (ownD_below HO9.out hbe)
          have HS3 := Lib.hid (seen_mono (seen_below HS9.out hbe))
          have HB3 := Lib.hid (below_then HB9.out hbe)
          have HC3 := Lib.hid (strSl_below HC9.out hbe)
          have hkey := HKEY.out
          clear hb3 hb4 hbe c0 hsl hD
          go_wp2_with (at_lookup; refine wpList_lookup_own_unit _ rfl _ _ 43 rfl 9 46 Try.keyS Try.underlying43 (zero_unit _) w.heap.size k D rfl hown4 _ _ rfl hkey ?_)
          go_roundw
          case rel => exact ⟨k + 1, by omega, by go_num, Lib.hid (by rw [HE.out]; exact HO3.out), Lib.hid (by rw [HE.out]; exact HS3.out), HB3, HC3⟩
          case measure => simp [intOf]; omega
        | false =>
          have HE : Hid (cspP (ps.take (k + 1)) = cspP (ps.take k) ++ [d]) := Lib.hid (by rw [HX.out, cadd_new hd hm])
          have HM := Lib.hid hm
          have HKM : Hid (k < maxLen) := Lib.hid (by unfold maxLen; omega)
          clear hd hPs hX hXs hkey hcnt hq9 hm
          go_wp2_with fail
          refine (HCL.out _).mono ?_
          rintro e w3 ⟨⟨ua, uc, rfl, hsl⟩, hb3⟩
          have hb34 : Below w3.heap.size w3 ((w3.alloc (.cells #[.string X, .slice ua q uc] 30)).alloc (.cells #[] 46)) := below_more (below_more (Below.refl _ _) _) _
          have hb4 : Below w2.heap.size w2 (w3.alloc (.cells #[.string X, .slice ua q uc] 30)) := below_more hb3 _
          have hbe : Below w2.heap.size w2 ((w3.alloc (.cells #[.string X, .slice ua q uc] 30)).alloc (.cells #[] 46)) := below_more hb4 _
          obtain ⟨D, hown4, hD⟩ := seen_below HS9.out hb4
          obtain ⟨es, clock, hblk⟩ := seen_blk (seen_below HS9.out hbe)
          have hown5 : ((w3.alloc (.cells #[.string X, .slice ua q uc] 30)).alloc (.cells #[] 46)).ownsMap Try.prog 9 unitElem w.heap.size k D := hown4.alloc _
          have hhas : Maps.has D (.string d.cdn) = false := by rw [hD]; exact HM.out
          have d0 := alloc_cell w3 #[.string X, .slice ua q uc] 30 (0, 0) 0
          have HD := Lib.hid hD
          have HMP : Hid (IsMap D) := Lib.hid hown4.isMap
          have HO3 := Lib.hid (ownD_below HO9.out hbe)
          have HB3 := Lib.hid (below_then HB9.out hbe)
          have HC3 := Lib.hid (strSl_below HC9.out hbe)
          have HSL3 := Lib.hid (strSl_below hsl hb34)
          have HBLK := Lib.hid hblk
          have HD1 : Hid (((w3.alloc (.cells #[.string X, .slice ua q uc] 30)).alloc (.cells #[] 46)).cell? ⟨w3.heap.size, 0, none⟩ = some (.string X) ∧ ((w3.alloc (.cells #[.string X, .slice ua q uc] 30)).alloc (.cells #[] 46)).cell? ⟨w3.heap.size, 1, none⟩ = some (.slice ua q uc)) := Lib.hid ⟨cell_stays (alloc_cell w3 #[.string X, .slice ua q uc] 30 (0, 0) 0) (below_more (Below.refl _ _) _), cell_stays (alloc_cell w3 #[.string X, .slice ua q uc] 30 (0, 0) 1) (below_more (Below.refl _ _) _)⟩
          have d1 := HD1.out.1
          have hkey := HKEY.out
          have hkm := HKM.out
          clear hb3 hb34 hb4 hbe c0 hsl hD hblk
          go_wp2_with (first
            | (at_lookup; refine wpList_lookup_own_unit _ rfl _ _ 43 rfl 9 46 Try.keyS Try.underlying43 (zero_unit _) w.heap.size k D rfl hown4 _ _ rfl hkey ?_)
            | (at_mapUpdate; refine wpList_mapUpdate_own _ rfl _ _ _ 43 rfl 9 46 Try.keyS Try.underlying43 (unitElem (H := Unit)) w.heap.size k D rfl hown5 hkm _ _ _ rfl rfl hkey _ [] unitElem_mk ?_; intro w5 hown6 hgrow; obtain ⟨g1, g2, g3⟩ := grown_map HBLK.out hgrow; have m0 := g1 _ _ _ HD1.out.1; have m1 := g1 _ _ _ HD1.out.2; have hO5 := g2 _ _ _ HO3.out; have hS5 := g3 _ _ HSL3.out; have HS5 := Lib.hid (seen_put HMP.out HD.out hown6); have HB5 := Lib.hid (HB3.out.grown hgrow HB3.out.size (fun j hj => by cases hj; exact Nat.le_refl _)); have HC5 := Lib.hid (g3 _ _ HC3.out); have hsz := HB5.out.size; have hcnt := HCNT.out; clear hown4 hown5 hgrow hown6 g1 g2 g3 hhas d0 d1 hkey hkm)
            | (at_builtin; go_loud (refine wpList_append_dir (d := d) (u := .slice ua q uc) rfl _ _ 24 rfl w.heap.size (by rw [HXV.out]) i0 _ Try.underlying24 hi hz0 hz1 hz2 rfl _ (cspP (ps.take k)) rfl hO5 (by rw [HQL.out] at hS5 ⊢; exact hS5) _ rfl rfl hcnt hsz ?_); intro v7 w7 hO7 hb7 hst7))
          go_roundw
          case rel => exact ⟨k + 1, by omega, by go_num, Lib.hid (by rw [HE.out]; exact hO7), Lib.hid (by rw [HE.out]; exact seen_stay HS5.out hst7), Lib.hid (HB5.out.trans hb7), Lib.hid (strSl_stay HC5.out hst7)⟩
          case measure => simp [intOf]; omega
    · have HE : Hid (ps.take k = ps) := Lib.hid (List.take_of_length_le (by have := HNN.out; omega))
      go_wp2_with fail
      go_ret
      have h := HO9.out
      rw [HE.out] at h
      exact ⟨⟨_, rfl, h⟩, HB9.out⟩

set_option maxRecDepth 100000 in
set_option maxHeartbeats 2000000 in
theorem rcsp_any (s : ByteArray) (hs : s.size ≤ 5000) (w : World) : Calls Try.prog 11 #[.string s] w fun e w' => CspV w w' e (cspL s.data.toList) := by
  obtain ⟨i0, hi, hz0, hz1, hz2⟩ := info_parts Try.infoDir
  obtain ⟨ps, hps⟩ : ∃ ps, ps = splitL s.data.toList 59 := ⟨_, rfl⟩
  have HSP : Hid (∀ W, Calls Try.prog 24 #[.string s, .int .u8 59] W fun e w' => (∃ v, e = .returned v ∧ w'.ownsRow W.heap.size 9 1 v ps.length (ps.map strL)) ∧ Below W.heap.size W w') := Lib.hid (fun W => by rw [hps]; exact ref_split_any s 59 (by omega) W)
  have HTOT : Hid (llTot ps ≤ 5001) := Lib.hid (by
    rw [hps]
    unfold splitL
    rw [csplit_tot]
    have := size_data s
    simp only [List.length_nil]
    omega)
  have HRES : Hid (cspL s.data.toList = cspP ps) := Lib.hid (by rw [hps]; rfl)
  obtain ⟨n, hn⟩ : ∃ n, n = ps.length := ⟨_, rfl⟩
  have HNN := Lib.hid hn
  have HNB : Hid (n ≤ 5001) := Lib.hid (by have h1 := HTOT.out; have h2 := llTot_len ps; omega)
  rw [HRES.out]
  clear hps hs
  go_enter Try.func11, Try.ntmps11
  go_wp2_with fail
  refine (HSP.out _).mono ?_
  rintro e w1 ⟨⟨pv, rfl, hown⟩, hb1⟩
  have hps0 := strSl_own hown
  obtain ⟨pa, pc, rfl⟩ := own_len hown
  rw [← hn] at hps0 ⊢
  have HO := Lib.hid hps0
  have HB1 := Lib.hid hb1
  clear hown hb1 hn hps0
  go_wp2_with fail
  go_loopw [3, 5] (fun l j wr => ∃ k : Nat, k ≤ n ∧ j = .int .i64 k ∧ Hid (OwnD wr w.heap.size l (cspP (ps.take k))) ∧ Hid (Below w.heap.size w wr) ∧ Hid (StrSl wr (.slice pa n pc) ps)) (fun _ j _ => n - (intOf j).toNat)
  case atStart => exact ⟨0, Nat.zero_le _, rfl, Lib.hid (ownD_nil _ _), HB1, HO⟩
  case round =>
    obtain ⟨k, hk, rfl, HO9, HB9, HC9⟩ := hrel
    obtain ⟨w2, hw2⟩ : ∃ w2 : World, w2 = wr := ⟨_, rfl⟩
    subst hw2
    by_cases hlt : k < n
    · obtain ⟨P, hPk⟩ : ∃ P : ByteArray, ps[k]? = some P.data.toList := by
        obtain ⟨x, hx⟩ : ∃ x, ps[k]? = some x := ⟨_, List.getElem?_eq_getElem (by rw [← HNN.out]; exact hlt)⟩
        exact ⟨⟨x.toArray⟩, hx⟩
      obtain ⟨a, c, he, hcs⟩ := strSl_at HC9.out
      rcases hcs with hnil | ⟨b, o, hb, hat⟩
      · exact absurd (show ps.length = 0 by rw [List.map_eq_nil_iff.1 hnil]; rfl) (by have := HNN.out; omega)
      subst hb
      injection he with e1 e2 e3
      subst e1 e3
      clear e2
      have c0 : w2.cell? ⟨b, o + k, none⟩ = some (.string P) := hat k (.string P) (by rw [List.getElem?_map, hPk]; show some (strL _) = _; rw [strL_data])
      have hki : (k : Int) < (n : Int) := by omega
      have hk6 : (k : Int) < 5001 := by have := HNB.out; omega
      have hPs : P.size ≤ 5001 := by have h1 := llTot_mem (List.mem_of_getElem? hPk); have h2 := HTOT.out; rw [size_data] at h1; omega
      have HX := Lib.hid (cspP_snoc hPk)
      have HBL := Lib.hid (fun W => ref_blanks_any P (by omega) W)
      have HAS := Lib.hid (fun W => casc_ref P (by omega) W)
      have HC0 := Lib.hid c0
      clear hat hPk
      by_cases ha : ascB P.data.toList = true
      · have HA := Lib.hid ha
        cases hw : wordsL P.data.toList with
        | nil =>
          have hd : dirO P.data.toList = none := by unfold dirO; rw [if_pos ha, hw]
          have HW := Lib.hid hw
          have HE : Hid (cspP (ps.take (k + 1)) = cspP (ps.take k)) := Lib.hid (by rw [HX.out, cadd_none hd])
          clear ha hw hd hPs
          go_wp2_with fail
          refine (HBL.out _).mono ?_
          rintro e w3 ⟨⟨bv, rfl, hown3⟩, hb3⟩
          rw [HW.out] at hown3
          obtain ⟨ba, bc, rfl⟩ := own_len hown3
          have c3 : w3.cell? ⟨b, o + k, none⟩ = some (.string P) := cell_stays HC0.out hb3
          have HO3 := Lib.hid (ownD_below HO9.out hb3)
          have HB3 := Lib.hid (below_then HB9.out hb3)
          have HC3 := Lib.hid (strSl_below HC9.out hb3)
          clear hb3 hown3 c0
          go_wp2_with fail
          refine (HAS.out _).mono ?_
          rw [HA.out]
          rintro e w4 ⟨rfl, rfl⟩
          go_wp2_with fail
          go_roundw
          case rel => exact ⟨k + 1, by omega, by go_num, Lib.hid (by rw [HE.out]; exact HO3.out), HB3, HC3⟩
          case measure => simp [intOf]; omega
        | cons x r =>
          have hd : dirO P.data.toList = some ⟨lowL x, r⟩ := by unfold dirO; rw [if_pos ha, hw]
          have hrt : x.length + r.length ≤ 5003 := by
            have h1 := cwords_tot P.data.toList []
            have h2 : wordsGo [] P.data.toList = x :: r := hw
            have h3 := llTot_len r
            rw [h2, size_data] at h1
            simp only [llTot, List.length_nil] at h1
            omega
          have HW := Lib.hid hw
          obtain ⟨X, hX⟩ : ∃ X : ByteArray, X = ⟨x.toArray⟩ := ⟨_, rfl⟩
          obtain ⟨Y, hY⟩ : ∃ Y : ByteArray, Y = ⟨(lowL x).toArray⟩ := ⟨_, rfl⟩
          have hXs : X.size ≤ 5003 := by rw [hX, mk_size]; omega
          have HL : Hid (∀ W, Calls Try.prog 26 #[.string X] W fun e w' => e = .returned (.string Y) ∧ Below W.heap.size W w') := Lib.hid (fun W => by
            have h1 := ref_lower_any X (by omega) W
            have h2 : X.data.toList = x := by rw [hX]
            rw [h2, ← hY] at h1
            exact h1)
          have HXV : Hid (strL x = .string X) := Lib.hid (by rw [hX]; rfl)
          have HYV : Hid (strL (lowL x) = .string Y) := Lib.hid (by rw [hY]; rfl)
          have hrl : r.length ≤ 5003 := by omega
          obtain ⟨q, hq⟩ : ∃ q, q = r.length := ⟨_, rfl⟩
          have HQL := Lib.hid hq
          rw [← hq] at hrl
          have HFD : Hid (∀ (W : World) (l u : Value), DirsAt W l (cspP (ps.take k)) → SliceAt W u [.string Y] → Calls Try.prog 16 #[l, u] W fun e w' => (∃ a m c X2, e = .returned (.tuple #[.agg #[.string X2, .slice a m c], .bool (cmetB (cspP (ps.take k)) (lowL x))])) ∧ Below W.heap.size W w') := Lib.hid (fun W l u hl hu => by
            have h := rfindv_any (cspP (ps.take k)) l [lowL x] u W hl (by rw [List.map_cons, List.map_nil, HYV.out]; exact hu) (by have h1 := csp_len ps k; have h2 := HNB.out; omega) (by simp)
            refine h.mono ?_
            rintro e w' ⟨⟨a, c, he, _⟩, hb⟩
            refine ⟨⟨a, ((cpickO (cspP (ps.take k)) [lowL x]).getD zeroM).cdl.length, c, ⟨((cpickO (cspP (ps.take k)) [lowL x]).getD zeroM).cdn.toArray⟩, ?_⟩, hb⟩
            rw [he, cpick_one, cfind_met]
            rfl)
          have HDV : Hid (∀ (W : World) (sl : Value), W.alloc (.cells #[.string Y, sl] 30) = W.alloc (.cells #[strL (⟨lowL x, r⟩ : DirM).cdn, sl] 30)) := Lib.hid (fun W sl => by
            show _ = W.alloc (.cells #[strL (lowL x), sl] 30)
            rw [HYV.out])
          have hcnt : (cspP (ps.take k)).length < 1000000 := by have h1 := csp_len ps k; have h2 := HNB.out; omega
          have HCNT := Lib.hid hcnt
          have HDO := Lib.hid hd
          clear ha hw hd hX hY hrt hXs hPs hcnt
          go_wp2_with fail
          refine (HBL.out _).mono ?_
          rintro e w3 ⟨⟨bv, rfl, hown3⟩, hb3⟩
          rw [HW.out] at hown3
          obtain ⟨g, c9, b9, rfl, hg, hc0, hsl, hop⟩ := words_tail hown3
          rw [HXV.out] at hc0
          rw [← hq] at hsl hop ⊢
          have c3 : w3.cell? ⟨b, o + k, none⟩ = some (.string P) := cell_stays HC0.out hb3
          have HO3 := Lib.hid (ownD_below HO9.out hb3)
          have HB3 := Lib.hid (below_then HB9.out hb3)
          have HC3 := Lib.hid (strSl_below HC9.out hb3)
          have HSL := Lib.hid hsl
          have hnz : ¬ ((q : Int) + 1 = 0) := by omega
          clear hb3 hown3 c0 hsl hq
          go_wp2_with fail
          refine (HAS.out _).mono ?_
          rw [HA.out]
          rintro e w4 ⟨rfl, rfl⟩
          go_wp2_with fail
          have HB4 : Hid (Below w4.heap.size w4 w4.drew) := Lib.hid (below_draws (Below.refl _ _) ⟨1, rfl⟩)
          have HB5 : Hid (Below w4.heap.size w4 (w4.alloc (.cells #[.string ⟨#[]⟩, .slice none 0 0] 30)).drew) := Lib.hid (below_draws (below_more (Below.refl _ _) _) ⟨1, rfl⟩)
          have HR5 : Hid (Rw (w4.alloc (.cells #[.string ⟨#[]⟩, .slice none 0 0] 30)).drew 0 w4.heap.size 30 [.string ⟨#[]⟩, .slice none 0 0]) := Lib.hid (Rw.alloc w4 _ _ (Nat.zero_le _))
          have hc1 : (w4.alloc (.cells #[.string ⟨#[]⟩, .slice none 0 0] 30)).cell? ⟨g, 0, none⟩ = some (.string X) := cell_stays hc0 (below_more (Below.refl _ _) _)
          have henter : Enters Try.prog 26 := enters_of Try.func26 (by kernel_rfl) rfl
          go_region_law (first
            | (refine step_call rfl 26 _ _ rfl #[.string X] (by simp [go_sem]) henter (HL.out (w4.alloc (.cells #[.string ⟨#[]⟩, .slice none 0 0] 30)).drew) ?_; rintro e w5 ⟨rfl, hb5⟩; refine ⟨_, rfl, ?_⟩; have HZ := Lib.hid (below_then HB5.out hb5); have hr5 := Rw.below HR5.out hb5; have d0 : w5.cell? ⟨w4.heap.size, 0, none⟩ = some (.string ⟨#[]⟩) := hr5.cell rfl; have d1 : w5.cell? ⟨w4.heap.size, 1, none⟩ = some (.slice none 0 0) := hr5.cell rfl; have f0 : w5.frozen? ⟨w4.heap.size, 0, none⟩ = false := hr5.free 0; have e1 : (w5.setCell ⟨w4.heap.size, 0, none⟩ (.string Y)).cell? ⟨w4.heap.size, 1, none⟩ = some (.slice none 0 0) := cell_keep d1 (by decide) _; have f1 : (w5.setCell ⟨w4.heap.size, 0, none⟩ (.string Y)).frozen? ⟨w4.heap.size, 1, none⟩ = false := (hr5.stored 0 (.string Y)).free 1; have HR6 := Lib.hid hr5; clear hb5 hr5)
            | (refine step_call rfl 26 _ _ rfl #[.string X] (by simp [go_sem]) henter (HL.out w4.drew) ?_; rintro e w5 ⟨rfl, hb5⟩; refine ⟨_, rfl, ?_⟩; have HZ := Lib.hid (below_then HB4.out hb5); have hr5 : Rw (w5.alloc (.cells #[.string ⟨#[]⟩, .slice none 0 0] 30)) 0 w5.heap.size 30 [.string ⟨#[]⟩, .slice none 0 0] := Rw.alloc w5 _ _ (Nat.zero_le _); have d0 : (w5.alloc (.cells #[.string ⟨#[]⟩, .slice none 0 0] 30)).cell? ⟨w5.heap.size, 0, none⟩ = some (.string ⟨#[]⟩) := hr5.cell rfl; have d1 : (w5.alloc (.cells #[.string ⟨#[]⟩, .slice none 0 0] 30)).cell? ⟨w5.heap.size, 1, none⟩ = some (.slice none 0 0) := hr5.cell rfl; have f0 : (w5.alloc (.cells #[.string ⟨#[]⟩, .slice none 0 0] 30)).frozen? ⟨w5.heap.size, 0, none⟩ = false := hr5.free 0; have e1 : ((w5.alloc (.cells #[.string ⟨#[]⟩, .slice none 0 0] 30)).setCell ⟨w5.heap.size, 0, none⟩ (.string Y)).cell? ⟨w5.heap.size, 1, none⟩ = some (.slice none 0 0) := cell_keep d1 (by decide) _; have f1 : ((w5.alloc (.cells #[.string ⟨#[]⟩, .slice none 0 0] 30)).setCell ⟨w5.heap.size, 0, none⟩ (.string Y)).frozen? ⟨w5.heap.size, 1, none⟩ = false := (hr5.stored 0 (.string Y)).free 1; have HR6 := Lib.hid hr5; clear hb5 hr5)
            | fail)
          · have hz6 : Below w4.heap.size w4 (w5.alloc (.cells #[.string Y, .slice (some ⟨g, b9, none⟩) q (c9 - 1)] 30)) := below_more HZ.out _
            have q0 : (w5.alloc (.cells #[.string Y, .slice (some ⟨g, b9, none⟩) q (c9 - 1)] 30)).cell? ⟨w5.heap.size, 0, none⟩ = some (.string Y) := alloc_cell w5 _ _ _ 0
            have q1 : (w5.alloc (.cells #[.string Y, .slice (some ⟨g, b9, none⟩) q (c9 - 1)] 30)).cell? ⟨w5.heap.size, 1, none⟩ = some (.slice (some ⟨g, b9, none⟩) q (c9 - 1)) := alloc_cell w5 _ _ _ 1
            obtain ⟨w6, hw6⟩ : ∃ w6 : World, w6 = (w5.alloc (.cells #[.string Y, .slice (some ⟨g, b9, none⟩) q (c9 - 1)] 30)) := ⟨_, rfl⟩
            rw [← hw6] at hz6 q0 q1 ⊢
            have HO6 := Lib.hid (ownD_below HO3.out hz6)
            have HB6 := Lib.hid (below_then HB3.out hz6)
            have HC6 := Lib.hid (strSl_below HC3.out hz6)
            have HS6 := Lib.hid (strSl_below HSL.out hz6)
            have HQ1 := Lib.hid q1
            have HQ0 := Lib.hid q0
            clear hw6 hz6 hc0 hc1 c3 HR6 HZ d0 d1 f0 e1 f1
            go_wp2_with fail
            have hb7 : Below w6.heap.size w6 (w6.alloc (.cells #[.string Y] 9)) := below_more (Below.refl _ _) _
            refine (HFD.out _ _ _ (dirs_below (ownD_at HO6.out) hb7) (SliceAt.lit w6 #[.string Y] 9 1 1 rfl)).mono ?_
            rintro e w8 ⟨⟨fa, fm, fc, X2, rfl⟩, hb8⟩
            have hb9 : Below w6.heap.size w6 (w8.alloc (.cells #[.string X2, .slice fa fm fc] 30)) := below_more (below_then hb7 hb8) _
            have hr0 : (w8.alloc (.cells #[.string X2, .slice fa fm fc] 30)).cell? ⟨w5.heap.size, 0, none⟩ = some (.string Y) := cell_stays HQ0.out hb9
            have hr1 : (w8.alloc (.cells #[.string X2, .slice fa fm fc] 30)).cell? ⟨w5.heap.size, 1, none⟩ = some (.slice (some ⟨g, b9, none⟩) q (c9 - 1)) := cell_stays HQ1.out hb9
            have hO9 := ownD_below HO6.out hb9
            have HB10 := Lib.hid (below_then HB6.out hb9)
            have HC10 := Lib.hid (strSl_below HC6.out hb9)
            have hS9 := strSl_below HS6.out hb9
            clear hb7 hb8 hb9 q0 q1
            cases hm : cmetB (cspP (ps.take k)) (lowL x) with
            | true =>
              have HE : Hid (cspP (ps.take (k + 1)) = cspP (ps.take k)) := Lib.hid (by rw [HX.out, cadd_met HDO.out hm])
              have HO10 := Lib.hid hO9
              clear hm hO9 hS9 hr0 hr1
              go_wp2_with fail
              go_roundw
              case rel => exact ⟨k + 1, by omega, by go_num, Lib.hid (by rw [HE.out]; exact HO10.out), HB10, HC10⟩
              case measure => simp [intOf]; omega
            | false =>
              have HE : Hid (cspP (ps.take (k + 1)) = cspP (ps.take k) ++ [⟨lowL x, r⟩]) := Lib.hid (by rw [HX.out, cadd_new HDO.out hm])
              have hsz := HB10.out.size
              have HS9 : Hid (w8.heap.size + 1 = (w8.alloc (.cells #[.string X2, .slice fa fm fc] 30)).heap.size) := Lib.hid (by simp)
              have hcnt := HCNT.out
              clear hm
              go_wp2_with (at_builtin; go_loud (refine wpList_append_dir (d := ⟨lowL x, r⟩) (u := .slice (some ⟨g, b9, none⟩) q (c9 - 1)) rfl _ _ 24 rfl w.heap.size (HDV.out _ _) i0 _ Try.underlying24 hi hz0 hz1 hz2 rfl _ (cspP (ps.take k)) rfl hO9 hS9 _ rfl HS9.out hcnt hsz ?_); intro v11 w11 hO11 hb11 hst11)
              go_roundw
              case rel => exact ⟨k + 1, by omega, by go_num, Lib.hid (by rw [HE.out]; exact hO11), Lib.hid (HB10.out.trans hb11), Lib.hid (strSl_stay HC10.out hst11)⟩
              case measure => simp [intOf]; omega
          all_goals
            have hz6 : Below w4.heap.size w4 ((w5.setCell ⟨w4.heap.size, 0, none⟩ (.string Y)).setCell ⟨w4.heap.size, 1, none⟩ (.slice (some ⟨g, b9, none⟩) q (c9 - 1))) := below_setCells (g := w4.heap.size) (Nat.le_refl _) [.string Y, .slice (some ⟨g, b9, none⟩) q (c9 - 1)] 0 _ HZ.out
            have q0 : ((w5.setCell ⟨w4.heap.size, 0, none⟩ (.string Y)).setCell ⟨w4.heap.size, 1, none⟩ (.slice (some ⟨g, b9, none⟩) q (c9 - 1))).cell? ⟨w4.heap.size, 0, none⟩ = some (.string Y) := (Rw.storedAll HR6.out [.string Y, .slice (some ⟨g, b9, none⟩) q (c9 - 1)] rfl).cell rfl
            have q1 : ((w5.setCell ⟨w4.heap.size, 0, none⟩ (.string Y)).setCell ⟨w4.heap.size, 1, none⟩ (.slice (some ⟨g, b9, none⟩) q (c9 - 1))).cell? ⟨w4.heap.size, 1, none⟩ = some (.slice (some ⟨g, b9, none⟩) q (c9 - 1)) := (Rw.storedAll HR6.out [.string Y, .slice (some ⟨g, b9, none⟩) q (c9 - 1)] rfl).cell rfl
            obtain ⟨w6, hw6⟩ : ∃ w6 : World, w6 = ((w5.setCell ⟨w4.heap.size, 0, none⟩ (.string Y)).setCell ⟨w4.heap.size, 1, none⟩ (.slice (some ⟨g, b9, none⟩) q (c9 - 1))) := ⟨_, rfl⟩
            rw [← hw6] at hz6 q0 q1 ⊢
            have HO6 := Lib.hid (ownD_below HO3.out hz6)
            have HB6 := Lib.hid (below_then HB3.out hz6)
            have HC6 := Lib.hid (strSl_below HC3.out hz6)
            have HS6 := Lib.hid (strSl_below HSL.out hz6)
            have HQ1 := Lib.hid q1
            have HQ0 := Lib.hid q0
            clear hw6 hz6 hc0 hc1 c3 HR6 HZ d0 d1 f0 e1 f1
            go_wp2_with fail
            have hb7 : Below w6.heap.size w6 (w6.alloc (.cells #[.string Y] 9)) := below_more (Below.refl _ _) _
            refine (HFD.out _ _ _ (dirs_below (ownD_at HO6.out) hb7) (SliceAt.lit w6 #[.string Y] 9 1 1 rfl)).mono ?_
            rintro e w8 ⟨⟨fa, fm, fc, X2, rfl⟩, hb8⟩
            have hb9 : Below w6.heap.size w6 (w8.alloc (.cells #[.string X2, .slice fa fm fc] 30)) := below_more (below_then hb7 hb8) _
            have hr0 : (w8.alloc (.cells #[.string X2, .slice fa fm fc] 30)).cell? ⟨w4.heap.size, 0, none⟩ = some (.string Y) := cell_stays HQ0.out hb9
            have hr1 : (w8.alloc (.cells #[.string X2, .slice fa fm fc] 30)).cell? ⟨w4.heap.size, 1, none⟩ = some (.slice (some ⟨g, b9, none⟩) q (c9 - 1)) := cell_stays HQ1.out hb9
            have hO9 := ownD_below HO6.out hb9
            have HB10 := Lib.hid (below_then HB6.out hb9)
            have HC10 := Lib.hid (strSl_below HC6.out hb9)
            have hS9 := strSl_below HS6.out hb9
            clear hb7 hb8 hb9 q0 q1
            cases hm : cmetB (cspP (ps.take k)) (lowL x) with
            | true =>
              have HE : Hid (cspP (ps.take (k + 1)) = cspP (ps.take k)) := Lib.hid (by rw [HX.out, cadd_met HDO.out hm])
              have HO10 := Lib.hid hO9
              clear hm hO9 hS9 hr0 hr1
              go_wp2_with fail
              go_roundw
              case rel => exact ⟨k + 1, by omega, by go_num, Lib.hid (by rw [HE.out]; exact HO10.out), HB10, HC10⟩
              case measure => simp [intOf]; omega
            | false =>
              have HE : Hid (cspP (ps.take (k + 1)) = cspP (ps.take k) ++ [⟨lowL x, r⟩]) := Lib.hid (by rw [HX.out, cadd_new HDO.out hm])
              have hsz := HB10.out.size
              have HS9 : Hid (w8.heap.size + 1 = (w8.alloc (.cells #[.string X2, .slice fa fm fc] 30)).heap.size) := Lib.hid (by simp)
              have hcnt := HCNT.out
              clear hm
              go_wp2_with (at_builtin; go_loud (refine wpList_append_dir (d := ⟨lowL x, r⟩) (u := .slice (some ⟨g, b9, none⟩) q (c9 - 1)) rfl _ _ 24 rfl w.heap.size (HDV.out _ _) i0 _ Try.underlying24 hi hz0 hz1 hz2 rfl _ (cspP (ps.take k)) rfl hO9 hS9 _ rfl HS9.out hcnt hsz ?_); intro v11 w11 hO11 hb11 hst11)
              go_roundw
              case rel => exact ⟨k + 1, by omega, by go_num, Lib.hid (by rw [HE.out]; exact hO11), Lib.hid (HB10.out.trans hb11), Lib.hid (strSl_stay HC10.out hst11)⟩
              case measure => simp [intOf]; omega
      · have HA : Hid (ascB P.data.toList = false) := Lib.hid (by simpa using ha)
        have hd : dirO P.data.toList = none := by unfold dirO; rw [if_neg ha]
        have HE : Hid (cspP (ps.take (k + 1)) = cspP (ps.take k)) := Lib.hid (by rw [HX.out, cadd_none hd])
        clear ha hd hPs
        go_wp2_with fail
        refine (HBL.out _).mono ?_
        rintro e w3 ⟨⟨bv, rfl, hown3⟩, hb3⟩
        obtain ⟨ba, bc, rfl⟩ := own_len hown3
        have c3 : w3.cell? ⟨b, o + k, none⟩ = some (.string P) := cell_stays HC0.out hb3
        have HO3 := Lib.hid (ownD_below HO9.out hb3)
        have HB3 := Lib.hid (below_then HB9.out hb3)
        have HC3 := Lib.hid (strSl_below HC9.out hb3)
        clear hb3 hown3 c0
        go_wp2_with fail
        refine (HAS.out _).mono ?_
        rw [HA.out]
        rintro e w4 ⟨rfl, rfl⟩
        go_wp2_with fail
        go_roundw
        case rel => exact ⟨k + 1, by omega, by go_num, Lib.hid (by rw [HE.out]; exact HO3.out), HB3, HC3⟩
        case measure => simp [intOf]; omega
    · have HE : Hid (ps.take k = ps) := Lib.hid (List.take_of_length_le (by have := HNN.out; omega))
      go_wp2_with fail
      go_ret
      have h := HO9.out
      rw [HE.out] at h
      exact ⟨⟨_, rfl, h⟩, HB9.out⟩

end Go.Proofs.Ytceajdpjablfiaa
