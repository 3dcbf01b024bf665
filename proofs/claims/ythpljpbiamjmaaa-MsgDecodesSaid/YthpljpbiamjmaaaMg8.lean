/- Contracts: msg: the writer: entries, a snapshot. -/
import Derived.BigRegion
import Derived.Deep.RegionLaw
import Derived.Deep.AppendLies
import Derived.Deep.RegionHeld3
import Derived.Test.YthpljpbiamjmaaaProg
import Derived.Test.YthpljpbiamjmaaaKit
import Derived.Test.YthpljpbiamjmaaaRow
import Derived.Test.YthpljpbiamjmaaaRow2
import Derived.Test.YthpljpbiamjmaaaCod7
import Derived.Test.YthpljpbiamjmaaaFrm0
import Derived.Test.YthpljpbiamjmaaaFrm4
import Derived.Test.YthpljpbiamjmaaaFp
import Derived.Test.YthpljpbiamjmaaaNet0
import Derived.Test.YthpljpbiamjmaaaStp
import Derived.Test.YthpljpbiamjmaaaKp0
import Derived.Test.YthpljpbiamjmaaaKp3
import Derived.Test.YthpljpbiamjmaaaMg0
import Derived.Test.YthpljpbiamjmaaaMg6
import Derived.Test.YthpljpbiamjmaaaMg7
namespace Go.Proofs.Ythpljpbiamjmaaa
open Go.RowKit Go.Proofs

theorem MwrV_len {w w' : World} {g : Nat} {v : Value} {bs : List UInt8} (h : MWrV w w' g v bs) : ∃ v1, MWrAt w' g v1 bs ∧ (∀ k, v1.ownBlock = some k → v.ownBlock = some k ∨ w.heap.size ≤ k) ∧ Kept (Foot g v) w w' := h

theorem entsW_len : ∀ l : List EntM, (∀ e ∈ l, entB e = true) → (entsW l).length ≤ 5000 * l.length
  | [], _ => by simp [entsW]
  | e :: l, h => by
    have ih := entsW_len l (fun x hx => h x (by simp [hx]))
    have he := h e (by simp)
    unfold entB memsB at he
    simp only [Bool.and_eq_true, decide_eq_true_eq] at he
    have h1 : (entW e).length ≤ 5000 := by
      unfold entW txtW lstW
      simp only [List.length_append, intsW_len, layS_len, size_data, List.length_cons, List.length_nil]
      omega
    rw [entsW_cons, List.length_append, List.length_cons]
    omega

/-- The writer's call at a world that is the one of before and new blocks: its foot, its row of ints. -/
theorem mints_at {w W : World} {g : Nat} {v v1 : Value} {bs : List UInt8} (hv : ∀ k, v1.ownBlock = some k → v.ownBlock = some k ∨ w.heap.size ≤ k) (hk : Kept (Foot g v) w W) (h : MWrAt W g v1 bs) {l : List Int} {cs : Array Value} (h0 : natsB l = true) (hs : smallI l) (hl : l.length ≤ 1000000) (hcs : cs.toList = l.map kiV) (hn : bs.length + 8 * l.length ≤ 1000000000) {b n c : Nat} (hb : b = W.heap.size) (hln : n = l.length) :
    Calls Try.prog 38 #[.pointer (some ⟨g, 0, none⟩), .slice (some ⟨b, 0, none⟩) n c] (W.alloc (.cells cs 3)) fun e w' => e = .returned (.tuple #[]) ∧ MWrV w w' g v (bs ++ intsW l) ∧ Kept (Foot g v1) W w' := by
  have hb1 : Below W.heap.size W (W.alloc (.cells cs 3)) := below_more (Below.refl _ _) _
  have h1 := MwrAt_below h hb1
  refine (mints_any h1 (fun w' hk' => ints_lit hb hln hl hcs (fun k hk2 => MwrAt_lt h hk2) hk') h0 hs hn).mono ?_
  rintro e w' ⟨rfl, hv'⟩
  refine ⟨rfl, MwrV_then hv (kept_then (G := fun _ => False) hk (kept_below hb1) (fun _ h => h.elim)) hv', ?_⟩
  obtain ⟨_, _, _, hk2⟩ := hv'
  exact kept_then (kept_below hb1) hk2 (fun x hx => .inl hx)

theorem mtext_at {w W : World} {g : Nat} {v v1 : Value} {bs : List UInt8} (hv : ∀ k, v1.ownBlock = some k → v.ownBlock = some k ∨ w.heap.size ≤ k) (hk : Kept (Foot g v) w W) (h : MWrAt W g v1 bs) (d : ByteArray) (hn : bs.length + d.size ≤ 900000000) :
    Calls Try.prog 50 #[.pointer (some ⟨g, 0, none⟩), .string d] W fun e w' => e = .returned (.tuple #[]) ∧ MWrV w w' g v (bs ++ txtW d) ∧ Kept (Foot g v1) W w' := by
  refine (mtext_any h d hn).mono ?_
  rintro e w' ⟨rfl, hv'⟩
  refine ⟨rfl, MwrV_then hv hk hv', ?_⟩
  obtain ⟨_, _, _, hk2⟩ := hv'
  exact hk2

theorem mlist_at {w W : World} {g : Nat} {v v1 : Value} {bs : List UInt8} (hv : ∀ k, v1.ownBlock = some k → v.ownBlock = some k ∨ w.heap.size ≤ k) (hk : Kept (Foot g v) w W) (h : MWrAt W g v1 bs) {lv : Value} {l : List Int} (hp : ∀ w', Kept (Foot g v) w w' → IntsAt w' lv l) (h0 : natsB l = true) (hs : smallI l) (hn : bs.length ≤ 900000000) :
    Calls Try.prog 51 #[.pointer (some ⟨g, 0, none⟩), lv] W fun e w' => e = .returned (.tuple #[]) ∧ MWrV w w' g v (bs ++ lstW l) ∧ Kept (Foot g v1) W w' := by
  refine (mlist_any h (fun w' hk' => hp w' (kept_next hv hk hk')) h0 hs hn).mono ?_
  rintro e w' ⟨rfl, hv'⟩
  refine ⟨rfl, MwrV_then hv hk hv', ?_⟩
  obtain ⟨_, _, _, hk2⟩ := hv'
  exact hk2

theorem myes_at {w W : World} {g : Nat} {v v1 : Value} {bs : List UInt8} (hv : ∀ k, v1.ownBlock = some k → v.ownBlock = some k ∨ w.heap.size ≤ k) (hk : Kept (Foot g v) w W) (h : MWrAt W g v1 bs) (y : Bool) (hn : bs.length ≤ 900000000) :
    Calls Try.prog 39 #[.pointer (some ⟨g, 0, none⟩), .bool y] W fun e w' => e = .returned (.tuple #[]) ∧ MWrV w w' g v (bs ++ yesW y) ∧ Kept (Foot g v1) W w' := by
  refine (myes_any h y (by omega)).mono ?_
  rintro e w' ⟨rfl, hv'⟩
  refine ⟨rfl, MwrV_then hv hk hv', ?_⟩
  obtain ⟨_, _, _, hk2⟩ := hv'
  exact hk2

theorem MwrV_drew {w w' : World} {g : Nat} {v : Value} {bs : List UInt8} (h : MWrV w w' g v bs) : ∃ v1, MWrAt w'.drew g v1 bs ∧ (∀ k, v1.ownBlock = some k → v.ownBlock = some k ∨ w.heap.size ≤ k) ∧ Kept (Foot g v) w w'.drew := by
  obtain ⟨v1, h1, h2, h3⟩ := h
  have hd : Below w'.heap.size w' w'.drew := below_draws (Below.refl _ _) ⟨1, rfl⟩
  exact ⟨v1, MwrAt_below h1 hd, h2, kept_then (G := fun _ => False) h3 (kept_below hd) (fun _ h => h.elim)⟩

theorem rw_drew {w : World} {gE : Nat} {T : TypeId} {cs : List Value} (h : Rw w 0 gE T cs) : Rw w.drew 0 gE T cs := Rw.below h (below_draws (Below.refl _ _) ⟨1, rfl⟩)

theorem intsAt_z {w : World} {v : Value} {l : List Int} (h : IntsAt w v l) : IntsZ w (fun k => k < w.heap.size) v l := by
  refine ⟨h.1, ?_⟩
  rcases h.2 with k | ⟨ad, c, hv, k⟩
  · exact .inl k
  · refine .inr ⟨ad, c, hv, ?_⟩
    rcases k with k | ⟨b, o, ha, k⟩
    · exact .inl k
    · by_cases hl : l = []
      · exact .inl hl
      · obtain ⟨x, hx⟩ : ∃ x, l[0]? = some x := ⟨_, List.getElem?_eq_getElem (List.length_pos_iff.2 hl)⟩
        exact .inr ⟨b, o, ha, block_of_cell (k 0 x hx), k⟩

theorem ents_block {w : World} {b o : Nat} {es : List EntM} (hl : es ≠ []) (h : ∀ (j : Nat) (e : EntM), es[j]? = some e → ∃ u, w.rangeAt b (o + j * 5) (cellsE ⟨e, u⟩)) : b < w.heap.size := by
  obtain ⟨x, hx⟩ : ∃ x, es[0]? = some x := ⟨_, List.getElem?_eq_getElem (List.length_pos_iff.2 hl)⟩
  obtain ⟨u, hu⟩ := h 0 x hx
  exact block_of_cell (hu 0 _ rfl)

theorem entsAt_z {w : World} {v : Value} {es : List EntM} (h : EntsAt w v es) : EntsZ w (fun k => k < w.heap.size) v es := by
  obtain ⟨A, C, rfl, h⟩ := h
  refine ⟨A, C, rfl, ?_⟩
  rcases h with h | ⟨b, o, ha, h⟩
  · exact .inl h
  · by_cases hl : es = []
    · exact .inl hl
    · exact .inr ⟨b, o, ha, ents_block hl (fun j e hj => by obtain ⟨u, h1, _⟩ := h j e hj; exact ⟨u, h1⟩), fun j e hj => by
        obtain ⟨u, h1, h2⟩ := h j e hj
        exact ⟨u, h1, intsAt_z h2⟩⟩

theorem entsZ_less {w : World} {Z Z' : Nat → Prop} {v : Value} {es : List EntM} (h : EntsZ w Z v es) (hZ : ∀ k, k < w.heap.size → Z k → Z' k) : EntsZ w Z' v es := by
  obtain ⟨A, C, rfl, h⟩ := h
  refine ⟨A, C, rfl, ?_⟩
  rcases h with h | ⟨b, o, ha, hz, h⟩
  · exact .inl h
  · by_cases hl : es = []
    · exact .inl hl
    · exact .inr ⟨b, o, ha, hZ b (ents_block hl (fun j e hj => by obtain ⟨u, h1, _⟩ := h j e hj; exact ⟨u, h1⟩)) hz, fun j e hj => by
        obtain ⟨u, h1, h2⟩ := h j e hj
        exact ⟨u, h1, intsZ_less h2 hZ⟩⟩

theorem entsZ_cell {w : World} {Z : Nat → Prop} {A : Option Addr} {n C : Nat} {es : List EntM} (h : EntsZ w Z (.slice A n C) es) {i : Nat} {x : EntM} (hx : es[i]? = some x) : ∃ b o u, A = some ⟨b, o, none⟩ ∧ Z b ∧ w.rangeAt b (o + i * 5) (cellsE ⟨x, u⟩) ∧ IntsZ w Z u x.ms := by
  obtain ⟨A2, C2, hv, h⟩ := h
  injection hv with e1 _ _
  rcases h with h | ⟨b, o, ha, hz, h⟩
  · rw [h] at hx; simp at hx
  · obtain ⟨u, h1, h2⟩ := h i x hx
    exact ⟨b, o, u, by rw [e1, ha], hz, h1, h2⟩

theorem range_kept {w w' : World} {F : Nat → Prop} {b o : Nat} {xs : List Value} (h : w.rangeAt b o xs) (hk : Kept F w w') (hb : ¬ F b) : w'.rangeAt b o xs := fun j v hj => cell_kept (h j v hj) (hk.blk b (block_of_cell (h j v hj)) hb)

theorem foot_off {w : World} {g gE : Nat} {v : Value} {bs : List UInt8} {T : TypeId} {cs : List Value} (h : MWrAt w g v bs) (hr : Rw w 0 gE T cs) (hT : T ≠ 5) (hg : gE ≠ g) : ¬ Foot g v gE := fun hf => hf.elim (fun e => hg e) (fun hk => own_rw h.2 hr (fun e => hT e.symm) hk)

set_option maxRecDepth 100000 in
set_option maxHeartbeats 4000000 in
theorem mentries_any {w : World} {g : Nat} {v : Value} {bs : List UInt8} (h : MWrAt w g v bs) {lv : Value} {es : List EntM} (hp : EntsZ w (fun k => ¬ Foot g v k) lv es) (h0 : ∀ e ∈ es, entB e = true) (hs : ∀ e ∈ es, smallE e) (hl : es.length ≤ 8) (hn : bs.length ≤ 100000000) :
    Calls Try.prog 40 #[.pointer (some ⟨g, 0, none⟩), lv] w fun e w' => e = .returned (.tuple #[]) ∧ MWrV w w' g v (bs ++ (layS 1 es.length ++ entsW es)) := by
  obtain ⟨A, C, rfl, _⟩ := id hp
  obtain ⟨n, hnn⟩ : ∃ n, n = es.length := ⟨_, rfl⟩
  rw [← hnn] at hp ⊢
  have HNM := Lib.hid (mnumber_any h 1 n (by decide) (by omega) (by omega))
  have HN := Lib.hid hn
  have HP := Lib.hid hp
  have HNN := Lib.hid hnn
  have HL := Lib.hid hl
  have H0 := Lib.hid h0
  have HS := Lib.hid hs
  have HG := Lib.hid (Rw.size h.1)
  have hz := zero_cells Try.infoEntz
  clear h hn hp hnn hl h0 hs
  have hen1 : Enters Try.prog 38 := enters_of Try.func38 (by kernel_rfl) rfl
  have hen2 : Enters Try.prog 50 := enters_of Try.func50 (by kernel_rfl) rfl
  have hen3 : Enters Try.prog 51 := enters_of Try.func51 (by kernel_rfl) rfl
  go_enter Try.func40, Try.ntmps40
  go_wp2_with fail
  refine (HNM.out).mono ?_
  rintro e w0 ⟨rfl, hv0⟩
  have HV0 := Lib.hid hv0
  clear hv0 HNM
  go_wp2_with fail
  go_loopw [14] (fun iv wr => ∃ (i : Nat), i ≤ n ∧ iv = .int .i64 i ∧ Hid (MWrV w wr g v (bs ++ layS 1 n ++ entsW (es.take i)))) (fun iv _ => n - (intOf iv).toNat)
  case atStart => exact ⟨0, Nat.zero_le _, rfl, Lib.hid (by have := HV0.out; simpa [entsW] using this)⟩
  case round =>
    obtain ⟨i, hi', rfl, HR⟩ := hrel
    obtain ⟨w1, hw1⟩ : ∃ w1 : World, w1 = wr := ⟨_, rfl⟩
    subst hw1
    by_cases hlt : i < n
    · obtain ⟨x, hx⟩ : ∃ x, es[i]? = some x := ⟨_, List.getElem?_eq_getElem (by rw [← HNN.out]; exact hlt)⟩
      obtain ⟨v1, hN1, hv1, hk1⟩ := HR.out
      obtain ⟨b, o, u, rfl, hzb, hr0, huz⟩ := entsZ_cell HP.out hx
      have hr := range_kept hr0 hk1 hzb
      have hu := intsZ_at huz
      have hxb := H0.out x (List.mem_of_getElem? hx)
      have hxs := HS.out x (List.mem_of_getElem? hx)
      have HTK := Lib.hid (show entsW (es.take (i + 1)) = entsW (es.take i) ++ entW x by rw [take_succ_of hx, entsW_snoc])
      have HLEN : Hid ((bs ++ layS 1 n ++ entsW (es.take i)).length ≤ 200000000) := Lib.hid (by
        have h1 := entsW_len (es.take i) (fun e he => H0.out e (List.mem_of_mem_take he))
        rw [List.length_append, List.length_append, layS_len]
        rw [List.length_take] at h1
        have := HN.out
        have := HL.out
        omega)
      obtain ⟨ua, uc, rfl⟩ := intsAt_len hu
      obtain ⟨xi, xt, xk, xd, xm⟩ := x
      dsimp only at hr hu huz
      have HUZ := Lib.hid huz
      have hxp : natsB [xi, xt, xk] = true ∧ xd.size ≤ 4000 ∧ xm.length ≤ 9 ∧ natsB xm = true := by
        unfold entB memsB at hxb
        simp only [Bool.and_eq_true, decide_eq_true_eq] at hxb
        exact ⟨hxb.1.1, hxb.1.2, hxb.2.1, hxb.2.2⟩
      obtain ⟨M, hM⟩ : ∃ M, M = xm.length := ⟨_, rfl⟩
      have d0 : w1.cell? ⟨b, o + i * 5, none⟩ = some (.int .i64 xi) := hr 0 _ rfl
      have d1 : w1.cell? ⟨b, o + i * 5 + 1, none⟩ = some (.int .i64 xt) := hr 1 _ rfl
      have d2 : w1.cell? ⟨b, o + i * 5 + 2, none⟩ = some (.int .i64 xk) := hr 2 _ rfl
      have d3 : w1.cell? ⟨b, o + i * 5 + 3, none⟩ = some (.string xd) := hr 3 _ rfl
      have d4 : w1.cell? ⟨b, o + i * 5 + 4, none⟩ = some (.slice ua M uc) := by rw [hM]; exact hr 4 _ rfl
      have hy : (i : Int) < (n : Int) := by omega
      have hi1 : (i : Int) < 9 := by have := HL.out; have := HNN.out; omega
      have HI := Lib.hid hlt
      have HX := Lib.hid hx
      have HXP := Lib.hid hxp
      have HXS := Lib.hid hxs
      have HMM := Lib.hid hM
      have hbE := below_more (Below.refl _ w1) (.cells #[.int .i64 xi, .int .i64 xt, .int .i64 xk, .string xd, .slice ua M uc] 46)
      obtain ⟨gE, hgE⟩ : ∃ gE, gE = w1.heap.size := ⟨_, rfl⟩
      have hrE : Rw (w1.alloc (.cells #[.int .i64 xi, .int .i64 xt, .int .i64 xk, .string xd, .slice ua M uc] 46)) 0 gE 46 [.int .i64 xi, .int .i64 xt, .int .i64 xk, .string xd, .slice ua M uc] := by rw [hgE]; exact Rw.alloc w1 _ _ (Nat.zero_le _)
      have hne : gE ≠ g := by have := Rw.size hN1.1; omega
      have HGE := Lib.hid hgE
      have HNE := Lib.hid hne
      have HN1 := Lib.hid hN1
      have HV1 := Lib.hid hv1
      have HK1 := Lib.hid hk1
      have HRE0 := Lib.hid hrE
      have HBE := Lib.hid hbE
      clear huz hr0 hzb hM hgE hne hN1 hv1 hk1 hrE hbE hr hu hx hlt hi' hxb hxp hxs
      go_wp2_with (first | (refine wpList_alloc_z rfl 46 rfl #[.int .i64 0, .int .i64 0, .int .i64 0, .string ⟨#[]⟩, .slice none 0 0] hz ?_) | fail)
      rw [← HGE.out]
      have hbE := HBE.out
      have hrE := HRE0.out
      have hN1 := HN1.out
      have hv1 := HV1.out
      have hk1 := HK1.out
      obtain ⟨wE, hwE⟩ : ∃ wE, wE = w1.alloc (.cells #[.int .i64 xi, .int .i64 xt, .int .i64 xk, .string xd, .slice ua M uc] 46) := ⟨_, rfl⟩
      rw [← hwE] at hbE hrE ⊢
      have hdE : Below wE.heap.size wE wE.drew := below_draws (Below.refl _ _) ⟨1, rfl⟩
      have hkE : Kept (Foot g v) w wE.drew := kept_then (G := fun _ => False) hk1 (kept_below (below_then hbE hdE)) (fun _ h => h.elim)
      have hN2 : MWrAt wE.drew g v1 (bs ++ layS 1 n ++ entsW (es.take i)) := MwrAt_below hN1 (below_then hbE hdE)
      have HC1 := Lib.hid (mints_at hv1 hkE hN2 (l := [xi, xt, xk]) (cs := #[.int .i64 xi, .int .i64 xt, .int .i64 xk]) HXP.out.1 HXS.out.1 (by simp) rfl (by have := HLEN.out; show _ + 8 * 3 ≤ _; omega) (b := wE.heap.size) (n := 3) (c := 3) rfl rfl)
      have c0 := Rw.cell hrE (j := 0) (v := .int .i64 xi) rfl
      have c1 := Rw.cell hrE (j := 1) (v := .int .i64 xt) rfl
      have c2 := Rw.cell hrE (j := 2) (v := .int .i64 xk) rfl
      have HRE := Lib.hid (Rw.below hrE hdE)
      have HOF := Lib.hid (foot_off hN2 (Rw.below hrE hdE) (by decide) HNE.out)
      clear hbE hrE hwE hdE hkE hN2 hN1 hv1 hk1 d0 d1 d2 d3 d4
      go_region_law
        (first
          | (refine step_call rfl 38 _ _ rfl #[.pointer (some ⟨g, 0, none⟩), .slice (some ⟨wE.heap.size, 0, none⟩) 3 3] (by simp [go_sem]) hen1 HC1.out ?_; rintro e w2 ⟨rfl, hv2, hk2⟩; refine ⟨_, rfl, ?_⟩; have HV2 := Lib.hid hv2; have HK2 := Lib.hid hk2; clear hv2 hk2))
      all_goals
        have hr2 := rw_kept HRE.out HK2.out HOF.out
        have c3 := Rw.cell hr2 (j := 3) (v := .string xd) rfl
        obtain ⟨v2, hN2, hf2, hk2⟩ := MwrV_drew HV2.out
        have HC2 := Lib.hid (mtext_at hf2 hk2 hN2 xd (by rw [List.length_append, intsW_len]; have := HLEN.out; have := HXP.out.2.1; show _ + 8 * 3 + _ ≤ _; omega))
        have HOF2 := Lib.hid (foot_off hN2 (rw_drew hr2) (by decide) HNE.out)
        have HR2 := Lib.hid (rw_drew hr2)
        clear hr2 hN2 hf2 hk2
        go_wp2_with fail
        go_region_law
          (first
            | (refine step_call rfl 50 _ _ rfl #[.pointer (some ⟨g, 0, none⟩), .string xd] (by simp [go_sem]) hen2 HC2.out ?_; rintro e w3 ⟨rfl, hv3, hk3⟩; refine ⟨_, rfl, ?_⟩; have HV3 := Lib.hid hv3; have HK3 := Lib.hid hk3; clear hv3 hk3))
        all_goals
          have hr3 := rw_kept HR2.out HK3.out HOF2.out
          have c4 := Rw.cell hr3 (j := 4) (v := .slice ua M uc) rfl
          obtain ⟨v3, hN3, hf3, hk3⟩ := MwrV_drew HV3.out
          have hpi : ∀ w', Kept (Foot g v) w w' → IntsAt w' (.slice ua M uc) xm := fun w' hk => by
            rw [HMM.out]
            exact intsZ_at (intsZ_keep HUZ.out (fun k hk1 hz => hk.blk k hk1 hz))
          have HC3 := Lib.hid (mlist_at hf3 hk3 hN3 hpi HXP.out.2.2.2 HXS.out.2 (by have h1 := HLEN.out; have h2 := HXP.out.2.1; unfold txtW; simp only [List.length_append, intsW_len, layS_len, size_data, List.length_cons, List.length_nil] at h1 ⊢; omega))
          clear hr3 hN3 hf3 hk3 hpi
          go_wp2_with fail
          go_region_law
            (first
              | (refine step_call rfl 51 _ _ rfl #[.pointer (some ⟨g, 0, none⟩), .slice ua M uc] (by simp [go_sem]) hen3 HC3.out ?_; rintro e w4 ⟨rfl, hv4, hk4⟩; refine ⟨_, rfl, ?_⟩; have HV4 := Lib.hid hv4; clear hv4 hk4))
          all_goals
            go_wp2_with fail
            go_roundw
            case rel =>
              refine ⟨i + 1, HI.out, by go_num, Lib.hid ?_⟩
              rw [HTK.out, ← List.append_assoc]
              have h9 := HV4.out
              simp only [List.append_assoc] at h9 ⊢
              exact h9
            case measure => have := HI.out; simp [intOf]; omega
    · have hyk : ¬ (i : Int) < (n : Int) := by omega
      have htk : es.take i = es := List.take_of_length_le (by rw [← HNN.out]; omega)
      have HR2 := Lib.hid (show MWrV w w1 g v (bs ++ (layS 1 n ++ entsW es)) by have := HR.out; rw [htk, List.append_assoc] at this; exact this)
      clear hlt htk hi'
      go_wp2_with fail
      go_end0
      exact ⟨rfl, HR2.out⟩

end Go.Proofs.Ythpljpbiamjmaaa
