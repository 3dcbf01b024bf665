/- Contracts: the reference disk's Append. -/
import Derived.BigRegion
import Derived.BigQuiet
import Derived.Deep.RegionHeld3
import Derived.Deep.RegionLaw
import Derived.Maps.AppendAt
import Derived.Test.YtfiocghgjjandaaProg
import Derived.Test.YtfiocghgjjandaaKit
import Derived.Test.YtfiocghgjjandaaInfo
import Derived.Test.YtfiocghgjjandaaRow
import Derived.Test.YtfiocghgjjandaaCod7
import Derived.Test.YtfiocghgjjandaaCod9
import Derived.Test.YtfiocghgjjandaaJoin
import Derived.Test.YtfiocghgjjandaaFrm4
import Derived.Test.YtfiocghgjjandaaFrm6
import Derived.Test.YtfiocghgjjandaaFrm8
import Derived.Test.YtfiocghgjjandaaFrm9
import Derived.Test.YtfiocghgjjandaaFp
import Derived.Test.YtfiocghgjjandaaRdk0
import Derived.Test.YtfiocghgjjandaaDsk0
import Derived.Test.YtfiocghgjjandaaDsk1
import Derived.Test.YtfiocghgjjandaaDsk6
import Derived.Test.YtfiocghgjjandaaDsk7
import Derived.Test.YtfiocghgjjandaaDsk12
import Derived.Test.YtfiocghgjjandaaDsk17
import Derived.Test.YtfiocghgjjandaaRfd0
import Derived.Test.YtfiocghgjjandaaRfd4
namespace Go.Proofs.Ytfiocghgjjandaa
open Go.RowKit Go.Proofs

theorem take_sum {rs : List RecF} {k : Nat} {r : RecF} (h : rs[k]? = some r) : sizeM ((rs.take (k + 1)).map (·.f)) = sizeM ((rs.take k).map (·.f)) + r.f.b.length := by
  rw [List.take_add_one, h]
  unfold sizeM
  simp

theorem take_sum_le (rs : List RecF) (k : Nat) : sizeM ((rs.take k).map (·.f)) ≤ sizeM (rs.map (·.f)) := by
  have e : rs.map (·.f) = (rs.take k).map (·.f) ++ (rs.drop k).map (·.f) := by rw [← List.map_append, List.take_append_drop]
  rw [e]
  unfold sizeM
  rw [List.map_append, List.sum_append]
  exact Nat.le_add_right _ _

theorem rapp_new {w w3 w' : World} {Y : Nat → Prop} {h : Nat} {D : DiskM} {L : Value} {rs : List RecF} {X : Nat → Prop} {s : ByteArray} {l : List UInt8} {v' : Value} {M : Nat} (hM : M = l.length) (H : RefR w3 Y h D L rs X) (hk : Kept Y w w3)
    (ho : w'.ownsRow w3.heap.size 5 1 v' (0 + l.length) (([] : List UInt8).map byteV ++ l.map byteV)) (hg : (w3.alloc (.cells #[] 5)).grownBy w' (Value.slice (some ⟨w3.heap.size, 0, none⟩) 0 0).ownBlock) (hl : rs.length ≤ 64) (hs : SortM D.fs) (hp : ∀ f ∈ D.fs, f.name ≠ s.data.toList) :
    ∃ a5 c5, v' = .slice a5 M c5 ∧ (Calls Try.prog 47 #[.pointer (some ⟨h, 0, none⟩), .agg #[.string s, .slice a5 M c5, .int .i64 0]] w' fun e w5 => e = .returned (.tuple #[]) ∧ RefI w5 (fun k => (Y k ∨ (w3.heap.size ≤ k ∧ k < w'.heap.size)) ∨ (w'.heap.size ≤ k ∧ k < w5.heap.size)) h { D with fs := putM ⟨s.data.toList, l, 0⟩ D.fs } ∧ Kept (fun k => Y k ∨ (w3.heap.size ≤ k ∧ k < w'.heap.size)) w' w5) ∧ Kept Y w w' ∧ (w.heap.size ≤ w3.heap.size ∧ w3.heap.size ≤ w'.heap.size) := by
  have hbel : Below w3.heap.size w3 w' := (below_more (Below.refl w3.heap.size w3) _).grown hg (by simp) (fun k hk => by simp [Value.ownBlock] at hk; omega)
  have hown2 : w'.ownsRow w3.heap.size 5 1 v' l.length (l.map byteV) := by simpa using ho
  have H4 := refR_newX H hbel
  have hbz : ByteZ w' (fun k => X k ∨ (w3.heap.size ≤ k ∧ k < w'.heap.size)) v' l := byteZ_own hown2 (fun k hk => .inr (World.ownsRow.lt hown2 k hk))
  have hP := rput_tw H4 ⟨⟨s.data.toList, l, 0⟩, v'⟩ hbz hl hs hp
  rw [xV_eq] at hP
  obtain ⟨a5, c5, rfl⟩ := own_len hown2
  rw [← hM] at hP
  exact ⟨a5, c5, by rw [hM], hP, kept_trans hk (kept_below hbel), hk.size, hbel.size⟩

set_option maxRecDepth 100000 in
set_option maxHeartbeats 8000000 in
theorem rappend_any {w : World} {Y : Nat → Prop} {h : Nat} {C : CodM} (H : RTw w Y h C) (hok : COk C) (hops : C.ops < 1000000) (s : ByteArray) (v : Value) (l : List UInt8) (hb : ∀ w', Kept Y w w' → ByteSl w' w'.heap.size v l) (hl : l.length < 1000000) :
    Calls Try.prog 15 #[.pointer (some ⟨h, 0, none⟩), .string s, v] w fun e w' => e = .returned (.int .i64 (appM C s.data.toList l).1) ∧ RTwV w w' Y h (appM C s.data.toList l).2 := by
  obtain ⟨D, T, L, rs, X, R0⟩ := H
  obtain ⟨hgo, T1⟩ := twin_tick T (by omega)
  have hfs := R0.fs
  have hrl : rs.length ≤ 64 := by have := hok.len; rw [← T.fs, ← hfs, List.length_map] at this; exact this
  have hyh := R0.yh
  have HO := Lib.hid (roff_any R0 (by have := T.n; omega))
  obtain ⟨va, vc, rfl, _, _⟩ := byteSl_len (hb w (kept_refl _ _))
  obtain ⟨M, hM⟩ : ∃ M, M = l.length := ⟨_, rfl⟩
  rw [← hM] at hb hl ⊢
  have HB := Lib.hid hb
  have HM := Lib.hid hM
  obtain ⟨bo, hbo⟩ : ∃ bo, bo = offM D := ⟨_, rfl⟩
  rw [← hbo] at HO
  cases bo
  case true =>
    have HR : Hid (appM C s.data.toList l = (6, tickM C)) := Lib.hid (by unfold appM; rw [if_pos (by rw [hgo, ← hbo]; rfl)])
    rw [HR.out]
    clear hb hM hl hrl hfs hbo hgo
    go_enter Try.func15, Try.ntmps15
    go_wp2_with fail
    refine HO.out.mono ?_
    rintro e w1 ⟨rfl, H1, K1⟩
    go_wp2
    go_ret
    exact ⟨rfl, rtwV_same T1 H1 K1⟩
  case false =>
    have hgoes : goesM C = true := by rw [hgo, ← hbo]; rfl
    obtain ⟨bn, hbn⟩ : ∃ bn, bn = nameB s.data.toList := ⟨_, rfl⟩
    cases bn
    case false =>
      have HR : Hid (appM C s.data.toList l = (1, tickM C)) := Lib.hid (by unfold appM; rw [if_neg (by rw [hgoes]; decide), if_pos hbn.symm])
      rw [HR.out]
      have HBAD : Hid (∀ W, Calls Try.prog 45 #[.string s] W fun e w' => e = .returned (.bool true) ∧ w' = W) := Lib.hid (fun W => by have := rbad_any s W; rw [← hbn] at this; exact this)
      clear hb hM hl hrl hfs hbn hbo hgo hgoes
      go_enter Try.func15, Try.ntmps15
      go_wp2_with fail
      refine HO.out.mono ?_
      rintro e w1 ⟨rfl, H1, K1⟩
      have HT1 := Lib.hid (rtwV_same T1 H1 K1)
      clear H1 K1
      go_wp2_with fail
      refine (HBAD.out w1).mono ?_
      rintro e w2 ⟨rfl, rfl⟩
      go_wp2
      go_ret
      exact ⟨rfl, HT1.out⟩
    case true =>
      have HBAD : Hid (∀ W, Calls Try.prog 45 #[.string s] W fun e w' => e = .returned (.bool false) ∧ w' = W) := Lib.hid (fun W => by have := rbad_any s W; rw [← hbn] at this; exact this)
      obtain ⟨pm, hpm⟩ : ∃ pm, pm = posM D.fs s.data.toList := ⟨_, rfl⟩
      have HPI : Hid (posI D.op.fs s.data.toList = posO pm) := Lib.hid (by rw [hpm]; exact posI_o _ _)
      have HF : Hid (∀ w1, RefR w1 Y h D.op L rs X → _) := Lib.hid (fun w1 (H1 : RefR w1 Y h D.op L rs X) => rfind_any H1 s (by omega))
      obtain ⟨la, lc, hLL, hla, _⟩ := own_addr R0.own
      subst hLL
      obtain ⟨n, hn⟩ : ∃ n, n = rs.length := ⟨_, rfl⟩
      obtain ⟨tot, htot⟩ : ∃ tot, tot = sizeM (rs.map (·.f)) := ⟨_, rfl⟩
      have htr : tot ≤ C.room := by have := hok.size; rw [← T.fs, ← hfs, ← htot] at this; exact this
      have hroom := hok.room
      have hTR := T.room
      have HN := Lib.hid hn
      have HLA := Lib.hid hla
      have HT1 := Lib.hid T1
      have HTOT := Lib.hid htot
      have HFS := Lib.hid hfs
      have HTR := Lib.hid htr
      have HSO := Lib.hid hok.sort
      have HTF := Lib.hid T.fs
      have HPM := Lib.hid hpm
      obtain ⟨full, hfull⟩ : ∃ full, full = fullM C s.data.toList M := ⟨_, rfl⟩
      have HFU : Hid (full = ((pm.isNone && decide (64 ≤ n)) || !decide (tot + M ≤ C.room))) := Lib.hid (by
        rw [hfull]
        unfold fullM
        rw [← T.fs, findM_pos, ← hpm, ← hfs, ← htot, List.length_map, ← hn]
        cases pm with
        | none => rfl
        | some k =>
          obtain ⟨f, hf, _⟩ := pos_find hpm.symm
          rw [← hfs] at hf
          simp only [Option.bind_some, hf, Option.isNone_some])
      have HAPP : Hid (appM C s.data.toList l = if full = true then (3, tickM C) else (0, withM (tickM C) (addM C.fs s.data.toList l))) := Lib.hid (by
        unfold appM
        rw [if_neg (by rw [hgoes]; decide), if_neg (by rw [← hbn]; decide), ← HM.out, ← hfull])
      obtain ⟨R, hR⟩ : ∃ R, R = appM C s.data.toList l := ⟨_, rfl⟩
      rw [← hR]
      have HRR : Hid (R = if full = true then (3, tickM C) else (0, withM (tickM C) (addM C.fs s.data.toList l))) := Lib.hid (hR.trans HAPP.out)
      clear hR
      obtain ⟨room, hrm⟩ : ∃ room, room = C.room := ⟨_, rfl⟩
      rw [← hrm] at htr hroom hTR
      have HRM := Lib.hid hrm
      rw [← hn] at hrl
      have HOK := Lib.hid hok
      have HHB := Lib.hid hb
      clear hbo hbn hgo hgoes hfull HAPP hpm htot hfs hla T T1 hok R0 hrm hb hM
      go_enter Try.func15, Try.ntmps15
      go_wp2_with fail
      refine HO.out.mono ?_
      rintro e w1 ⟨rfl, H1, K1⟩
      have HH1 := Lib.hid H1
      have HK1 := Lib.hid K1
      have HF1 := Lib.hid (HF.out w1 H1)
      clear H1 K1 HF HO
      go_wp2_with fail
      refine (HBAD.out w1).mono ?_
      rintro e w2 ⟨rfl, rfl⟩
      clear HBAD
      rw [HPI.out] at HF1
      go_wp2_with fail
      refine (HF1.out).mono ?_
      rintro e w3 ⟨rfl, rfl⟩
      clear HF1
      have c1 : w3.cell? ⟨h, 1, none⟩ = some (.slice la n lc) := by rw [HN.out]; exact Rw.cell HH1.out.rwd rfl
      have c0 : w3.cell? ⟨h, 0, none⟩ = some (.int .i64 room) := by have := Rw.cell HH1.out.rwd (j := 0) rfl; rw [this]; show some (Value.int .i64 D.room) = _; rw [hTR]
      have hn64 : (n : Int) ≤ 64 := by omega
      have hMb : (M : Int) < 1000000 := by omega
      have hrb : (room : Int) ≤ 4194304 := by omega
      have htb : (tot : Int) ≤ (room : Int) := by omega
      clear hTR hroom htr hrl hn
      go_wp2_with fail
      go_loop [8, 9] (fun z i => ∃ k t : Nat, k ≤ n ∧ i = .int .i64 k ∧ z = .int .i64 t ∧ Hid (t = sizeM ((rs.take k).map (·.f)))) (fun _ i => n - (intOf i).toNat)
      case atStart => exact ⟨0, 0, Nat.zero_le _, rfl, rfl, Lib.hid (by simp [sizeM])⟩
      case round =>
        obtain ⟨k, t, hk, rfl, rfl, HTK⟩ := hrel
        by_cases hlt : k < n
        · obtain ⟨r, hr⟩ : ∃ r, rs[k]? = some r := ⟨_, List.getElem?_eq_getElem (by rw [← HN.out]; exact hlt)⟩
          obtain ⟨gl, rfl⟩ := HLA.out.resolve_left (by have := HN.out; omega)
          have cu := rec_cells (j := 1) HH1.out.own hr rfl
          obtain ⟨ua, uc, hu⟩ : ∃ ua uc, r.u = .slice ua r.f.b.length uc := by
            rcases HH1.out.bys r (List.mem_of_getElem? hr) with ⟨e, e2⟩ | ⟨ad, c, e, _⟩
            · exact ⟨none, 0, by rw [e, e2]; rfl⟩
            · exact ⟨_, _, e⟩
          rw [hu] at cu
          obtain ⟨q, hq⟩ : ∃ q, q = r.f.b.length := ⟨_, rfl⟩
          rw [← hq] at cu
          have hy : (k : Int) < (n : Int) := by omega
          have hts : t + q ≤ tot := by
            have h1 := take_sum hr
            have h2 := take_sum_le rs (k + 1)
            have := HTK.out
            have := HTOT.out
            omega
          have HT2 : Hid (t + q = sizeM ((rs.take (k + 1)).map (·.f))) := Lib.hid (by rw [take_sum hr, ← HTK.out, hq])
          have htq : (t : Int) + (q : Int) ≤ 4194304 := by omega
          have HKL := Lib.hid hlt
          clear hu hq hts hr hk hlt
          go_wp2_with fail
          go_round
          case rel => have := HKL.out; exact ⟨k + 1, t + q, by omega, by go_num, by go_num, HT2⟩
          case measure => have := HKL.out; simp [intOf]; omega
        · have hyk : ¬ (k : Int) < (n : Int) := by omega
          have HTT : Hid (t = tot) := Lib.hid (by
            rw [HTK.out, HTOT.out, List.take_of_length_le (by rw [← HN.out]; omega)])
          have htt := HTT.out
          subst htt
          clear hlt hk HTK
          by_cases hf1 : pm.isNone = true ∧ 64 ≤ n
          · obtain ⟨hpn, h64⟩ := hf1
            obtain rfl : pm = none := by simpa using hpn
            have hfu : full = true := by rw [HFU.out, decide_eq_true h64]; rfl
            subst hfu
            have h64' : (64 : Int) ≤ (n : Int) := by omega
            have hp1 : posO none = -1 := rfl
            clear hpn h64
            rw [hp1]
            go_wp2
            go_ret
            rw [show R = (3, tickM C) from HRR.out]
            exact ⟨rfl, rtwV_same HT1.out HH1.out HK1.out⟩
          · by_cases hf2 : t + M ≤ room
            · have hfu : full = false := by
                rw [HFU.out, ← HRM.out, decide_eq_true hf2]
                cases pm with
                | none => rw [decide_eq_false (fun h => hf1 ⟨rfl, h⟩)]; rfl
                | some k => rfl
              subst hfu
              have hfit : ¬ ((room : Int) - (t : Int) < (M : Int)) := by omega
              obtain ⟨i0, hi, hz0, hz1, hz2⟩ := info_parts Try.infoByte
              cases pm with
              | none =>
                have h64 : ¬ 64 ≤ n := fun h => hf1 ⟨rfl, h⟩
                have h64' : ¬ (64 : Int) ≤ (n : Int) := by omega
                have hp1 : posO none = -1 := rfl
                clear hf1 hf2 h64
                rw [hp1]
                have HSL := Lib.hid (HHB.out (w3.alloc (.cells #[] 5)) (kept_alloc (kept_mono HK1.out (fun k e => by subst e; exact .inl hyh)) _))
                have HOW := Lib.hid (byteSl_zero w3)
                have HBS : Hid (w3.heap.size ≤ (w3.alloc (.cells #[] 5)).heap.size) := Lib.hid (by simp)
                clear hp1
                have HDS : Hid (SortM D.op.fs) := Lib.hid (by show SortM D.fs; rw [HTF.out]; exact HSO.out)
                have HDN : Hid (∀ f ∈ D.op.fs, f.name ≠ s.data.toList) := Lib.hid (findM_none (pos_nofind HPM.out.symm))
                go_wp2_with (at_builtin; refine wpList_append_slg rfl (.tmp 62) (.tmp 63) 40 rfl w3.heap.size 5 i0 (.int .u8 0) Try.underlying40 hi hz0 hz1 hz2 rfl (.slice (some ⟨w3.heap.size, 0, none⟩) 0 0) 0 _ (by simp [Act.eval]) HOW.out (.slice va M vc) l (by simp [Act.eval]) _ HSL.out (by have := HM.out; omega) HBS.out ?_; intro v' w' hown' hgr'; obtain ⟨a5, c5, hv5, hcl, hkb, hsz⟩ := rapp_new (s := s) HM.out HH1.out (kept_mono HK1.out (fun k e => by subst e; exact .inl hyh)) hown' hgr' (by have := HN.out; omega) HDS.out HDN.out; subst hv5; have HP := Lib.hid hcl; have HKB := Lib.hid hkb; have HSZ := Lib.hid hsz; clear hown' hgr' hcl hkb hsz)
                go_wp2_with fail
                refine HP.out.mono ?_
                rintro e w5 ⟨rfl, ⟨L5, rs5, X5, H5⟩, K5⟩
                have HH5 := Lib.hid (refR_more H5 (Y' := fun k => Y k ∨ (w.heap.size ≤ k ∧ k < w5.heap.size)) (fun k hk => by
                  have := HSZ.out
                  have := K5.size
                  rcases hk with (hk | hk) | hk
                  · exact .inl hk
                  · exact .inr ⟨by omega, by omega⟩
                  · exact .inr ⟨by omega, by omega⟩))
                have HK5 := Lib.hid (kept_then HKB.out K5 (F := Y) (fun x hx => hx.imp id (fun hx => by have := HSZ.out; omega)))
                clear H5 K5
                go_wp2
                go_ret
                rw [show R = (0, withM (tickM C) (addM C.fs s.data.toList l)) from HRR.out]
                refine ⟨rfl, rtwV_mk (L := L5) (rs := rs5) (X := X5) (D := { D.op with fs := addM C.fs s.data.toList l }) (twin_with HT1.out _) ?_ HK5.out⟩
                have e : addM C.fs s.data.toList l = putM ⟨s.data.toList, l, 0⟩ D.fs := by
                  unfold addM
                  rw [← HTF.out, pos_nofind HPM.out.symm]
                rw [e]
                exact HH5.out
              | some k =>
                have hlk := pos_find HPM.out.symm
                obtain ⟨f, hf, hfm, hfn⟩ := hlk
                obtain ⟨r, hr, hrf⟩ : ∃ r, rs[k]? = some r ∧ r.f = f := by
                  rw [← HFS.out, List.getElem?_map] at hf
                  obtain ⟨r, hr, e⟩ := Option.map_eq_some_iff.1 hf
                  exact ⟨r, hr, e⟩
                subst hrf
                have hkl := (List.getElem?_eq_some_iff.1 hr).1
                obtain ⟨gl, rfl⟩ := HLA.out.resolve_left (by have := HN.out; omega)
                have cu := rec_cells (j := 1) HH1.out.own hr rfl
                have hby := HH1.out.bys r (List.mem_of_getElem? hr)
                obtain ⟨ua, uc, hu⟩ : ∃ ua uc, r.u = .slice ua r.f.b.length uc := by
                  rcases hby with ⟨e, e2⟩ | ⟨ad, c, e, _⟩
                  · exact ⟨none, 0, by rw [e, e2]; rfl⟩
                  · exact ⟨_, _, e⟩
                rw [hu] at cu hby
                obtain ⟨q, hq⟩ : ∃ q, q = r.f.b.length := ⟨_, rfl⟩
                have hqt : q ≤ t := by
                  have h1 := take_sum hr
                  have h2 := take_sum_le rs (k + 1)
                  have := HTOT.out
                  omega
                rw [← hq] at cu
                have hkn : (k : Int) < (n : Int) := by have := HN.out; omega
                have hp1 : posO (some k) = (k : Int) := rfl
                have hk0 : decide ((k : Int) < 0) = false := decide_eq_false (by omega)
                have hqb : (q : Int) ≤ 4194304 := by omega
                have hb34 : Below w3.heap.size w3 (w3.alloc (.cells #[] 5)) := below_more (Below.refl _ _) _
                have hb34d : Below w3.heap.size w3 (w3.alloc (.cells #[] 5)).drew := below_draws hb34 ⟨1, rfl⟩
                have d1 : (w3.alloc (.cells #[] 5)).cell? ⟨h, 1, none⟩ = some (.slice (some ⟨gl, 0, none⟩) n lc) := cell_same c1 (hb34.block h (block_of_cell c1))
                have du : (w3.alloc (.cells #[] 5)).cell? ⟨gl, k * 3 + 1, none⟩ = some (.slice ua q uc) := cell_same cu (hb34.block gl (block_of_cell cu))
                have how : (w3.alloc (.cells #[] 5)).ownsRow w3.heap.size 5 1 (.slice (some ⟨w3.heap.size, 0, none⟩) 0 0) 0 (([] : List UInt8).map byteV) := byteSl_zero w3
                have HOW : Hid ((w3.alloc (.cells #[] 5)).drew.ownsRow w3.heap.size 5 1 (.slice (some ⟨w3.heap.size, 0, none⟩) 0 0) 0 (([] : List UInt8).map byteV)) := Lib.hid (own_mono (own_below how (below_draws (Below.refl _ _) ⟨1, rfl⟩)) (Nat.le_refl _))
                have HSL1 : Hid (ByteSl (w3.alloc (.cells #[] 5)).drew (w3.alloc (.cells #[] 5)).drew.heap.size (.slice ua q uc) r.f.b) := Lib.hid (by
                  rw [hq]
                  exact byteZ_sl hby (fun k hk _ => hb34d.block k hk) hb34d.size)
                have HKY : Hid (Kept Y w w3) := Lib.hid (kept_mono HK1.out (fun k e => by subst e; exact .inl hyh))
                have HB4 := Lib.hid hb34d
                have HQ := Lib.hid hq
                have HR := Lib.hid hr
                have HU := Lib.hid hu
                have HFN := Lib.hid hfn
                have HFM := Lib.hid hfm
                have HMM : Hid (M < 1000000 ∧ t + M ≤ room ∧ q ≤ t ∧ room ≤ 4194304) := Lib.hid ⟨by omega, hf2, hqt, by omega⟩
                clear hf1 hf2 hqt hu hq hr hfn hfm hf hkl how hb34 hb34d hby
                rw [hp1]
                go_wp2_with fail
                go_region_law (first
                  | (refine step_append_slg rfl (.tmp 72) (.tmp 80) 40 rfl w3.heap.size 5 i0 (.int .u8 0) Try.underlying40 hi hz0 hz1 hz2 rfl (.slice (some ⟨w3.heap.size, 0, none⟩) 0 0) 0 _ (by simp [Act.eval]) HOW.out (.slice ua q uc) r.f.b (by simp [Act.eval]) _ HSL1.out (by have := HMM.out; have := HQ.out; omega) HB4.out.size ?_; intro v5 w5 ho5 hg5; have HO5 : Hid (w5.ownsRow w3.heap.size 5 1 v5 q (r.f.b.map byteV)) := Lib.hid (by rw [HQ.out]; simpa using ho5); have hb5 : Below w3.heap.size w3 w5 := HB4.out.grown hg5 HB4.out.size (fun k hk => by simp [Value.ownBlock] at hk; omega); have HB5 := Lib.hid hb5; have HSL2 := Lib.hid (HHB.out w5 (kept_trans HKY.out (kept_below hb5))); obtain ⟨a5, q5, rfl⟩ := own_len HO5.out; have e1 : w5.cell? ⟨h, 1, none⟩ = some (.slice (some ⟨gl, 0, none⟩) n lc) := cell_same c1 (hb5.block h (block_of_cell c1)); have e2 : w5.cell? ⟨gl, k * 3 + 1, none⟩ = some (.slice ua q uc) := cell_same cu (hb5.block gl (block_of_cell cu)); clear ho5 hg5 hb5)
                  | (refine step_append_slg rfl (.tmp 81) (.tmp 82) 40 rfl w3.heap.size 5 i0 (.int .u8 0) Try.underlying40 hi hz0 hz1 hz2 rfl (.slice a5 q q5) q _ (by simp [Act.eval]) HO5.out (.slice va M vc) l (by simp [Act.eval]) _ HSL2.out (by have := HMM.out; have := HM.out; omega) HB5.out.size ?_; intro v6 w6 ho6 hg6; have HO6 : Hid (w6.ownsRow w3.heap.size 5 1 v6 (r.f.b ++ l).length ((r.f.b ++ l).map byteV)) := Lib.hid (by rw [List.length_append, ← HQ.out, List.map_append]; exact ho6); have hb6 : Below w3.heap.size w3 w6 := HB5.out.grown hg6 HB5.out.size (fun k hk => (World.ownsRow.lt HO5.out k hk).1); have HB6 := Lib.hid hb6; obtain ⟨N6, hN6⟩ : ∃ N6, N6 = (r.f.b ++ l).length := ⟨_, rfl⟩; rw [← hN6] at HO6; have HN6 := Lib.hid hN6; obtain ⟨a6, q6, rfl⟩ := own_len HO6.out; have e3 : w6.cell? ⟨h, 1, none⟩ = some (.slice (some ⟨gl, 0, none⟩) n lc) := cell_same c1 (hb6.block h (block_of_cell c1)); have e4 : w6.cell? ⟨gl, k * 3 + 1, none⟩ = some (.slice ua q uc) := cell_same cu (hb6.block gl (block_of_cell cu)); have e5 : w6.frozen? ⟨gl, k * 3 + 1, none⟩ = false := (own_below HH1.out.own hb6).frozenAt _; clear ho6 hg6 hb6 hN6))
                all_goals
                  have hbz : ByteZ w6 (fun k => X k ∨ (w3.heap.size ≤ k ∧ k < w6.heap.size)) (.slice a6 N6 q6) (r.f.b ++ l) := byteZ_own (by have h := HO6.out; rw [HN6.out] at h ⊢; exact h) (fun k hk => .inr (World.ownsRow.lt HO6.out k hk))
                  have HP := Lib.hid (refR_put1 (refR_newX HH1.out HB6.out) rfl HR.out (j := 1) (by decide) (.slice a6 N6 q6) ⟨⟨s.data.toList, r.f.b ++ l, r.f.syn⟩, .slice a6 N6 q6⟩ (by rw [← HFN.out]; rfl) hbz (addM C.fs s.data.toList l) (by
                    rw [List.map_set, HFS.out]
                    unfold addM
                    rw [← HTF.out, HFM.out]
                    exact set_set _ (by rw [HTF.out]; exact HSO.out) HPM.out.symm))
                  have HK6 : Hid (Kept Y w (w6.setCell ⟨gl, k * 3 + 1, none⟩ (.slice a6 N6 q6))) := Lib.hid (kept_put (kept_trans HKY.out (kept_below HB6.out)) (.inl (HH1.out.yl gl rfl)) _ _)
                  have HZ : Hid (w.heap.size ≤ w3.heap.size ∧ (w6.setCell ⟨gl, k * 3 + 1, none⟩ (.slice a6 N6 q6)).heap.size = w6.heap.size) := Lib.hid ⟨HK1.out.size, by simp [World.setCell]⟩
                  clear hbz e3 e4 e5
                  go_wp2
                  go_ret
                  rw [show R = (0, withM (tickM C) (addM C.fs s.data.toList l)) from HRR.out]
                  refine ⟨rfl, rtwV_mk (twin_with HT1.out _) (refR_more HP.out.1 (fun k hk => ?_)) HK6.out⟩
                  have h1 := HZ.out
                  rcases hk with hk | hk
                  · exact .inl hk
                  · exact .inr ⟨by omega, by omega⟩
            · have hfu : full = true := by
                rw [HFU.out, ← HRM.out, decide_eq_false hf2]
                simp
              subst hfu
              have hfit : ((room : Int) - (t : Int) < (M : Int)) := by omega
              cases pm with
              | none =>
                have h64 : ¬ 64 ≤ n := fun h => hf1 ⟨rfl, h⟩
                have h64' : ¬ (64 : Int) ≤ (n : Int) := by omega
                have hp1 : posO none = -1 := rfl
                clear hf1 hf2 h64
                rw [hp1]
                go_wp2
                go_ret
                rw [show R = (3, tickM C) from HRR.out]
                exact ⟨rfl, rtwV_same HT1.out HH1.out HK1.out⟩
              | some k =>
                have hp1 : posO (some k) = (k : Int) := rfl
                have hk0 : decide ((k : Int) < 0) = false := decide_eq_false (by omega)
                clear hf1 hf2
                rw [hp1]
                go_wp2
                go_ret
                rw [show R = (3, tickM C) from HRR.out]
                exact ⟨rfl, rtwV_same HT1.out HH1.out HK1.out⟩

theorem names_take {rs : List RecF} {k : Nat} {r : RecF} (h : rs[k]? = some r) : (rs.take (k + 1)).map (fun r => nameV r.f.name) = (rs.take k).map (fun r => nameV r.f.name) ++ [nameV r.f.name] := by
  rw [List.take_add_one, h]
  simp

set_option maxRecDepth 100000 in
set_option maxHeartbeats 4000000 in
/-- Names. -/
theorem rnames_any {w : World} {Y : Nat → Prop} {h : Nat} {C : CodM} (H : RTw w Y h C) (hok : COk C) :
    Calls Try.prog 28 #[.pointer (some ⟨h, 0, none⟩)] w fun e w' => (∃ v, e = .returned v ∧ w'.ownsRow w.heap.size 9 1 v C.fs.length (C.fs.map (fun f => nameV f.name))) ∧ Below w.heap.size w w' := by
  obtain ⟨D, T, L, rs, X, R0⟩ := H
  have hfs : rs.map (·.f) = C.fs := R0.fs.trans T.fs
  have hrl : rs.length ≤ 64 := by have := hok.len; rw [← hfs, List.length_map] at this; exact this
  obtain ⟨la, lc, hLL, hla, _⟩ := own_addr R0.own
  subst hLL
  obtain ⟨i0, hi, hz0, hz1, hz2⟩ := info_parts Try.infoStr
  obtain ⟨n, hn⟩ : ∃ n, n = rs.length := ⟨_, rfl⟩
  have c1 : w.cell? ⟨h, 1, none⟩ = some (.slice la n lc) := by rw [hn]; exact Rw.cell R0.rwd rfl
  rw [← hn] at hrl
  have hn64 : (n : Int) ≤ 64 := by omega
  have HN := Lib.hid hn
  have HLA := Lib.hid hla
  have HFS := Lib.hid hfs
  have HH1 := Lib.hid R0
  clear hn hla hfs R0 T hok
  go_enter Try.func28, Try.ntmps28
  go_wp2_with fail
  go_loopw [3, 4] (fun v i wr => ∃ k : Nat, k ≤ n ∧ i = .int .i64 k ∧ Hid (wr.ownsRow w.heap.size 9 1 v k ((rs.take k).map (fun r => nameV r.f.name))) ∧ Hid (Below w.heap.size w wr)) (fun _ i _ => n - (intOf i).toNat)
  case atStart => exact ⟨0, Nat.zero_le _, rfl, Lib.hid (World.ownsRow_nil _ _ _ _), Lib.hid (Below.refl _ _)⟩
  case round =>
    obtain ⟨k, hk, rfl, HO, HB⟩ := hrel
    obtain ⟨w3, hw3⟩ : ∃ w3 : World, w3 = wr := ⟨_, rfl⟩
    subst hw3
    have d1 : w3.cell? ⟨h, 1, none⟩ = some (.slice la n lc) := cell_same c1 (HB.out.block h (block_of_cell c1))
    by_cases hlt : k < n
    · obtain ⟨r, hr⟩ : ∃ r, rs[k]? = some r := ⟨_, List.getElem?_eq_getElem (by rw [← HN.out]; exact hlt)⟩
      obtain ⟨gl, rfl⟩ := HLA.out.resolve_left (by have := HN.out; omega)
      have cn := rec_cells (j := 0) HH1.out.own hr rfl
      unfold nameV at cn
      obtain ⟨nm, hnm⟩ : ∃ nm : ByteArray, nm = ⟨r.f.name.toArray⟩ := ⟨_, rfl⟩
      rw [← hnm, Nat.add_zero] at cn
      have dn : w3.cell? ⟨gl, k * 3, none⟩ = some (.string nm) := cell_same cn (HB.out.block gl (block_of_cell cn))
      obtain ⟨va, vc, rfl⟩ := own_len HO.out
      have hy : (k : Int) < (n : Int) := by omega
      have HKL := Lib.hid hlt
      have HT : Hid ((rs.take (k + 1)).map (fun r => nameV r.f.name) = (rs.take k).map (fun r => nameV r.f.name) ++ [.string nm]) := Lib.hid (by rw [names_take hr, hnm]; rfl)
      clear hnm hr hk hlt cn
      go_wp2_with (at_builtin; refine wpList_append1 rfl (.tmp 14) (.tmp 23) 54 rfl w.heap.size 9 rfl i0 _ 16 Try.underlying54 hi hz0 hz1 hz2 rfl (.slice va k vc) k _ rfl HO.out rfl rfl (by omega) (by decide) HB.out.size ?_; intro v' w' ho' hb'; have HO' := Lib.hid ho'; have HB' := Lib.hid (HB.out.trans hb'); clear ho' hb')
      go_roundw
      case rel => have := HKL.out; exact ⟨k + 1, by omega, by go_num, Lib.hid (by rw [HT.out]; exact HO'.out), HB'⟩
      case measure => have := HKL.out; simp [intOf]; omega
    · have hyk : ¬ (k : Int) < (n : Int) := by omega
      have HK : Hid (k = n) := Lib.hid (by omega)
      clear hlt hk
      go_wp2_with fail
      go_ret
      refine ⟨⟨_, rfl, ?_⟩, HB.out⟩
      have ho := HO.out
      rw [HK.out, HN.out, List.take_length] at ho
      have e1 : C.fs.length = rs.length := by rw [← HFS.out, List.length_map]
      have e2 : C.fs.map (fun f => nameV f.name) = rs.map (fun r => nameV r.f.name) := by rw [← HFS.out, List.map_map]; rfl
      rw [e1, e2]
      exact ho

theorem syncO_sort {fs : List FileM} {s : List UInt8} (h : SortM fs) : SortM (syncO fs s) := by
  unfold syncO
  cases hq : findM fs s with
  | none => exact h
  | some f => exact setM_sort h (fun _ _ => rfl)

theorem syncA_sort : ∀ {ns : List ByteArray} {fs : List FileM}, SortM fs → SortM (syncA fs ns)
  | [], _, h => h
  | _ :: r, _, h => syncA_sort (ns := r) (syncO_sort h)

/-- Under way: k names are synced. -/
def RSyncR (w wr : World) (Y : Nat → Prop) (h : Nat) (D : DiskM) (gl n c : Nat) (X : Nat → Prop) (ns : List ByteArray) (k : Nat) : Prop :=
  ∃ ps, n = ps.length ∧ RefR wr Y h { D with fs := syncA D.fs (ns.take k) } (.slice (some ⟨gl, 0, none⟩) n c) ps X ∧ Kept Y w wr

set_option maxRecDepth 100000 in
set_option maxHeartbeats 8000000 in
/-- Sync. -/
theorem rsync_any {w : World} {Y : Nat → Prop} {h : Nat} {C : CodM} (H : RTw w Y h C) (hok : COk C) (hops : C.ops < 1000000) (ns : List ByteArray) (b c : Nat) (hne : ns ≠ []) (hc : ∀ w', Kept Y w w' → ∀ (j : Nat) (s : ByteArray), ns[j]? = some s → w'.cell? ⟨b, j, none⟩ = some (.string s)) (hns : ns.length < 1000) :
    Calls Try.prog 16 #[.pointer (some ⟨h, 0, none⟩), .slice (some ⟨b, 0, none⟩) ns.length c] w fun e w' => e = .returned (.int .i64 (synM C ns).1) ∧ RTwV w w' Y h (synM C ns).2 := by
  obtain ⟨D, T, L, rs, X, R0⟩ := H
  obtain ⟨hgo, T1⟩ := twin_tick T (by omega)
  have hfs := R0.fs
  have hrl : rs.length ≤ 64 := by have := hok.len; rw [← T.fs, ← hfs, List.length_map] at this; exact this
  have hyh := R0.yh
  have HO := Lib.hid (roff_any R0 (by have := T.n; omega))
  obtain ⟨M, hM⟩ : ∃ M, M = ns.length := ⟨_, rfl⟩
  rw [← hM] at hns ⊢
  have HM := Lib.hid hM
  have HC := Lib.hid hc
  obtain ⟨R, hR⟩ : ∃ R, R = synM C ns := ⟨_, rfl⟩
  rw [← hR]
  obtain ⟨bo, hbo⟩ : ∃ bo, bo = offM D := ⟨_, rfl⟩
  rw [← hbo] at HO
  cases bo
  case true =>
    have HR : Hid (R = (6, tickM C)) := Lib.hid (by rw [hR]; unfold synM; rw [if_pos (by rw [hgo, ← hbo]; rfl)])
    clear hM hns hrl hfs hbo hgo hR hc
    go_enter Try.func16, Try.ntmps16
    go_wp2_with fail
    refine HO.out.mono ?_
    rintro e w1 ⟨rfl, H1, K1⟩
    go_wp2
    go_ret
    rw [HR.out]
    exact ⟨rfl, rtwV_same T1 H1 K1⟩
  case false =>
    have hgoes : goesM C = true := by rw [hgo, ← hbo]; rfl
    have HRR : Hid (R = if ns.any (fun s => (findM C.fs s.data.toList).isNone) then (4, tickM C) else (0, withM (tickM C) (syncA C.fs ns))) := Lib.hid (by rw [hR]; unfold synM; rw [if_neg (by rw [hgoes]; decide)])
    have HF : Hid (∀ (W : World) (Y' : Nat → Prop) (D' : DiskM) (L' : Value) (ps : List RecF), RefR W Y' h D' L' ps X → ps.length ≤ 64 → ∀ s : ByteArray, Calls Try.prog 46 #[.pointer (some ⟨h, 0, none⟩), .string s] W fun e w' => e = .returned (.int .i64 (posO (posM D'.fs s.data.toList))) ∧ w' = W) := Lib.hid (fun W Y' D' L' ps H1 hl s => by
      have := rfind_any H1 s (by omega)
      rw [posI_o] at this
      exact this)
    have HT1 := Lib.hid T1
    have HSO : Hid (SortM D.fs) := Lib.hid (by rw [T.fs]; exact hok.sort)
    have HTF := Lib.hid T.fs
    have HRL := Lib.hid hrl
    have HFS := Lib.hid hfs
    have hMb : (M : Int) < 1000 := by omega
    have HNE : Hid (0 < M) := Lib.hid (by rw [hM]; exact List.length_pos_iff.2 hne)
    clear hbo hgo hgoes hR hfs hrl hns T T1 hok hc hne R0 hM
    go_enter Try.func16, Try.ntmps16
    go_wp2_with fail
    refine HO.out.mono ?_
    rintro e w1 ⟨rfl, H1, K1⟩
    have HH1 := Lib.hid H1
    have HK1 : Hid (Kept Y w w1) := Lib.hid (kept_mono K1 (fun k e => by subst e; exact .inl hyh))
    have HKH := Lib.hid K1
    have HC1 := Lib.hid (HC.out w1 HK1.out)
    clear H1 K1 HO
    go_wp2_with fail
    go_loop [5] (fun i => ∃ k : Nat, k ≤ M ∧ i = .int .i64 k ∧ Hid (∀ (j : Nat) (s : ByteArray), j < k → ns[j]? = some s → (findM C.fs s.data.toList).isNone = false)) (fun i => M - (intOf i).toNat)
    case atStart => exact ⟨0, Nat.zero_le _, rfl, Lib.hid (fun j s hj => absurd hj (Nat.not_lt_zero _))⟩
    case round =>
      obtain ⟨k, hk, rfl, HA⟩ := hrel
      by_cases hlt : k < M
      · obtain ⟨s, hs⟩ : ∃ s, ns[k]? = some s := ⟨_, List.getElem?_eq_getElem (by rw [← HM.out]; exact hlt)⟩
        have cs := HC1.out k s hs
        have hy : (k : Int) < (M : Int) := by omega
        have HKL := Lib.hid hlt
        have HFI := Lib.hid (HF.out w1 _ _ _ _ HH1.out HRL.out s)
        obtain ⟨pm, hpm⟩ : ∃ pm, pm = posM D.op.fs s.data.toList := ⟨_, rfl⟩
        rw [← hpm] at HFI
        have HS := Lib.hid hs
        cases pm with
        | none =>
          have HR4 : Hid (R = (4, tickM C)) := Lib.hid (by
            rw [HRR.out, if_pos]
            rw [List.any_eq_true]
            refine ⟨s, List.mem_of_getElem? hs, ?_⟩
            rw [← HTF.out, pos_nofind (fs := D.fs) hpm.symm]
            rfl)
          have hp1 : posO none = -1 := rfl
          rw [hp1] at HFI
          clear hs hlt hk hpm hp1
          go_wp2_with fail
          refine (HFI.out).mono ?_
          rintro e w2 ⟨rfl, rfl⟩
          go_wp2
          go_ret
          rw [HR4.out]
          exact ⟨rfl, rtwV_same HT1.out HH1.out HKH.out⟩
        | some m =>
          have HA2 : Hid (∀ (j : Nat) (s : ByteArray), j < k + 1 → ns[j]? = some s → (findM C.fs s.data.toList).isNone = false) := Lib.hid (fun j s2 hj hs2 => by
            rcases (by omega : j < k ∨ j = k) with h | h
            · exact HA.out j s2 h hs2
            · subst h
              rw [hs] at hs2
              cases hs2
              obtain ⟨f, _, hf, _⟩ := pos_find hpm.symm
              rw [← HTF.out, show findM D.fs s.data.toList = some f from hf]
              rfl)
          have hp1 : posO (some m) = (m : Int) := rfl
          have hk0 : decide ((m : Int) < 0) = false := decide_eq_false (by omega)
          rw [hp1] at HFI
          clear hs hlt hk hpm hp1
          go_wp2_with fail
          refine (HFI.out).mono ?_
          rintro e w2 ⟨rfl, rfl⟩
          go_wp2_with fail
          go_round
          case rel => have := HKL.out; exact ⟨k + 1, by omega, by go_num, HA2⟩
          case measure => have := HKL.out; simp [intOf]; omega
      · have hyk : ¬ (k : Int) < (M : Int) := by omega
        have HALL : Hid (∀ (j : Nat) (s : ByteArray), ns[j]? = some s → (findM C.fs s.data.toList).isNone = false) := Lib.hid (fun j s hs => HA.out j s (by have := (List.getElem?_eq_some_iff.1 hs).1; rw [← HM.out] at this; omega) hs)
        have HR0 : Hid (R = (0, withM (tickM C) (syncA C.fs ns))) := Lib.hid (by
          rw [HRR.out, if_neg]
          intro ht
          rw [List.any_eq_true] at ht
          obtain ⟨s, hs, hn⟩ := ht
          obtain ⟨j, hj⟩ := List.mem_iff_getElem?.1 hs
          rw [HALL.out j s hj] at hn
          cases hn)
        obtain ⟨la, lc, hLL, hla, _⟩ := own_addr HH1.out.own
        subst hLL
        obtain ⟨gl, rfl⟩ : ∃ gl, la = some ⟨gl, 0, none⟩ := by
          refine hla.resolve_left (fun e => ?_)
          obtain ⟨s, hs⟩ : ∃ s, ns[0]? = some s := ⟨_, List.getElem?_eq_getElem (by rw [← HM.out]; exact HNE.out)⟩
          have h1 := HALL.out 0 s hs
          have h2 : C.fs = [] := by rw [← HTF.out, ← HFS.out]; exact List.map_eq_nil_iff.2 (List.eq_nil_of_length_eq_zero e)
          rw [h2] at h1
          cases h1
        obtain ⟨n, hn⟩ : ∃ n, n = rs.length := ⟨_, rfl⟩
        have HST : Hid (RSyncR w w1 Y h D.op gl n lc X ns 0) := Lib.hid ⟨rs, hn, by rw [hn]; exact HH1.out, HK1.out⟩
        have HN64 : Hid (n ≤ 64) := Lib.hid (by rw [hn]; exact HRL.out)
        clear hlt hk HA hla hn
        go_wp2_with fail
        go_loopw [6] (fun i wr => ∃ k : Nat, k ≤ M ∧ i = .int .i64 k ∧ Hid (RSyncR w wr Y h D.op gl n lc X ns k)) (fun i _ => M - (intOf i).toNat)
        case atStart => exact ⟨0, Nat.zero_le _, rfl, HST⟩
        case round =>
          obtain ⟨k2, hk2, rfl, HRS⟩ := hrel
          obtain ⟨w3, hw3⟩ : ∃ w3 : World, w3 = wr := ⟨_, rfl⟩
          subst hw3
          obtain ⟨ps, hps, hR3, hK3⟩ := HRS.out
          by_cases hlt : k2 < M
          · obtain ⟨s, hs⟩ : ∃ s, ns[k2]? = some s := ⟨_, List.getElem?_eq_getElem (by rw [← HM.out]; exact hlt)⟩
            have cs := HC.out w3 hK3 k2 s hs
            have hy : (k2 : Int) < (M : Int) := by omega
            have HKL := Lib.hid hlt
            obtain ⟨fs2, hfs2⟩ : ∃ fs2, fs2 = syncA D.op.fs (ns.take k2) := ⟨_, rfl⟩
            have hso2 : SortM fs2 := by rw [hfs2]; exact syncA_sort HSO.out
            have hfound : (findM fs2 s.data.toList).isSome = true := by
              rw [hfs2, syncA_has]
              have := HALL.out k2 s hs
              rw [← HTF.out] at this
              cases hq : findM D.fs s.data.toList with
              | none => rw [hq] at this; cases this
              | some f => rw [show findM D.op.fs s.data.toList = some f from hq]; rfl
            obtain ⟨m, hm⟩ : ∃ m, posM fs2 s.data.toList = some m := by
              cases hq : posM fs2 s.data.toList with
              | none => rw [pos_nofind hq] at hfound; cases hfound
              | some m => exact ⟨m, rfl⟩
            rw [← hfs2] at hR3
            obtain ⟨f, hf, hff, hfn⟩ := pos_find hm
            obtain ⟨r, hr, hrf⟩ : ∃ r, ps[m]? = some r ∧ r.f = f := by
              have h1 := hR3.fs
              rw [show ({ D.op with fs := fs2 } : DiskM).fs = fs2 from rfl] at h1
              rw [← h1, List.getElem?_map] at hf
              obtain ⟨r, hr, e⟩ := Option.map_eq_some_iff.1 hf
              exact ⟨r, hr, e⟩
            subst hrf
            have hml := (List.getElem?_eq_some_iff.1 hr).1
            have HFI := Lib.hid (HF.out w3 _ _ _ _ hR3 (by have := HN64.out; omega) s)
            rw [show ({ D.op with fs := fs2 } : DiskM).fs = fs2 from rfl, hm, show posO (some m) = (m : Int) from rfl] at HFI
            have c1 : w3.cell? ⟨h, 1, none⟩ = some (.slice (some ⟨gl, 0, none⟩) n lc) := Rw.cell hR3.rwd rfl
            have ho3 := hR3.own
            rw [hps] at ho3
            have cu := rec_cells (j := 1) ho3 hr rfl
            have c2 := rec_cells (j := 2) ho3 hr rfl
            have g2 : w3.frozen? ⟨gl, m * 3 + 2, none⟩ = false := ho3.frozenAt _
            have hby := hR3.bys r (List.mem_of_getElem? hr)
            obtain ⟨ua, uc, hu⟩ : ∃ ua uc, r.u = .slice ua r.f.b.length uc := by
              rcases hby with ⟨e, e2⟩ | ⟨ad, c, e, _⟩
              · exact ⟨none, 0, by rw [e, e2]; rfl⟩
              · exact ⟨_, _, e⟩
            rw [hu] at cu
            obtain ⟨q, hq⟩ : ∃ q, q = r.f.b.length := ⟨_, rfl⟩
            rw [← hq] at cu
            have hmn : (m : Int) < (n : Int) := by omega
            have hmn0 : ¬ (m : Int) < 0 := by omega
            have hn64 : (n : Int) ≤ 64 := by have := HN64.out; omega
            have HP : Hid (RSyncR w (w3.setCell ⟨gl, m * 3 + 2, none⟩ (.int .i64 q)) Y h D.op gl n lc X ns (k2 + 1)) := Lib.hid (by
              have h1 := refR_put1 hR3 hps hr (j := 2) (by decide) (.int .i64 q) ⟨⟨s.data.toList, r.f.b, q⟩, r.u⟩ (by rw [← hfn]; rfl) hby (syncA D.op.fs (ns.take (k2 + 1))) (by
                rw [List.map_set, hR3.fs, syncA_succ hs, ← hfs2]
                unfold syncO
                rw [hff, hq]
                exact set_set _ hso2 hm)
              exact ⟨_, by rw [List.length_set]; exact hps, h1.1, kept_trans hK3 (kept_mono h1.2 (fun k e => by subst e; exact .inl (hR3.yl _ rfl)))⟩)
            clear hR3 hK3 hs hlt hk2 hfs2 hso2 hfound hm hf hff hfn hr hml ho3 hby hu hq hps HRS
            go_wp2_with fail
            refine (HFI.out).mono ?_
            rintro e w4 ⟨rfl, rfl⟩
            go_wp2_with fail
            go_region
            all_goals
              go_wp2_with fail
              go_roundw
              case rel =>
                have := HKL.out
                refine ⟨k2 + 1, by omega, by go_num, Lib.hid ?_⟩
                obtain ⟨ps2, e2, h2, h3⟩ := HP.out
                exact ⟨ps2, e2, refR_below h2 (below_draws (Below.refl _ _) ⟨_, rfl⟩), kept_trans h3 (kept_below (below_draws (Below.refl _ _) ⟨_, rfl⟩))⟩
              case measure => have := HKL.out; simp [intOf]; omega
          · have hyk2 : ¬ (k2 : Int) < (M : Int) := by omega
            have HEND : Hid (RTwV w w3 Y h (withM (tickM C) (syncA C.fs ns))) := Lib.hid (by
              have e : k2 = M := by omega
              have e2 : ns.take k2 = ns := by rw [e, HM.out, List.take_length]
              rw [e2] at hR3
              have e3 : syncA D.op.fs ns = syncA C.fs ns := by rw [← HTF.out]; rfl
              rw [e3] at hR3
              exact rtwV_mk (twin_with HT1.out _) (refR_more hR3 (fun _ h => .inl h)) hK3)
            clear hlt hk2 HRS hR3 hK3 hps
            go_wp2_with fail
            go_ret
            rw [HR0.out]
            exact ⟨rfl, HEND.out⟩

end Go.Proofs.Ytfiocghgjjandaa
