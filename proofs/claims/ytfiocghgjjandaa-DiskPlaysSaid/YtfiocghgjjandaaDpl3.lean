/- same: what the two of them tell is alike. -/
import Derived.BigRegion
import Derived.BigQuiet
import Derived.Deep.RegionHeld3
import Derived.Deep.RegionLaw
import Derived.Deep.CutBlock
import Derived.Test.YtfiocghgjjandaaProg
import Derived.Test.YtfiocghgjjandaaKit
import Derived.Test.YtfiocghgjjandaaAsc4
import Derived.Test.YtfiocghgjjandaaRow
import Derived.Test.YtfiocghgjjandaaRow2
import Derived.Test.YtfiocghgjjandaaCod7
import Derived.Test.YtfiocghgjjandaaJoin
import Derived.Test.YtfiocghgjjandaaFrm4
import Derived.Test.YtfiocghgjjandaaFrm8
import Derived.Test.YtfiocghgjjandaaFrm11
import Derived.Test.YtfiocghgjjandaaRdk0
import Derived.Test.YtfiocghgjjandaaDsk0
import Derived.Test.YtfiocghgjjandaaDsk6
import Derived.Test.YtfiocghgjjandaaDsk7
import Derived.Test.YtfiocghgjjandaaDsk8
import Derived.Test.YtfiocghgjjandaaDsk9
import Derived.Test.YtfiocghgjjandaaDsk11
import Derived.Test.YtfiocghgjjandaaDsk12
import Derived.Test.YtfiocghgjjandaaDsk13
import Derived.Test.YtfiocghgjjandaaDsk14
import Derived.Test.YtfiocghgjjandaaDsk17
import Derived.Test.YtfiocghgjjandaaDsk18
import Derived.Test.YtfiocghgjjandaaDsk20
import Derived.Test.YtfiocghgjjandaaRfd0
import Derived.Test.YtfiocghgjjandaaRfd4
import Derived.Test.YtfiocghgjjandaaRfd5
import Derived.Test.YtfiocghgjjandaaRfd7
import Derived.Test.YtfiocghgjjandaaRfd9
import Derived.Test.YtfiocghgjjandaaRfd10
import Derived.Test.YtfiocghgjjandaaDpl1
import Derived.Test.YtfiocghgjjandaaDpl2
namespace Go.Proofs.Ytfiocghgjjandaa
open Go.RowKit Go.Proofs

theorem both_names {w0 w : World} {Z : Nat → Prop} {g h : Nat} {C : CodM} {k : Nat} (H : BothD w0 w Z g h C k) : Calls Try.prog 30 #[.pointer (some ⟨g, 0, none⟩)] w fun e w' => DNamesV w w' C.fs e := by
  obtain ⟨Y, h1, _, _, h4⟩ := H
  exact znames_any h1 (by have := h4.ok.len; omega)

theorem both_rnames {w0 w : World} {Z : Nat → Prop} {g h : Nat} {C : CodM} {k : Nat} (H : BothD w0 w Z g h C k) : Calls Try.prog 28 #[.pointer (some ⟨h, 0, none⟩)] w fun e w' => (∃ v, e = .returned v ∧ w'.ownsRow w.heap.size 9 1 v C.fs.length (C.fs.map (fun f => nameV f.name))) ∧ Below w.heap.size w w' := by
  obtain ⟨Y, _, h2, _, h4⟩ := H
  exact rnames_any h2 h4.ok

theorem both_ops {w0 w : World} {Z : Nat → Prop} {g h : Nat} {C : CodM} {k : Nat} (H : BothD w0 w Z g h C k) : Calls Try.prog 31 #[.pointer (some ⟨g, 0, none⟩)] w fun e w' => e = .returned (.int .i64 C.ops) ∧ w' = w := by
  obtain ⟨Y, h1, _⟩ := H
  exact zops_any h1

theorem both_n {w0 w : World} {Z : Nat → Prop} {g h : Nat} {C : CodM} {k : Nat} (H : BothD w0 w Z g h C k) : w.cell? ⟨h, 2, none⟩ = some (.int .i64 C.ops) := by
  obtain ⟨Y, _, ⟨D, T, L, rs, X, R⟩, _⟩ := H
  rw [← T.n]
  exact Rw.cell R.rwd rfl

theorem find_at {fs : List FileM} (hs : SortM fs) {j : Nat} {f : FileM} (hj : fs[j]? = some f) : posM fs f.name = some j ∧ findM fs f.name = some f := by
  have hp : posM fs f.name = some j := posM_hit hj rfl (fun i g hi hg => bef_ne (sort_get hs hg hj hi))
  obtain ⟨f2, h1, h2, _⟩ := pos_find hp
  rw [hj] at h1
  cases h1
  exact ⟨hp, h2⟩

def BytesV (w w' : World) (l : List UInt8) (e : Ending) : Prop := (∃ v, e = .returned (.tuple #[v, .int .i64 0]) ∧ w'.ownsRow w.heap.size 5 1 v l.length (l.map byteV)) ∧ Below w.heap.size w w'

theorem both_read {w0 w : World} {Z : Nat → Prop} {g h : Nat} {C : CodM} {k : Nat} (H : BothD w0 w Z g h C k) {j : Nat} {f : FileM} (hj : C.fs[j]? = some f) (s : ByteArray) (hs : s.data.toList = f.name) : Calls Try.prog 13 #[.pointer (some ⟨g, 0, none⟩), .string s] w fun e w' => BytesV w w' f.b e := by
  obtain ⟨Y, h1, _, _, h4⟩ := H
  have hn := h4.nam f (List.mem_of_getElem? hj)
  have hsz : s.size ≤ maxLen := by
    have := size_data s
    rw [hs] at this
    unfold maxLen
    omega
  refine (zread_any h1 s hsz (by have := h4.ok.size; have := h4.ok.room; omega)).mono ?_
  rintro e w' ⟨h5, hb⟩
  rw [hs, (find_at h4.ok.sort hj).2] at h5
  exact ⟨h5, hb⟩

theorem both_rread {w0 w : World} {Z : Nat → Prop} {g h : Nat} {C : CodM} {k : Nat} (H : BothD w0 w Z g h C k) {j : Nat} {f : FileM} (hj : C.fs[j]? = some f) (s : ByteArray) (hs : s.data.toList = f.name) : Calls Try.prog 32 #[.pointer (some ⟨h, 0, none⟩), .string s] w fun e w' => BytesV w w' f.b e := by
  obtain ⟨Y, _, ⟨D, T, L, rs, X, R⟩, _, h4⟩ := H
  have hfs : rs.map (·.f) = C.fs := R.fs.trans T.fs
  refine (rread_any R s (by have := h4.ok.len; rw [← hfs, List.length_map] at this; exact this) (fun r hr => ?_)).mono ?_
  · have h5 : r.f ∈ C.fs := by rw [← hfs]; exact List.mem_map.2 ⟨r, hr, rfl⟩
    have := sizeM_mem h5
    have := h4.ok.size
    have := h4.ok.room
    omega
  · rintro e w' ⟨h5, hb⟩
    rw [T.fs, hs, (find_at h4.ok.sort hj).1] at h5
    refine ⟨?_, hb⟩
    rcases h5 with ⟨h5, _⟩ | ⟨i, f2, v, h6, h7, rfl, h8⟩
    · cases h5
    · cases h6
      rw [hj] at h7
      cases h7
      exact ⟨v, rfl, h8⟩

set_option maxRecDepth 100000 in
set_option maxHeartbeats 8000000 in
theorem dsame_any {w0 w : World} {Z : Nat → Prop} {g h : Nat} {C : CodM} {k : Nat} (H : BothD w0 w Z g h C k) :
    Calls Try.prog 9 #[.pointer (some ⟨g, 0, none⟩), .pointer (some ⟨h, 0, none⟩)] w fun e w' => e = .returned (.bool true) ∧ Below w.heap.size w w' := by
  have HALL : Hid (∀ w', Below w.heap.size w w' → BothD w0 w' Z g h C k) := Lib.hid (fun w' hb => bothD_less (bothD_new H hb) (fun _ hk => .inl hk))
  have hlen : C.fs.length ≤ 64 := by obtain ⟨_, _, _, _, h4⟩ := H; exact h4.ok.len
  have HSZ : Hid (∀ f ∈ C.fs, f.b.length < 9223372036854775807) := Lib.hid (fun f hf => by
    obtain ⟨_, _, _, _, h4⟩ := H
    have := sizeM_mem hf
    have := h4.ok.size
    have := h4.ok.room
    omega)
  have HRN := Lib.hid (both_rnames H)
  obtain ⟨n, hn⟩ : ∃ n, n = C.fs.length := ⟨_, rfl⟩
  obtain ⟨xs, hxs⟩ : ∃ xs, xs = C.fs.map (fun f => nameV f.name) := ⟨_, rfl⟩
  obtain ⟨N, hN⟩ : ∃ N, N = C.ops := ⟨_, rfl⟩
  rw [← hn, ← hxs] at HRN
  rw [← hn] at hlen
  have HN := Lib.hid hn
  have HXS := Lib.hid hxs
  have HOP := Lib.hid hN
  have hn64 : (n : Int) ≤ 64 := by omega
  clear H hn hxs hN hlen
  go_enter Try.func9, Try.ntmps9
  go_wp2_with fail
  refine HRN.out.mono ?_
  rintro e w1 ⟨⟨v1, rfl, ho1⟩, hb1⟩
  obtain ⟨a1, c1, rfl⟩ := own_len ho1
  have HO1 := Lib.hid ho1
  have HB1 := Lib.hid hb1
  have HD1 := Lib.hid (below_draws hb1 ⟨1, rfl⟩)
  have HE1 : Hid (Below w1.heap.size w1 w1.drew) := Lib.hid (below_draws (Below.refl _ _) ⟨1, rfl⟩)
  have f1 : w1.drew.cell? ⟨h, 2, none⟩ = some (.int .i64 N) := by rw [HOP.out]; exact both_n (HALL.out _ HD1.out)
  have HTX : Hid (∀ (v : Value) (w2 : World), Below w1.drew.heap.size w1.drew w2 → w2.ownsRow w1.drew.heap.size 9 1 v n xs → Calls Try.prog 29 #[v, .slice a1 n c1] w2 fun e w' => e = .returned (.bool true) ∧ ∃ m, w' = w2.drewN m) := Lib.hid (fun v w2 hb ho => by
    have e1 : xs = (C.fs.map (·.name)).map strL := by rw [HXS.out, List.map_map]; rfl
    have hl : (C.fs.map (·.name)).length ≤ 1073741824 := by rw [List.length_map, ← HN.out]; omega
    have h2 := texts_any v (.slice a1 n c1) (C.fs.map (·.name)) (C.fs.map (·.name)) w2 (by rw [← e1]; exact SliceAt.own ho) (by rw [← e1]; exact SliceAt.own (own_below (own_below HO1.out (below_draws (Below.refl _ _) ⟨1, rfl⟩)) hb)) hl hl
    rw [eqLL_yes rfl] at h2
    exact h2)
  clear ho1 hb1 HRN
  have HOPS : Hid (∀ w2, Below w.heap.size w w2 → Calls Try.prog 31 #[.pointer (some ⟨g, 0, none⟩)] w2 fun e w' => e = .returned (.int .i64 N) ∧ w' = w2) := Lib.hid (fun w2 hb => by rw [HOP.out]; exact both_ops (HALL.out w2 hb))
  have HNM2 : Hid (Calls Try.prog 30 #[.pointer (some ⟨g, 0, none⟩)] w1.drew fun e w' => (∃ a2 c2, e = .returned (.slice a2 n c2) ∧ w'.ownsRow w1.drew.heap.size 9 1 (.slice a2 n c2) n xs) ∧ Below w1.drew.heap.size w1.drew w') := Lib.hid ((both_names (HALL.out w1.drew HD1.out)).mono (by
    rintro e w' ⟨⟨v, rfl, ho⟩, hb⟩
    rw [← HN.out] at ho
    obtain ⟨a2, c2, rfl⟩ := own_len ho
    refine ⟨⟨a2, c2, rfl, ?_⟩, hb⟩
    rw [HXS.out]
    exact ho))
  go_wp2_with fail
  go_region_held3 (fun W => W.cell? ⟨h, 2, none⟩ = some (.int .i64 N))
    (first | exact f1 | exact f2 | exact f3)
    (first
      | (go_at_call 30; ((with_reducible refine (HNM2.out).mono ?_); rintro e w2 ⟨⟨a2, c2, rfl, ho2⟩, hb2⟩); have HB2 := Lib.hid (below_then HD1.out hb2); have HE2 := Lib.hid (below_then HE1.out hb2); have HT2 := Lib.hid (HTX.out _ w2 hb2 ho2); have f2 : w2.cell? ⟨h, 2, none⟩ = some (.int .i64 N) := (by rw [HOP.out]; exact both_n (HALL.out _ HB2.out)); clear ho2 hb2)
      | (go_at_call 29; ((with_reducible refine (HT2.out).mono ?_); rintro e w4 ⟨rfl, hd4⟩); have HB4 := Lib.hid (below_draws HB2.out hd4); have HE4 := Lib.hid (below_draws HE2.out hd4); have f3 : w4.cell? ⟨h, 2, none⟩ = some (.int .i64 N) := (by rw [HOP.out]; exact both_n (HALL.out _ HB4.out)); clear hd4)
      | (go_at_call 31; ((with_reducible refine (HOPS.out _ HB4.out).mono ?_); rintro e w5 ⟨rfl, rfl⟩)))
  clear f1 f2 f3
  go_wp2_with fail
  go_loopw [6] (fun iv wr => ∃ j : Nat, j ≤ n ∧ iv = .int .i64 j ∧ Hid (Below w.heap.size w wr) ∧ Hid (Below w1.heap.size w1 wr)) (fun iv _ => n - (intOf iv).toNat)
  case atStart => exact ⟨0, Nat.zero_le _, rfl, HB4, HE4⟩
  case round =>
    obtain ⟨j, hj, rfl, HBW, HBE⟩ := hrel
    obtain ⟨w6, hw6⟩ : ∃ w6 : World, w6 = wr := ⟨_, rfl⟩
    subst hw6
    by_cases hlt : j < n
    · obtain ⟨f, hf⟩ : ∃ f, C.fs[j]? = some f := ⟨_, List.getElem?_eq_getElem (by rw [← HN.out]; exact hlt)⟩
      obtain ⟨gl, rfl⟩ : ∃ gl, a1 = some ⟨gl, 0, none⟩ := by
        rcases HO1.out.2 with ⟨e, hn0⟩ | ⟨g2, cap, cur, e, _⟩
        · rw [hn0] at hlt
          exact absurd hlt (Nat.not_lt_zero _)
        · injection e with e1
          exact ⟨g2, e1⟩
      obtain ⟨nm, hnm⟩ : ∃ nm : ByteArray, nm = ⟨f.name.toArray⟩ := ⟨_, rfl⟩
      have hnl : nm.data.toList = f.name := by rw [hnm]
      have hc1 : w1.cell? ⟨gl, j, none⟩ = some (.string nm) := by
        rw [World.ownsRow.cellAt HO1.out j (by omega), HXS.out, List.getElem?_map, hf, hnm]
        rfl
      have hc6 : w6.cell? ⟨gl, j, none⟩ = some (.string nm) := cell_same hc1 (HBE.out.block gl (block_of_cell hc1))
      have HRD := Lib.hid (both_read (HALL.out w6 HBW.out) hf nm hnl)
      have HRR : Hid (∀ w7, Below w6.heap.size w6 w7 → Calls Try.prog 32 #[.pointer (some ⟨h, 0, none⟩), .string nm] w7 fun e w' => BytesV w7 w' f.b e) := Lib.hid (fun w7 hb => both_rread (HALL.out w7 (below_then HBW.out hb)) hf nm hnl)
      have HFL : Hid (f.b.length < 9223372036854775807) := Lib.hid (HSZ.out f (List.mem_of_getElem? hf))
      have hy : (j : Int) < (n : Int) := by omega
      have HJ := Lib.hid hlt
      clear hnm hnl hc1 hf hlt hj
      go_wp2_with fail
      refine (HRD.out).mono ?_
      rintro e w7 ⟨⟨v7, rfl, ho7⟩, hb7⟩
      have HO7 := Lib.hid ho7
      have HB7 := Lib.hid hb7
      have hc7 : w7.cell? ⟨gl, j, none⟩ = some (.string nm) := cell_same hc6 (hb7.block gl (block_of_cell hc6))
      have HR7 := Lib.hid (HRR.out w7 hb7)
      obtain ⟨a7, c7, rfl⟩ := own_len ho7
      clear ho7 hb7
      go_wp2_with fail
      refine (HR7.out).mono ?_
      rintro e w8 ⟨⟨v8, rfl, ho8⟩, hb8⟩
      have HBY := Lib.hid (bytes_any f.b f.b _ _ w8 HFL.out HFL.out (own_sliceAt (own_below HO7.out hb8)) (own_sliceAt ho8))
      have HB8 := Lib.hid (below_then (below_then HBW.out HB7.out) hb8)
      have HE8 := Lib.hid (below_then (below_then HBE.out HB7.out) hb8)
      obtain ⟨a8, c8, rfl⟩ := own_len ho8
      clear ho8 hb8 hc6
      go_wp2_with fail
      refine (HBY.out).mono ?_
      rintro e w9 ⟨rfl, hx9⟩
      rw [show (f.b == f.b) = true by simp]
      have HB9 := Lib.hid (below_draws HB8.out hx9)
      have HE9 := Lib.hid (below_draws HE8.out hx9)
      clear hx9
      go_wp2_with fail
      go_roundw
      case rel => have := HJ.out; exact ⟨j + 1, by omega, by go_num, HB9, HE9⟩
      case measure => have := HJ.out; simp [intOf]; omega
    · have hyk : ¬ (j : Int) < (n : Int) := by omega
      clear hlt hj
      go_wp2_with fail
      go_ret
      exact ⟨rfl, HBW.out⟩

theorem orD10 {a b c d e f g h i j p : Prop} (H : a ∨ b ∨ c ∨ d ∨ e ∨ f ∨ g ∨ h ∨ i ∨ j) (ha : a → p) (hb : b → p) (hc : c → p) (hd : d → p) (he : e → p) (hf : f → p) (hg : g → p) (hh : h → p) (hi : i → p) (hj : j → p) : p := by
  rcases H with h | h | h | h | h | h | h | h | h | h
  · exact ha h
  · exact hb h
  · exact hc h
  · exact hd h
  · exact he h
  · exact hf h
  · exact hg h
  · exact hh h
  · exact hi h
  · exact hj h

/-- What a step leaves: pointers, and the two of them. -/
def StepV (w0 w' : World) (e : Ending) (k : Nat) : Prop := ∃ g h C, e = .returned (.tuple #[.pointer (some ⟨g, 0, none⟩), .pointer (some ⟨h, 0, none⟩), .bool true]) ∧ BothD w0 w' (fun _ => False) g h C k

theorem both_rename {w0 w : World} {Z : Nat → Prop} {g h : Nat} {C : CodM} {k : Nat} (H : BothD w0 w Z g h C k) (hk : k ≤ 1000) (s t : ByteArray) (hs : s.size ≤ maxLen) :
    Calls Try.prog 17 #[.pointer (some ⟨g, 0, none⟩), .string s, .string t] w fun e w' => e = .returned (.int .i64 (renM C s.data.toList t.data.toList).1) ∧ MidD w0 w' Z g h C (renM C s.data.toList t.data.toList).2 ∧ (∀ k, k < w.heap.size → (k < w0.heap.size ∨ Z k) → w'.heap[k]? = w.heap[k]?) ∧ w.heap.size ≤ w'.heap.size := by
  have hall : CAll C k := by obtain ⟨_, _, _, _, h⟩ := H; exact h
  exact bothD_code H (fun _ h _ => zren_any h s t (call_ok hall hk) hs)

theorem mid_rename {w0 w : World} {Z : Nat → Prop} {g h : Nat} {C : CodM} {k : Nat} (s t : ByteArray) (H : MidD w0 w Z g h C (renM C s.data.toList t.data.toList).2) (hall : CAll C k) (hk : k ≤ 1000) :
    Calls Try.prog 18 #[.pointer (some ⟨h, 0, none⟩), .string s, .string t] w fun e w' => e = .returned (.int .i64 (renM C s.data.toList t.data.toList).1) ∧ BothD w0 w' Z g h (renM C s.data.toList t.data.toList).2 (k + 1) :=
  midD_ref H (call_ren hall _ _) (fun _ h _ => rrename_any h hall.ok (by have := hall.ops; omega) s t)

theorem both_remove {w0 w : World} {Z : Nat → Prop} {g h : Nat} {C : CodM} {k : Nat} (H : BothD w0 w Z g h C k) (hk : k ≤ 1000) (s : ByteArray) (hs : s.size ≤ maxLen) :
    Calls Try.prog 21 #[.pointer (some ⟨g, 0, none⟩), .string s] w fun e w' => e = .returned (.int .i64 (remM C s.data.toList).1) ∧ MidD w0 w' Z g h C (remM C s.data.toList).2 ∧ (∀ k, k < w.heap.size → (k < w0.heap.size ∨ Z k) → w'.heap[k]? = w.heap[k]?) ∧ w.heap.size ≤ w'.heap.size := by
  have hall : CAll C k := by obtain ⟨_, _, _, _, h⟩ := H; exact h
  exact bothD_code H (fun _ h _ => zrem_any h s (call_ok hall hk) hs)

theorem rremove_tw {w : World} {Y : Nat → Prop} {h : Nat} {C : CodM} (H : RTw w Y h C) (hok : COk C) (hops : C.ops < 1000000) (s : ByteArray) :
    Calls Try.prog 22 #[.pointer (some ⟨h, 0, none⟩), .string s] w fun e w' => e = .returned (.int .i64 (remM C s.data.toList).1) ∧ RTwV w w' Y h (remM C s.data.toList).2 := by
  obtain ⟨D, T, L, rs, X, R0⟩ := H
  obtain ⟨hgo, T1⟩ := twin_tick T (by omega)
  have e : (remD D s.data.toList).2 = (remM C s.data.toList).1 ∧ TwinM (remM C s.data.toList).2 (remD D s.data.toList).1 := by
    unfold remD remM
    cases hb : offM D with
    | true =>
      rw [hb] at hgo
      rw [if_pos (by rw [hgo]; rfl)]
      exact ⟨rfl, T1⟩
    | false =>
      rw [hb] at hgo
      rw [if_neg (by rw [hgo]; decide)]
      cases hp : posM D.fs s.data.toList with
      | none =>
        rw [← T.fs, pos_nofind hp]
        exact ⟨rfl, T1⟩
      | some k =>
        obtain ⟨f, h1, h2, h3⟩ := pos_find hp
        rw [← T.fs, h2]
        refine ⟨rfl, ?_⟩
        show TwinM (withM (tickM C) (dropM s.data.toList D.fs)) { D.op with fs := D.fs.eraseIdx k }
        rw [erase_drop (by rw [T.fs]; exact hok.sort) hp]
        exact twin_with T1 _
  refine (rremove_any R0 (by have := T.n; omega) s (by rw [T.fs]; exact hok.len)).mono ?_
  rintro ee w' ⟨rfl, h1, h2⟩
  exact ⟨by rw [e.1], ⟨_, e.2, h1⟩, h2⟩

theorem mid_remove {w0 w : World} {Z : Nat → Prop} {g h : Nat} {C : CodM} {k : Nat} (s : ByteArray) (H : MidD w0 w Z g h C (remM C s.data.toList).2) (hall : CAll C k) (hk : k ≤ 1000) :
    Calls Try.prog 22 #[.pointer (some ⟨h, 0, none⟩), .string s] w fun e w' => e = .returned (.int .i64 (remM C s.data.toList).1) ∧ BothD w0 w' Z g h (remM C s.data.toList).2 (k + 1) :=
  midD_ref H (call_rem hall _) (fun _ h _ => rremove_tw h hall.ok (by have := hall.ops; omega) s)

theorem both_trunc {w0 w : World} {Z : Nat → Prop} {g h : Nat} {C : CodM} {k : Nat} (H : BothD w0 w Z g h C k) (hk : k ≤ 1000) (s : ByteArray) (n : Int) (hs : s.size ≤ maxLen) :
    Calls Try.prog 19 #[.pointer (some ⟨g, 0, none⟩), .string s, .int .i64 n] w fun e w' => e = .returned (.int .i64 (truM C s.data.toList n).1) ∧ MidD w0 w' Z g h C (truM C s.data.toList n).2 ∧ (∀ k, k < w.heap.size → (k < w0.heap.size ∨ Z k) → w'.heap[k]? = w.heap[k]?) ∧ w.heap.size ≤ w'.heap.size := by
  have hall : CAll C k := by obtain ⟨_, _, _, _, h⟩ := H; exact h
  exact bothD_code H (fun _ h _ => ztru_any h s n (call_ok hall hk) hs)

theorem mid_trunc {w0 w : World} {Z : Nat → Prop} {g h : Nat} {C : CodM} {k : Nat} (s : ByteArray) (n : Int) (hn : IntOk n) (H : MidD w0 w Z g h C (truM C s.data.toList n).2) (hall : CAll C k) (hk : k ≤ 1000) :
    Calls Try.prog 20 #[.pointer (some ⟨h, 0, none⟩), .string s, .int .i64 n] w fun e w' => e = .returned (.int .i64 (truM C s.data.toList n).1) ∧ BothD w0 w' Z g h (truM C s.data.toList n).2 (k + 1) :=
  midD_ref H (call_tru hall _ _) (fun _ h _ => rtruncate_any h hall.ok (by have := hall.ops; omega) s n hn)

theorem both_cutD {w0 w : World} {Z : Nat → Prop} {g h : Nat} {C : CodM} {k : Nat} (H : BothD w0 w Z g h C k) (n : Int) :
    Calls Try.prog 23 #[.pointer (some ⟨g, 0, none⟩), .int .i64 n] w fun e w' => e = .returned (.tuple #[]) ∧ MidD w0 w' Z g h C (cutM C n) ∧ (∀ k, k < w.heap.size → (k < w0.heap.size ∨ Z k) → w'.heap[k]? = w.heap[k]?) ∧ w.heap.size ≤ w'.heap.size :=
  bothD_code H (fun _ h _ => zcut_any h n)

theorem mid_cutD {w0 w : World} {Z : Nat → Prop} {g h : Nat} {C : CodM} {k : Nat} (n : Int) (hn : IntOk n) (H : MidD w0 w Z g h C (cutM C n)) (hall : CAll C k) (hk : k ≤ 1000) :
    Calls Try.prog 24 #[.pointer (some ⟨h, 0, none⟩), .int .i64 n] w fun e w' => e = .returned (.tuple #[]) ∧ BothD w0 w' Z g h (cutM C n) (k + 1) :=
  midD_ref H (call_cut hall n hn.2) (fun _ h _ => by
    obtain ⟨D, T, L, rs, X, R0⟩ := h
    refine (rcut_any R0 (by have := T.n; have := hall.ops; omega) n hn).mono ?_
    rintro e w' ⟨rfl, h1, h2⟩
    exact ⟨rfl, rtwV_same (twin_cut T (by have := hall.ops; omega) n) h1 h2⟩)

theorem byteZ_less {w : World} {Z Z' : Nat → Prop} {v : Value} {l : List UInt8} (h : ByteZ w Z v l) (hZ : ∀ k, Z k → Z' k) : ByteZ w Z' v l := byteZ_keep h (fun _ _ _ => rfl) hZ

theorem partsZ_less {w : World} {Z Z' : Nat → Prop} {v : Value} {ls : List (List UInt8)} (h : PartsZ w Z v ls) (hZ : ∀ k, Z k → Z' k) : PartsZ w Z' v ls := by
  rcases h with h | ⟨A, C, rfl, hl⟩
  · exact .inl h
  · refine .inr ⟨A, C, rfl, hl.imp id (fun ⟨b, o, ha, hb, hc⟩ => ⟨b, o, ha, hZ b hb, fun j l hj => ?_⟩)⟩
    obtain ⟨u, hu, hz⟩ := hc j l hj
    exact ⟨u, hu, byteZ_less hz hZ⟩

theorem both_appD {w0 w : World} {Z : Nat → Prop} {g h : Nat} {C : CodM} {k : Nat} (H : BothD w0 w Z g h C k) (hk : k ≤ 1000) (s : ByteArray) (ls : List (List UInt8)) (v : Value) (hp : PartsZ w (fun k => k < w0.heap.size ∨ Z k) v ls) (hl : ls.flatten.length < 1099511627776) (hn : ls.length < 9223372036854775807) :
    Calls Try.prog 10 #[.pointer (some ⟨g, 0, none⟩), .string s, v] w fun e w' => e = .returned (.int .i64 (appM C s.data.toList ls.flatten).1) ∧ MidD w0 w' Z g h C (appM C s.data.toList ls.flatten).2 ∧ (∀ k, k < w.heap.size → (k < w0.heap.size ∨ Z k) → w'.heap[k]? = w.heap[k]?) ∧ w.heap.size ≤ w'.heap.size := by
  have hall : CAll C k := by obtain ⟨_, _, _, _, h⟩ := H; exact h
  exact bothD_code H (fun _ h hZ => zapp_any h s ls v (call_ok hall hk) (partsZ_less hp (fun k hk => hk.imp id (hZ k))) hl hn)

theorem mid_appD {w0 w : World} {Z : Nat → Prop} {g h : Nat} {C : CodM} {k : Nat} (s : ByteArray) (m : List UInt8) (v : Value) (H : MidD w0 w Z g h C (appM C s.data.toList m).2) (hall : CAll C k) (hk : k ≤ 1000) (hv : ByteZ w (fun k => k < w0.heap.size ∨ Z k) v m) (hm : m.length < 1000000) :
    Calls Try.prog 15 #[.pointer (some ⟨h, 0, none⟩), .string s, v] w fun e w' => e = .returned (.int .i64 (appM C s.data.toList m).1) ∧ BothD w0 w' Z g h (appM C s.data.toList m).2 (k + 1) :=
  midD_ref H (call_app hall _ _) (fun _ h hk2 => rappend_any h hall.ok (by have := hall.ops; omega) s v m (fun w' hkY => byteZ_sl hv (fun k hlt hz => hk2 w' hkY k hlt hz) hkY.size) hm)

theorem both_synD {w0 w : World} {Z : Nat → Prop} {g h : Nat} {C : CodM} {k : Nat} (H : BothD w0 w Z g h C k) (hk : k ≤ 1000) (ns : List ByteArray) (b o c : Nat) (hb2 : b < w0.heap.size ∨ Z b) (hp : ∀ (j : Nat) (s : ByteArray), ns[j]? = some s → w.cell? ⟨b, o + j, none⟩ = some (.string s)) (hs : ∀ s ∈ ns, s.size ≤ maxLen) (hn : ns.length < 9223372036854775807) :
    Calls Try.prog 11 #[.pointer (some ⟨g, 0, none⟩), .slice (some ⟨b, o, none⟩) ns.length c] w fun e w' => e = .returned (.int .i64 (synM C ns).1) ∧ MidD w0 w' Z g h C (synM C ns).2 ∧ (∀ k, k < w.heap.size → (k < w0.heap.size ∨ Z k) → w'.heap[k]? = w.heap[k]?) ∧ w.heap.size ≤ w'.heap.size := by
  have hall : CAll C k := by obtain ⟨_, _, _, _, h⟩ := H; exact h
  exact bothD_code H (fun _ h hZ => zsyn_any h ns b o c (call_ok hall hk) (hb2.imp id (hZ b)) hp hs hn)

theorem mid_synD {w0 w : World} {Z : Nat → Prop} {g h : Nat} {C : CodM} {k : Nat} (ns : List ByteArray) (b c : Nat) (H : MidD w0 w Z g h C (synM C ns).2) (hall : CAll C k) (hk : k ≤ 1000) (hne : ns ≠ []) (hb2 : b < w0.heap.size ∨ Z b) (hp : ∀ (j : Nat) (s : ByteArray), ns[j]? = some s → w.cell? ⟨b, j, none⟩ = some (.string s)) (hn : ns.length < 1000) :
    Calls Try.prog 16 #[.pointer (some ⟨h, 0, none⟩), .slice (some ⟨b, 0, none⟩) ns.length c] w fun e w' => e = .returned (.int .i64 (synM C ns).1) ∧ BothD w0 w' Z g h (synM C ns).2 (k + 1) :=
  midD_ref H (call_syn hall _) (fun _ h hk2 => rsync_any h hall.ok (by have := hall.ops; omega) ns b c hne (fun w' hkY j s hj => cell_same (hp j s hj) (hk2 w' hkY b (block_of_cell (hp j s hj)) hb2)) hn)

theorem both_crashD {w0 w : World} {Z : Nat → Prop} {g h : Nat} {C : CodM} {k : Nat} (H : BothD w0 w Z g h C k) (hk : k ≤ 1000) (ps : List Int) (pv : Value) (hp : PickAt w pv ps) (hri : RangeI ps) (hpl : ps.length < 140737488355328) :
    Calls Try.prog 12 #[.pointer (some ⟨g, 0, none⟩), pv] w fun e w1 => ∃ g', e = .returned (.pointer (some ⟨g', 0, none⟩)) ∧ Below w.heap.size w w1 ∧
      Calls Try.prog 25 #[.pointer (some ⟨h, 0, none⟩), pv] w1 fun e w2 => ∃ h', e = .returned (.pointer (some ⟨h', 0, none⟩)) ∧ BothD w0 w2 (fun k => Z k) g' h' (crashM C ps) (k + 1) := by
  obtain ⟨Y, h1, h2, h3, h4⟩ := H
  refine (zcrash_any h1 ps pv (call_ok h4 hk) hp hri (fun f hf => by have := h4.nam f hf; unfold maxLen; omega)).mono ?_
  rintro e w1 ⟨rfl, hd0, hd1, hb1⟩
  refine ⟨_, rfl, hb1, ?_⟩
  have hr1 : RTw w1 Y h C := rtw_keepY h2 hb1.size (fun k hk _ => hb1.block k hk)
  refine (rcrash_any hr1 h4.ok ps pv (pickAt_below hp hb1) hri hpl).mono ?_
  rintro e w2 ⟨rfl, hr2, hb2⟩
  have hZ0 : ∀ k, Z k → k < w.heap.size := fun k hz => by
    obtain ⟨F, _, _, hZ, _⟩ := h1
    exact hZ k (.inr hz)
  have hs0 := (dIn_below h1).size
  have hs1 := hb1.size
  refine ⟨_, rfl, fun b => w1.heap.size ≤ b ∧ b < w2.heap.size, dIn_less (dIn_new hd1 hb2) (fun k hk => hk.elim .inr (fun hz => .inl (hZ0 k hz))), hr2, fun k hk => ⟨by omega, hk.2, fun hz => by have := hZ0 k hz; omega⟩, call_crash h4 ps⟩

theorem both_copyD {w0 w : World} {Z : Nat → Prop} {g h : Nat} {C : CodM} {k : Nat} (H : BothD w0 w Z g h C k) (hk : k ≤ 1000) :
    Calls Try.prog 26 #[.pointer (some ⟨g, 0, none⟩)] w fun e w1 => ∃ g', e = .returned (.pointer (some ⟨g', 0, none⟩)) ∧ Below w.heap.size w w1 ∧
      Calls Try.prog 27 #[.pointer (some ⟨h, 0, none⟩)] w1 fun e w2 => ∃ h', e = .returned (.pointer (some ⟨h', 0, none⟩)) ∧ BothD w0 w2 (fun k => Z k) g' h' C (k + 1) := by
  obtain ⟨Y, h1, h2, h3, h4⟩ := H
  refine (zcopy_any h1 (call_ok h4 hk)).mono ?_
  rintro e w1 ⟨rfl, hd0, hd1, hb1⟩
  refine ⟨_, rfl, hb1, ?_⟩
  have hr1 : RTw w1 Y h C := rtw_keepY h2 hb1.size (fun k hk _ => hb1.block k hk)
  refine (rcopy_any hr1 h4.ok).mono ?_
  rintro e w2 ⟨h', rfl, hr2, hb2⟩
  have hZ0 : ∀ k, Z k → k < w.heap.size := fun k hz => by
    obtain ⟨F, _, _, hZ, _⟩ := h1
    exact hZ k (.inr hz)
  have hs0 := (dIn_below h1).size
  have hs1 := hb1.size
  have hs2 := hb2.size
  refine ⟨_, rfl, fun b => Y b ∨ (w1.heap.size ≤ b ∧ b < w2.heap.size), dIn_less (dIn_new hd1 hb2) (fun k hk => ?_), hr2, fun k hk => ?_, call_more h4⟩
  · rcases hk with (hk | hk) | hz
    · exact .inl (h3 k hk).2.1
    · exact .inr hk
    · exact .inl (hZ0 k hz)
  · rcases hk with hk | hk
    · obtain ⟨x, y, z⟩ := h3 k hk
      exact ⟨x, by omega, z⟩
    · exact ⟨by omega, hk.2, fun hz => by have := hZ0 k hz; omega⟩

end Go.Proofs.Ytfiocghgjjandaa
