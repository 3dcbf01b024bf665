/- The reference disk by records: a file, its bytes' slice; all its blocks lie in Y. Contracts: New, bad, off, Cut, find. -/
import Derived.BigRegion
import Derived.Deep.RegionHeld3
import Derived.Maps.AppendAt
import Derived.Test.YtfiocghgjjandaaProg
import Derived.Test.YtfiocghgjjandaaKit
import Derived.Test.YtfiocghgjjandaaInfo
import Derived.Test.YtfiocghgjjandaaRow
import Derived.Test.YtfiocghgjjandaaSha
import Derived.Test.YtfiocghgjjandaaRow2
import Derived.Test.YtfiocghgjjandaaCod7
import Derived.Test.YtfiocghgjjandaaCod9
import Derived.Test.YtfiocghgjjandaaFrm8
import Derived.Test.YtfiocghgjjandaaFp
import Derived.Test.YtfiocghgjjandaaRdk0
import Derived.Test.YtfiocghgjjandaaDsk1
import Derived.Test.YtfiocghgjjandaaDsk17
import Derived.Test.YtfiocghgjjandaaNet0
namespace Go.Proofs.Ytfiocghgjjandaa
open Go.RowKit Go.Proofs

structure RecF where
  f : FileM
  u : Value

def cellsF (r : RecF) : List Value := [nameV r.f.name, r.u, .int .i64 r.f.syn]

def rowsF (rs : List RecF) : List Value := (rs.map cellsF).flatten

theorem rowsF_len3 : ∀ rs : List RecF, (rowsF rs).length = rs.length * 3
  | [] => rfl
  | r :: rs => by
    have := rowsF_len3 rs
    unfold rowsF at this ⊢
    rw [List.map_cons, List.flatten_cons, List.length_append, this, List.length_cons]
    show 3 + _ = _
    omega

theorem rowsF_app (a b : List RecF) : rowsF (a ++ b) = rowsF a ++ rowsF b := by unfold rowsF; rw [List.map_append, List.flatten_append]

theorem rowsF_one (r : RecF) : rowsF [r] = cellsF r := by unfold rowsF; simp

theorem rowsF_take : ∀ (rs : List RecF) (k : Nat), rowsF (rs.take k) = (rowsF rs).take (k * 3)
  | [], k => by simp [rowsF]
  | r :: rs, 0 => by simp [rowsF]
  | r :: rs, k + 1 => by
    have ih := rowsF_take rs k
    unfold rowsF at ih ⊢
    rw [List.take_succ_cons, List.map_cons, List.flatten_cons, ih, List.map_cons, List.flatten_cons, List.take_append, show (cellsF r).length = 3 from rfl, show (k + 1) * 3 - 3 = k * 3 by omega, List.take_of_length_le (l := cellsF r) (by show 3 ≤ _; omega)]

theorem rowsF_drop : ∀ (rs : List RecF) (k : Nat), rowsF (rs.drop k) = (rowsF rs).drop (k * 3)
  | [], k => by simp [rowsF]
  | r :: rs, 0 => by simp [rowsF]
  | r :: rs, k + 1 => by
    have ih := rowsF_drop rs k
    unfold rowsF at ih ⊢
    rw [List.drop_succ_cons, ih, List.map_cons, List.flatten_cons, List.drop_append, show (cellsF r).length = 3 from rfl, show (k + 1) * 3 - 3 = k * 3 by omega, List.drop_of_length_le (l := cellsF r) (by show 3 ≤ _; omega), List.nil_append]

theorem rowsF_at {rs : List RecF} {k : Nat} {r : RecF} (h : rs[k]? = some r) {j : Nat} {v : Value} (hj : (cellsF r)[j]? = some v) : (rowsF rs)[k * 3 + j]? = some v := by
  have h1 := rowsF_drop rs k
  have hk : k < rs.length := (List.getElem?_eq_some_iff.1 h).1
  have h2 : rs.drop k = r :: rs.drop (k + 1) := by
    rw [List.drop_eq_getElem_cons hk]
    congr 1
    exact (List.getElem?_eq_some_iff.1 h).2
  rw [h2] at h1
  unfold rowsF at h1
  rw [List.map_cons, List.flatten_cons] at h1
  rw [show (rowsF rs)[k * 3 + j]? = ((rowsF rs).drop (k * 3))[j]? by rw [List.getElem?_drop]]
  unfold rowsF
  rw [← h1, List.getElem?_append_left (List.getElem?_eq_some_iff.1 hj).1]
  exact hj

/-- The reference disk behind a pointer to block h: its row L of the records rs, their bytes in X; all of it in Y. -/
structure RefR (w : World) (Y : Nat → Prop) (h : Nat) (D : DiskM) (L : Value) (rs : List RecF) (X : Nat → Prop) : Prop where
  fs : rs.map (·.f) = D.fs
  yh : Y h
  rwd : Rw w 0 h 50 [.int .i64 D.room, L, .int .i64 D.n, .int .i64 D.last]
  own : w.ownsRow 0 84 3 L rs.length (rowsF rs)
  yl : ∀ k, L.ownBlock = some k → Y k
  xy : ∀ k, X k → Y k ∧ k ≠ h ∧ L.ownBlock ≠ some k ∧ k < w.heap.size
  bys : ∀ r ∈ rs, ByteZ w X r.u r.f.b

def RefI (w : World) (Y : Nat → Prop) (h : Nat) (D : DiskM) : Prop := ∃ L rs X, RefR w Y h D L rs X

/-- What a call leaves. -/
def RefV (w w' : World) (Y : Nat → Prop) (h : Nat) (D : DiskM) : Prop := RefI w' (fun k => Y k ∨ (w.heap.size ≤ k ∧ k < w'.heap.size)) h D ∧ Kept Y w w'

theorem byteZ_keep {w w' : World} {Z Z' : Nat → Prop} {v : Value} {l : List UInt8} (h : ByteZ w Z v l) (hk : ∀ k, k < w.heap.size → Z k → w'.heap[k]? = w.heap[k]?) (hZ : ∀ k, Z k → Z' k) : ByteZ w' Z' v l := by
  rcases h with h | ⟨ad, c, rfl, hc, hl⟩
  · exact .inl h
  · refine .inr ⟨ad, c, rfl, hc, ?_⟩
    rcases hl with rfl | ⟨b, o, rfl, hb, hat⟩
    · exact .inl rfl
    · by_cases hne : l = []
      · exact .inl hne
      · obtain ⟨x, hx⟩ : ∃ x, l[0]? = some x := by cases l with | nil => exact absurd rfl hne | cons a t => exact ⟨a, rfl⟩
        have hlt := block_of_cell (hat 0 x hx)
        exact .inr ⟨b, o, rfl, hZ b hb, fun j y hj => cell_same (hat j y hj) (hk b hlt hb)⟩

theorem refR_lt {w : World} {Y : Nat → Prop} {h : Nat} {D : DiskM} {L : Value} {rs : List RecF} {X : Nat → Prop} (H : RefR w Y h D L rs X) : h < w.heap.size := Rw.size H.rwd

theorem refR_lh {w : World} {Y : Nat → Prop} {h : Nat} {D : DiskM} {L : Value} {rs : List RecF} {X : Nat → Prop} (H : RefR w Y h D L rs X) : L.ownBlock ≠ some h := own_rw H.own H.rwd (by decide)

theorem heap_put (w : World) {g k : Nat} (hk : k ≠ g) (j : Nat) (u : Value) : (w.setCell ⟨g, j, none⟩ u).heap[k]? = w.heap[k]? := by
  simp only [World.setCell, Array.getElem?_modify]
  rw [if_neg (fun e => hk e.symm)]

/-- A store of a number into the struct itself. -/
theorem refR_put {w : World} {Y : Nat → Prop} {h : Nat} {D D' : DiskM} {L : Value} {rs : List RecF} {X : Nat → Prop} (H : RefR w Y h D L rs X) (j : Nat) (u : Value) (hD : [Value.int .i64 D.room, L, .int .i64 D.n, .int .i64 D.last].set j u = [.int .i64 D'.room, L, .int .i64 D'.n, .int .i64 D'.last]) (hfs : D'.fs = D.fs) :
    RefR (w.setCell ⟨h, j, none⟩ u) Y h D' L rs X :=
  ⟨H.fs.trans hfs.symm, H.yh, by rw [← hD]; exact Rw.stored H.rwd j u, own_same H.own (fun k hk => heap_put w (fun e => refR_lh H (by rw [← e]; exact hk)) j u), H.yl,
    fun k hk => ⟨(H.xy k hk).1, (H.xy k hk).2.1, (H.xy k hk).2.2.1, by have := (H.xy k hk).2.2.2; simpa [World.setCell] using this⟩,
    fun r hr => byteZ_keep (H.bys r hr) (fun k _ hk => heap_put w (H.xy k hk).2.1 j u) (fun _ h => h)⟩

/-- New blocks, nothing that was there turned. -/
theorem refR_below {w w' : World} {Y : Nat → Prop} {h : Nat} {D : DiskM} {L : Value} {rs : List RecF} {X : Nat → Prop} (H : RefR w Y h D L rs X) (hb : Below w.heap.size w w') : RefR w' Y h D L rs X :=
  ⟨H.fs, H.yh, Rw.below H.rwd hb, own_below H.own hb, H.yl, fun k hk => ⟨(H.xy k hk).1, (H.xy k hk).2.1, (H.xy k hk).2.2.1, Nat.lt_of_lt_of_le (H.xy k hk).2.2.2 hb.size⟩, fun r hr => byteZ_keep (H.bys r hr) (fun k hk _ => hb.block k hk) (fun _ h => h)⟩

theorem refR_more {w : World} {Y Y' : Nat → Prop} {h : Nat} {D : DiskM} {L : Value} {rs : List RecF} {X : Nat → Prop} (H : RefR w Y h D L rs X) (hY : ∀ k, Y k → Y' k) : RefR w Y' h D L rs X :=
  ⟨H.fs, hY h H.yh, H.rwd, H.own, fun k hk => hY k (H.yl k hk), fun k hk => ⟨hY k (H.xy k hk).1, (H.xy k hk).2⟩, H.bys⟩

theorem nil_sz {s : ByteArray} (h : s.size = 0) : s.data.toList = [] := List.eq_nil_of_length_eq_zero (by rw [size_data]; exact h)

/-! a name that may not be -/
theorem rbad_any (s : ByteArray) (w : World) : Calls Try.prog 45 #[.string s] w fun e w' => e = .returned (.bool (!nameB s.data.toList)) ∧ w' = w := by
  by_cases h0 : s.size = 0
  · have hse := emptyYes h0
    have hN : nameB s.data.toList = false := by unfold nameB; rw [nil_sz h0]; rfl
    rw [hN]
    clear hN h0
    go_enter Try.func45, Try.ntmps45
    go_wp2
    go_ret
    exact ⟨rfl, rfl⟩
  · have hse := emptyNo h0
    have hne : s.data.toList ≠ [] := fun e => h0 (by rw [← size_data, e]; rfl)
    by_cases h1 : 100 < (s.size : Int)
    · have hN : nameB s.data.toList = false := by unfold nameB; rw [size_data, decide_eq_false (by omega : ¬ s.size ≤ 100), Bool.and_false]
      rw [hN]
      clear hN h0 hne
      go_enter Try.func45, Try.ntmps45
      go_wp2
      go_ret
      exact ⟨rfl, rfl⟩
    · have hN : nameB s.data.toList = true := by unfold nameB; rw [size_data, decide_eq_true (by omega : s.size ≤ 100)]; simpa using hne
      rw [hN]
      clear hN h0 hne
      go_enter Try.func45, Try.ntmps45
      go_wp2
      go_ret
      exact ⟨rfl, rfl⟩

/-! one op more -/
theorem roff_any {w : World} {Y : Nat → Prop} {h : Nat} {D : DiskM} {L : Value} {rs : List RecF} {X : Nat → Prop} (H : RefR w Y h D L rs X) (hn : D.n < 1000000000) :
    Calls Try.prog 44 #[.pointer (some ⟨h, 0, none⟩)] w fun e w' => e = .returned (.bool (offM D)) ∧ RefR w' Y h D.op L rs X ∧ Kept (fun k => k = h) w w' := by
  have h2 := refR_put H 2 (.int .i64 ((D.n : Int) + 1)) (D' := D.op) rfl rfl
  have hk : Kept (fun k => k = h) w (w.setCell ⟨h, 2, none⟩ (.int .i64 ((D.n : Int) + 1))) := kept_put (kept_refl (fun k => k = h) w) (.inl rfl) 2 _
  have c2 : w.cell? ⟨h, 2, none⟩ = some (.int .i64 D.n) := Rw.cell H.rwd rfl
  have f2 := Rw.free H.rwd 2
  have c3 : w.cell? ⟨h, 3, none⟩ = some (.int .i64 D.last) := Rw.cell H.rwd rfl
  obtain ⟨N, hN⟩ : ∃ N, N = D.n := ⟨_, rfl⟩
  obtain ⟨X2, hX⟩ : ∃ X, X = D.last := ⟨_, rfl⟩
  have HOFF : Hid (offM D = (decide (0 ≤ X2) && decide (X2 < (N : Int) + 1))) := Lib.hid (by unfold offM; rw [hX, hN])
  rw [← hN] at c2 hn h2 hk
  rw [← hX] at c3
  have H2 := Lib.hid h2
  have HK := Lib.hid hk
  have hnb : (N : Int) < 1000000000 := by omega
  have HDR : Hid (∀ W, RefR W Y h D.op L rs X → RefR W.drew Y h D.op L rs X) := Lib.hid (fun W hW => refR_below hW (below_drewN (Below.refl _ _) 1))
  clear H h2 hk hN hX hn
  by_cases h0 : 0 ≤ X2
  · by_cases h1 : X2 < (N : Int) + 1
    · rw [decide_eq_true h0, decide_eq_true h1] at HOFF
      go_enter Try.func44, Try.ntmps44
      go_wp2_with fail
      go_region
      go_wp2
      go_ret
      exact ⟨by rw [HOFF.out]; rfl, HDR.out _ H2.out, kept_draw HK.out ⟨1, rfl⟩⟩
    · rw [decide_eq_true h0, decide_eq_false h1] at HOFF
      have hd1 : (X2 < (N : Int) + 1) = False := eq_false h1
      go_enter Try.func44, Try.ntmps44
      go_wp2_with fail
      go_region
      go_wp2
      go_ret
      exact ⟨by rw [HOFF.out]; first | rfl | (show Ending.returned (.bool (decide (X2 < (N : Int) + 1))) = _; rw [decide_eq_false (by omega)]; rfl), HDR.out _ H2.out, kept_draw HK.out ⟨1, rfl⟩⟩
  · rw [decide_eq_false h0, Bool.false_and] at HOFF
    have hd0 : (0 ≤ X2) = False := eq_false h0
    go_enter Try.func44, Try.ntmps44
    go_wp2_with fail
    go_region
    go_wp2
    go_ret
    exact ⟨by rw [HOFF.out]; rfl, HDR.out _ H2.out, kept_draw HK.out ⟨1, rfl⟩⟩

/-! a file's place -/
theorem own_addr {w : World} {e : TypeId} {s n : Nat} {L : Value} {xs : List Value} (h : w.ownsRow 0 e s L n xs) : ∃ a c, L = .slice a n c ∧ (n = 0 ∨ ∃ g, a = some ⟨g, 0, none⟩) ∧ (n ≤ c ∨ n = 0) := by
  rcases h.2 with ⟨rfl, hn⟩ | ⟨g, cap, cur, rfl, _, _, hc, _⟩
  · exact ⟨none, 0, by rw [hn], .inl hn, .inr hn⟩
  · exact ⟨_, cap, rfl, .inr ⟨g, rfl⟩, .inl hc⟩

theorem rec_cells {w : World} {g n c : Nat} {rs : List RecF} (h : w.ownsRow 0 84 3 (.slice (some ⟨g, 0, none⟩) n c) rs.length (rowsF rs)) {k : Nat} {r : RecF} (hk : rs[k]? = some r) {j : Nat} {v : Value} (hj : (cellsF r)[j]? = some v) : w.cell? ⟨g, k * 3 + j, none⟩ = some v := by
  have hkl := (List.getElem?_eq_some_iff.1 hk).1
  have hj3 : j < 3 := (List.getElem?_eq_some_iff.1 hj).1
  have hn : n = rs.length := by
    rcases h.2 with ⟨e, _⟩ | ⟨g, cap, cur, e, _⟩
    · cases e
    · injection e
  subst hn
  rw [World.ownsRow.cellAt h (k * 3 + j) (by omega)]
  exact rowsF_at hk hj

theorem rfind_any {w : World} {Y : Nat → Prop} {h : Nat} {D : DiskM} {L : Value} {rs : List RecF} {X : Nat → Prop} (H : RefR w Y h D L rs X) (s : ByteArray) (hl : rs.length < 1000000) :
    Calls Try.prog 46 #[.pointer (some ⟨h, 0, none⟩), .string s] w fun e w' => e = .returned (.int .i64 (posI D.fs s.data.toList)) ∧ w' = w := by
  obtain ⟨a, c, rfl, ha, _⟩ := own_addr H.own
  obtain ⟨n, hn⟩ : ∃ n, n = rs.length := ⟨_, rfl⟩
  have c1 : w.cell? ⟨h, 1, none⟩ = some (.slice a rs.length c) := Rw.cell H.rwd rfl
  have HO := Lib.hid H.own
  have HFS := Lib.hid H.fs
  rw [← hn] at c1 hl ha
  have HN := Lib.hid hn
  have HA := Lib.hid ha
  have hlb : (n : Int) < 1000000 := by omega
  clear H hn ha hl
  go_enter Try.func46, Try.ntmps46
  go_wp2_with fail
  go_loop [5] (fun i => ∃ k : Nat, k ≤ n ∧ i = .int .i64 k ∧ Hid (∀ (j : Nat) (f : FileM), j < k → D.fs[j]? = some f → f.name ≠ s.data.toList)) (fun i => n - (intOf i).toNat)
  case atStart => exact ⟨0, Nat.zero_le _, rfl, Lib.hid (fun j f hj => absurd hj (Nat.not_lt_zero _))⟩
  case round =>
    obtain ⟨k, hk, rfl, HB⟩ := hrel
    by_cases hlt : k < n
    · obtain ⟨r, hr⟩ : ∃ r, rs[k]? = some r := ⟨_, List.getElem?_eq_getElem (by rw [← HN.out]; exact hlt)⟩
      obtain ⟨gl, rfl⟩ := HA.out.resolve_left (by omega)
      have cn := rec_cells (j := 0) (by have := HO.out; rw [← HN.out] at this ⊢; exact this) hr rfl
      have hf : D.fs[k]? = some r.f := by rw [← HFS.out, List.getElem?_map, hr]; rfl
      unfold nameV at cn
      obtain ⟨nm, hnm⟩ : ∃ nm : ByteArray, nm = ⟨r.f.name.toArray⟩ := ⟨_, rfl⟩
      rw [← hnm, Nat.add_zero] at cn
      have hy : (k : Int) < (n : Int) := by omega
      have HKL := Lib.hid hlt
      have heq : (nm.toList == s.toList) = decide (r.f.name = s.data.toList) := by
        rw [hnm, ByteArray.toList_eq, ByteArray.toList_eq, Bool.eq_iff_iff]
        simp
      clear hnm
      by_cases hs : r.f.name = s.data.toList
      · rw [decide_eq_true hs] at heq
        have HP : Hid (posI D.fs s.data.toList = (k : Int)) := Lib.hid (by unfold posI; rw [posM_hit hf hs HB.out])
        clear hs hf hlt hk hr
        go_wp2_with fail
        go_ret
        exact ⟨by rw [HP.out]; rfl, rfl⟩
      · rw [decide_eq_false hs] at heq
        have HB2 : Hid (∀ (j : Nat) (f : FileM), j < k + 1 → D.fs[j]? = some f → f.name ≠ s.data.toList) := Lib.hid (fun j f2 hj hf2 => by
          rcases (by omega : j < k ∨ j = k) with h | h
          · exact HB.out j f2 h hf2
          · subst h
            rw [hf] at hf2
            cases hf2
            exact hs)
        clear hs hf hlt hk hr
        go_wp2_with fail
        go_round
        case rel => have := HKL.out; exact ⟨k + 1, by omega, by go_num, HB2⟩
        case measure => have := HKL.out; simp [intOf]; omega
    · have HP : Hid (posI D.fs s.data.toList = -1) := Lib.hid (by
        unfold posI
        rw [posM_none (fun j f hj => HB.out j f (by
          have h1 := (List.getElem?_eq_some_iff.1 hj).1
          rw [← HFS.out, List.length_map, ← HN.out] at h1
          omega) hj)])
      have hyk : ¬ (k : Int) < (n : Int) := by omega
      clear hlt hk
      go_wp2_with fail
      go_ret
      exact ⟨by rw [HP.out]; rfl, rfl⟩

def RNewV (w w' : World) (room : Int) (e : Ending) : Prop :=
  ((room < 0 ∨ 4194304 < room) ∧ e = .returned (.tuple #[.pointer none, .int .i64 1]) ∧ w' = w) ∨
      ((0 ≤ room ∧ room ≤ 4194304) ∧ e = .returned (.tuple #[.pointer (some ⟨w.heap.size, 0, none⟩), .int .i64 0]) ∧ Below w.heap.size w w' ∧ RefR w' (fun k => k = w.heap.size) w.heap.size ⟨room, [], 0, -1⟩ (.slice none 0 0) [] (fun _ => False))

theorem rnew_any (room : Int) (_hr : -9223372036854775808 ≤ room ∧ room ≤ 9223372036854775807) (w : World) :
    Calls Try.prog 7 #[.int .i64 room] w fun e w' => RNewV w w' room e := by
  by_cases h0 : room < 0
  · go_enter Try.func7, Try.ntmps7
    go_wp2
    go_ret2
    exact .inl ⟨.inl h0, rfl, rfl⟩
  · by_cases h1 : 4194304 < room
    · go_enter Try.func7, Try.ntmps7
      go_wp2
      go_ret2
      exact .inl ⟨.inr h1, rfl, rfl⟩
    · have hR := Rw.alloc w 50 #[.int .i64 room, .slice none 0 0, .int .i64 0, .int .i64 (-1)] (Nat.zero_le w.heap.size)
      have HB := Lib.hid (below_more (Below.refl w.heap.size w) (.cells #[.int .i64 room, .slice none 0 0, .int .i64 0, .int .i64 (-1)] 50))
      have HR : Hid (RefR (w.alloc (.cells #[.int .i64 room, .slice none 0 0, .int .i64 0, .int .i64 (-1)] 50)) (fun k => k = w.heap.size) w.heap.size ⟨room, [], 0, -1⟩ (.slice none 0 0) [] (fun _ => False)) := Lib.hid
        ⟨rfl, rfl, hR, World.ownsRow_nil _ _ _ _, fun k hk => by simp [Value.ownBlock] at hk, fun k hk => hk.elim, fun r hr => absurd hr (by simp)⟩
      clear hR
      go_enter Try.func7, Try.ntmps7
      go_wp2
      go_ret2
      exact .inr ⟨⟨by omega, by omega⟩, rfl, HB.out, HR.out⟩

def DiskM.cutAt (D : DiskM) (n : Int) : DiskM := { D with last := (D.n : Int) + min (max n 0) 1152921504606846976 }

theorem rcut_at {w : World} {Y : Nat → Prop} {h : Nat} {D : DiskM} {L : Value} {rs : List RecF} {X : Nat → Prop} (H : RefR w Y h D L rs X) (M : Int) (D' : DiskM) (hD : D' = { D with last := (D.n : Int) + M }) :
    RefR (w.setCell ⟨h, 3, none⟩ (.int .i64 ((D.n : Int) + M))) Y h D' L rs X ∧ Kept (fun k => k = h) w (w.setCell ⟨h, 3, none⟩ (.int .i64 ((D.n : Int) + M))) := by
  subst hD
  exact ⟨refR_put H 3 (.int .i64 ((D.n : Int) + M)) rfl rfl, kept_put (kept_refl (fun k => k = h) w) (.inl rfl) 3 _⟩

theorem rcut_any {w : World} {Y : Nat → Prop} {h : Nat} {D : DiskM} {L : Value} {rs : List RecF} {X : Nat → Prop} (H : RefR w Y h D L rs X) (hn : D.n < 1000000000) (n : Int) (hb : -9223372036854775808 ≤ n ∧ n ≤ 9223372036854775807) :
    Calls Try.prog 24 #[.pointer (some ⟨h, 0, none⟩), .int .i64 n] w fun e w' => e = .returned (.tuple #[]) ∧ RefR w' Y h (D.cutAt n) L rs X ∧ Kept (fun k => k = h) w w' := by
  have c2 : w.cell? ⟨h, 2, none⟩ = some (.int .i64 D.n) := Rw.cell H.rwd rfl
  have c3 : w.cell? ⟨h, 3, none⟩ = some (.int .i64 D.last) := Rw.cell H.rwd rfl
  have f3 := Rw.free H.rwd 3
  have HC := Lib.hid (fun M (hM : min (max n 0) 1152921504606846976 = M) => rcut_at H M (D.cutAt n) (by unfold DiskM.cutAt; rw [hM]))
  obtain ⟨N, hN⟩ : ∃ N : Int, N = (D.n : Int) := ⟨_, rfl⟩
  rw [← hN] at c2 HC
  have hN0 : 0 ≤ N ∧ N < 1000000000 := by omega
  clear H hN hn
  by_cases h0 : n < 0
  · have H2 := Lib.hid (HC.out 0 (by omega))
    have m1 : max n 0 = 0 := by omega
    have m2 : min (0 : Int) 1152921504606846976 = 0 := by omega
    rw [Int.add_zero] at H2
    go_enter Try.func24, Try.ntmps24
    go_wp2
    go_end0
    exact ⟨rfl, H2.out⟩
  · by_cases h1 : n ≤ 1152921504606846976
    · have H2 := Lib.hid (HC.out n (by omega))
      have m1 : max n 0 = n := by omega
      have m2 : min n 1152921504606846976 = n := by omega
      go_enter Try.func24, Try.ntmps24
      go_wp2
      go_end0
      exact ⟨rfl, H2.out⟩
    · have H2 := Lib.hid (HC.out 1152921504606846976 (by omega))
      have m1 : max n 0 = n := by omega
      have m2 : min n 1152921504606846976 = 1152921504606846976 := by omega
      go_enter Try.func24, Try.ntmps24
      go_wp2
      go_end0
      exact ⟨rfl, H2.out⟩

theorem kcell_moreR {w : World} {b j : Nat} {x : Value} (h : w.cell? ⟨b, j, none⟩ = some x) (o : Obj) : (w.alloc o).cell? ⟨b, j, none⟩ = some x := cell_same h ((below_more (Below.refl _ _) o).block b (block_of_cell h))

def RReadV (w w' : World) (D : DiskM) (s : ByteArray) (e : Ending) : Prop :=
  ((posM D.fs s.data.toList = none ∧ e = .returned (.tuple #[.slice none 0 0, .int .i64 4])) ∨
      ∃ k f v, posM D.fs s.data.toList = some k ∧ D.fs[k]? = some f ∧ e = .returned (.tuple #[v, .int .i64 0]) ∧ w'.ownsRow w.heap.size 5 1 v f.b.length (f.b.map byteV)) ∧ Below w.heap.size w w'

set_option maxRecDepth 100000 in
/-- Read. -/
theorem rread_any {w : World} {Y : Nat → Prop} {h : Nat} {D : DiskM} {L : Value} {rs : List RecF} {X : Nat → Prop} (H : RefR w Y h D L rs X) (s : ByteArray) (hl : rs.length ≤ 64) (hz : ∀ r ∈ rs, r.f.b.length < 1000000000) :
    Calls Try.prog 32 #[.pointer (some ⟨h, 0, none⟩), .string s] w fun e w' => RReadV w w' D s e := by
  have HF := Lib.hid (rfind_any H s (by omega))
  cases hp : posM D.fs s.data.toList with
  | none =>
    have hpi : posI D.fs s.data.toList = -1 := by unfold posI; rw [hp]
    rw [hpi] at HF
    clear H hpi
    go_enter Try.func32, Try.ntmps32
    go_wp2_with fail
    refine HF.out.mono ?_
    rintro e w1 ⟨rfl, rfl⟩
    go_wp2
    go_ret2
    exact ⟨.inl ⟨hp, rfl⟩, Below.refl _ _⟩
  | some k =>
    have hpi : posI D.fs s.data.toList = (k : Int) := by unfold posI; rw [hp]
    rw [hpi] at HF
    obtain ⟨f, hf, _⟩ := posM_some hp
    obtain ⟨r, hr, hrf⟩ : ∃ r, rs[k]? = some r ∧ r.f = f := by
      rw [← H.fs, List.getElem?_map] at hf
      obtain ⟨r, hr, e⟩ := Option.map_eq_some_iff.1 hf
      exact ⟨r, hr, e⟩
    subst hrf
    obtain ⟨a, c, rfl, ha, _⟩ := own_addr H.own
    have hkl := (List.getElem?_eq_some_iff.1 hr).1
    obtain ⟨gl, rfl⟩ := ha.resolve_left (by omega)
    have c1 : w.cell? ⟨h, 1, none⟩ = some (.slice (some ⟨gl, 0, none⟩) rs.length c) := Rw.cell H.rwd rfl
    have cu := rec_cells (j := 1) H.own hr rfl
    have hby := H.bys r (List.mem_of_getElem? hr)
    have hbl := hz r (List.mem_of_getElem? hr)
    obtain ⟨i0, hi, hz0, hz1, hz2⟩ := info_parts Try.infoByte
    obtain ⟨n, hn⟩ : ∃ n, n = rs.length := ⟨_, rfl⟩
    rw [← hn] at c1 hkl hl
    have hkz : (k : Int) < (n : Int) := by omega
    obtain ⟨ua, uc, hu⟩ : ∃ ua uc, r.u = .slice ua r.f.b.length uc := by
      rcases hby with ⟨e, e2⟩ | ⟨ad, c, e, _⟩
      · exact ⟨none, 0, by rw [e, e2]; rfl⟩
      · exact ⟨_, _, e⟩
    rw [hu] at cu hby
    obtain ⟨m, hm⟩ : ∃ m, m = r.f.b.length := ⟨_, rfl⟩
    rw [← hm] at cu hbl
    have HBY := Lib.hid hby
    have HM := Lib.hid hm
    have HFF := Lib.hid hf
    have HBL := Lib.hid hbl
    have hk0 : decide ((k : Int) < 0) = false := decide_eq_false (by omega)
    have hnz : (n : Int) ≤ 64 := by omega
    clear hbl hl hkl
    clear H hpi hr hn ha hz hby hu hm hf
    go_enter Try.func32, Try.ntmps32
    go_wp2_with fail
    refine HF.out.mono ?_
    rintro e w1 ⟨rfl, rfl⟩
    clear HF
    have d1 := kcell_moreR c1 (.cells #[] 5)
    have d2 := kcell_moreR cu (.cells #[] 5)
    have hown0 : (w1.alloc (.cells #[] 5)).ownsRow w1.heap.size 5 1 (.slice (some ⟨w1.heap.size, 0, none⟩) 0 0) 0 (([] : List UInt8).map byteV) := World.ownsRow_made w1 #[] 0 (Nat.le_refl _) (by decide) rfl
    have hsl : ByteSl (w1.alloc (.cells #[] 5)) (w1.alloc (.cells #[] 5)).heap.size (.slice ua m uc) r.f.b := by
      rw [HM.out]
      exact byteZ_sl HBY.out (fun k hk _ => (below_more (Below.refl w1.heap.size w1) _).block k hk) (by simp)
    have hbs : w1.heap.size ≤ (w1.alloc (.cells #[] 5)).heap.size := by simp
    go_wp2_with (at_builtin; refine wpList_append_slg rfl (.tmp 12) (.tmp 20) 40 rfl w1.heap.size 5 i0 (.int .u8 0) Try.underlying40 hi hz0 hz1 hz2 rfl (.slice (some ⟨w1.heap.size, 0, none⟩) 0 0) 0 _ rfl hown0 (.slice ua m uc) r.f.b rfl _ hsl (by have := HBL.out; have := HM.out; omega) hbs ?_; intro v' w' hown' hgr')
    have HB' : Hid (Below w1.heap.size w1 w') := Lib.hid ((below_more (Below.refl w1.heap.size w1) _).grown hgr' hbs (fun k hk => by simp [Value.ownBlock] at hk; omega))
    have HO' : Hid (w'.ownsRow w1.heap.size 5 1 v' r.f.b.length (r.f.b.map byteV)) := Lib.hid (by simpa using hown')
    obtain ⟨va, vc, rfl⟩ := own_len HO'.out
    clear hown' hgr' hown0 hsl hbs d1 d2
    go_wp2
    go_ret2
    exact ⟨.inr ⟨k, r.f, _, hp, HFF.out, rfl, HO'.out⟩, HB'.out⟩

theorem Try.infoRFile : (Try.prog.info? 84).map (fun i => (i.zero, i.size, i.bytes)) = some (some (.agg #[.string ⟨#[]⟩, .slice none 0 0, .int .i64 0]), 3, 48) := by kernel_rfl

/-- A new row of files put in the old one's place. -/
theorem refR_swap {w w2 : World} {Y : Nat → Prop} {h : Nat} {D D' : DiskM} {L L' : Value} {rs rs' : List RecF} {X : Nat → Prop} (H : RefR w Y h D L rs X) (hb : Below w.heap.size w w2)
    (ho : w2.ownsRow w.heap.size 84 3 L' rs'.length (rowsF rs')) (hs : ∀ r ∈ rs', r ∈ rs) (hf : rs'.map (·.f) = D'.fs) (h0 : D'.room = D.room) (h1 : D'.n = D.n) (h2 : D'.last = D.last) :
    RefR (w2.setCell ⟨h, 1, none⟩ L') (fun k => Y k ∨ (w.heap.size ≤ k ∧ k < (w2.setCell ⟨h, 1, none⟩ L').heap.size)) h D' L' rs' X ∧ Kept (fun k => k = h) w (w2.setCell ⟨h, 1, none⟩ L') := by
  have hlt := refR_lt H
  have hR := Rw.stored (Rw.below H.rwd hb) 1 L'
  refine ⟨⟨hf, .inl H.yh, ?_, ?_, ?_, ?_, ?_⟩, kept_put (F := fun k => k = h) (kept_below hb) (.inl rfl) 1 L'⟩
  · rw [h0, h1, h2]; exact hR
  · exact own_same (own_mono ho (Nat.zero_le _)) (fun k hk => heap_put w2 (by have := (World.ownsRow.lt ho k hk).1; omega) 1 L')
  · intro k hk
    have := World.ownsRow.lt ho k hk
    exact .inr ⟨this.1, by simpa [World.setCell] using this.2⟩
  · intro k hk
    obtain ⟨a, b, c, d⟩ := H.xy k hk
    refine ⟨.inl a, b, fun e => by have := (World.ownsRow.lt ho k e).1; omega, ?_⟩
    have := hb.size
    simp only [World.setCell, Array.size_modify]
    omega
  · intro r hr
    exact byteZ_keep (H.bys r (hs r hr)) (fun k hk hx => by rw [heap_put w2 (H.xy k hx).2.1 1 L']; exact hb.block k hk) (fun _ h => h)

theorem map_erase {rs : List RecF} {fs : List FileM} (h : rs.map (·.f) = fs) (k : Nat) : (rs.eraseIdx k).map (·.f) = fs.eraseIdx k := by
  rw [List.eraseIdx_eq_take_drop_succ, List.eraseIdx_eq_take_drop_succ, List.map_append, List.map_take, List.map_drop, h]

theorem byteZ_one {w : World} {Z : Nat → Prop} {v : Value} {l : List UInt8} (h : ByteZ w Z v l) : v.oneCell' = true := by
  rcases h with ⟨rfl, _⟩ | ⟨ad, c, rfl, _⟩
  · rfl
  · rfl

theorem rowsF_ones {w : World} {X : Nat → Prop} {rs : List RecF} (h : ∀ r ∈ rs, ByteZ w X r.u r.f.b) : ∀ u ∈ rowsF rs, u.oneCell' = true := by
  intro u hu
  unfold rowsF at hu
  obtain ⟨l, hl, hu⟩ := List.mem_flatten.1 hu
  obtain ⟨r, hr, rfl⟩ := List.mem_map.1 hl
  simp only [cellsF, List.mem_cons, List.not_mem_nil, or_false] at hu
  rcases hu with rfl | rfl | rfl
  · rfl
  · exact byteZ_one (h r hr)
  · rfl

def RWithV (w w' : World) (Y : Nat → Prop) (h : Nat) (D : DiskM) (rs : List RecF) (X : Nat → Prop) (k : Nat) : Prop :=
  ∃ L', RefR w' (fun k => Y k ∨ (w.heap.size ≤ k ∧ k < w'.heap.size)) h { D with fs := D.fs.eraseIdx k } L' (rs.eraseIdx k) X ∧ Kept (fun k => k = h) w w'

set_option maxRecDepth 100000 in
theorem rwithout_any {w : World} {Y : Nat → Prop} {h : Nat} {D : DiskM} {L : Value} {rs : List RecF} {X : Nat → Prop} (H : RefR w Y h D L rs X) {k : Nat} (hk : k < rs.length) (hl : rs.length ≤ 64) :
    Calls Try.prog 49 #[.pointer (some ⟨h, 0, none⟩), .int .i64 k] w fun e w' => e = .returned (.tuple #[]) ∧ RWithV w w' Y h D rs X k := by
  obtain ⟨a, c, rfl, ha, hc⟩ := own_addr H.own
  obtain ⟨gl, rfl⟩ := ha.resolve_left (by omega)
  have hcn : rs.length ≤ c := hc.resolve_right (by omega)
  obtain ⟨n, hn⟩ : ∃ n, n = rs.length := ⟨_, rfl⟩
  have c1 : w.cell? ⟨h, 1, none⟩ = some (.slice (some ⟨gl, 0, none⟩) rs.length c) := Rw.cell H.rwd rfl
  obtain ⟨i0, hi, hz0, hz1, hz2⟩ := info_parts Try.infoRFile
  have HH := Lib.hid H
  have HN := Lib.hid hn
  rw [← hn] at c1 hcn hk hl
  have hkn : (k : Int) < (n : Int) := by omega
  have hnc : (n : Int) ≤ (c : Int) := by omega
  have hn64 : (n : Int) ≤ 64 := by omega
  have HT : Hid (rowsF (rs.take k) = (rowsF rs).take (k * 3)) := Lib.hid (rowsF_take rs k)
  have hlt := refR_lt H
  have f1 := Rw.free H.rwd 1
  clear ha hc hn
  go_enter Try.func49, Try.ntmps49
  have hcell : ∀ j u, (rowsF rs)[j]? = some u → w.cell? ⟨gl, j, none⟩ = some u := fun j u hj => by
    have hjl := (List.getElem?_eq_some_iff.1 hj).1
    rw [World.ownsRow.cellAt HH.out.own j (by rw [← rowsF_len3]; exact hjl)]
    exact hj
  have hA : ∀ j u, (rowsF (rs.take k))[j]? = some u → w.cell? ((⟨gl, 0, none⟩ : Addr).add j) = some u := fun j u hj => by
    rw [Addr.add_mid, Nat.zero_add]
    rw [rowsF_take, List.getElem?_take] at hj
    split at hj
    · exact hcell j u hj
    · exact absurd hj (by simp)
  obtain ⟨o2, hB0, hB⟩ : ∃ o2, (if c = k + 1 then some (⟨gl, 0, none⟩ : Addr) else some ⟨gl, (k + 1) * 3, none⟩) = some ⟨gl, o2, none⟩ ∧ ∀ j u, (rowsF (rs.drop (k + 1)))[j]? = some u → w.cell? ⟨gl, o2 + j, none⟩ = some u := by
    by_cases hck : c = k + 1
    · refine ⟨0, by rw [if_pos hck], fun j u hj => ?_⟩
      rw [List.drop_of_length_le (by rw [← HN.out]; omega)] at hj
      simp [rowsF] at hj
    · refine ⟨(k + 1) * 3, by rw [if_neg hck], fun j u hj => ?_⟩
      rw [rowsF_drop, List.getElem?_drop] at hj
      exact hcell _ u hj
  have HB0 := Lib.hid hB0
  have hone := rowsF_ones HH.out.bys
  have HA := Lib.hid hA
  have HB := Lib.hid hB
  have HONE := Lib.hid hone
  have HK := Lib.hid hk
  clear hA hB hB0 hone hcell H
  go_wp2_with (first
    | (at_builtin; refine wpList_append_own_at _ rfl (.tmp 5) (.tmp 11) 48 rfl w.heap.size 84 i0 _ 3 48 Try.underlying48 hi hz0 hz1 hz2 rfl (by decide) (.slice none 0 0) 0 [] rfl (World.ownsRow_nil _ _ _ _) ⟨gl, 0, none⟩ k c (rowsF (rs.take k)) rfl (by rw [rowsF_len3, List.length_take, ← HN.out]; have := HK.out; omega) HA.out (fun u hu => HONE.out u (by rw [rowsF_take] at hu; exact List.mem_of_mem_take hu)) (by have := HK.out; unfold maxLen; omega) (by have := HK.out; omega) (Nat.le_refl _) ?_; intro v1 w1 ho1 hg1 _ _
       have hb1 : Below w.heap.size w w1 := (Below.refl w.heap.size w).grown hg1 (Nat.le_refl _) (fun k hk => by simp [Value.ownBlock] at hk)
       rw [List.nil_append, Nat.zero_add] at ho1
       have HO1 := Lib.hid ho1
       have HB1 := Lib.hid hb1
       have d1 : w1.cell? ⟨h, 1, none⟩ = some (.slice (some ⟨gl, 0, none⟩) n c) := cell_same c1 (hb1.block h hlt)
       have f1 : w1.frozen? ⟨h, 1, none⟩ = false := Rw.free (Rw.below HH.out.rwd hb1) 1
       obtain ⟨va, vc, rfl⟩ := own_len ho1
       clear ho1 hg1 hb1)
    | (at_builtin
       refine wpList_append_own_at _ rfl (.tmp 14) (.tmp 21) 48 rfl w.heap.size 84 i0 _ 3 48 Try.underlying48 hi hz0 hz1 hz2 rfl (by decide) (.slice va k vc) k (rowsF (rs.take k)) rfl HO1.out ⟨gl, o2, none⟩ (n - (k + 1)) (c - (k + 1)) (rowsF (rs.drop (k + 1))) (congrArg (fun a => Value.slice a (n - (k + 1)) (c - (k + 1))) HB0.out) (by rw [rowsF_len3, List.length_drop, ← HN.out]) (fun j u hj => by rw [Addr.add_mid]; exact cell_same (HB.out j u hj) (HB1.out.block gl (own_lt HH.out.own rfl))) (fun u hu => HONE.out u (by rw [rowsF_drop] at hu; exact List.mem_of_mem_drop hu)) (by have := HK.out; unfold maxLen; omega) (by have := HK.out; omega) HB1.out.size ?_; intro v2 w2 ho2 hg2 _ _
       have hb2 : Below w.heap.size w w2 := HB1.out.grown hg2 HB1.out.size (fun k hk => (World.ownsRow.lt HO1.out k hk).1)
       rw [← rowsF_app, ← List.eraseIdx_eq_take_drop_succ, show k + (n - (k + 1)) = (rs.eraseIdx k).length by rw [List.length_eraseIdx, if_pos (by rw [← HN.out]; exact HK.out), ← HN.out]; have := HK.out; omega] at ho2
       have HS := Lib.hid (refR_swap (D' := { D with fs := D.fs.eraseIdx k }) HH.out hb2 ho2 (fun r hr => List.mem_of_mem_eraseIdx hr) (map_erase HH.out.fs k) rfl rfl rfl)
       have d2 : w2.cell? ⟨h, 1, none⟩ = some (.slice (some ⟨gl, 0, none⟩) n c) := cell_same c1 (hb2.block h hlt)
       have f2 : w2.frozen? ⟨h, 1, none⟩ = false := Rw.free (Rw.below HH.out.rwd hb2) 1
       obtain ⟨va2, vc2, rfl⟩ := own_len ho2
       obtain ⟨vn2, hvn2⟩ : ∃ vn2, vn2 = (rs.eraseIdx k).length := ⟨_, rfl⟩
       rw [← hvn2] at HS ⊢
       clear ho2 hg2 hb2 d1 f1 hvn2)
    | fail)
  all_goals
    go_end0
    exact ⟨rfl, _, HS.out⟩

theorem refV_mk {w w' : World} {Y : Nat → Prop} {h : Nat} {D : DiskM} {L : Value} {rs : List RecF} {X : Nat → Prop} (hY : Y h) (H : RefR w' (fun k => Y k ∨ (w.heap.size ≤ k ∧ k < w'.heap.size)) h D L rs X) (hk : Kept (fun k => k = h) w w') : RefV w w' Y h D :=
  ⟨⟨L, rs, X, H⟩, kept_mono hk (fun k e => by subst e; exact .inl hY)⟩

theorem refV_same {w w' : World} {Y : Nat → Prop} {h : Nat} {D : DiskM} {L : Value} {rs : List RecF} {X : Nat → Prop} (H : RefR w' Y h D L rs X) (hk : Kept (fun k => k = h) w w') : RefV w w' Y h D :=
  refV_mk H.yh (refR_more H (fun _ h => .inl h)) hk

def remB (D : DiskM) : Bool → Option Nat → DiskM × Int
  | true, _ => (D.op, 6)
  | false, none => (D.op, 4)
  | false, some k => ({ D.op with fs := D.fs.eraseIdx k }, 0)

def remD (D : DiskM) (s : List UInt8) : DiskM × Int := remB D (offM D) (posM D.fs s)

def posO : Option Nat → Int
  | none => -1
  | some k => k

theorem posI_o (fs : List FileM) (s : List UInt8) : posI fs s = posO (posM fs s) := by unfold posI; cases posM fs s <;> rfl

theorem posM_lt {fs : List FileM} {s : List UInt8} {k : Nat} (h : posM fs s = some k) : k < fs.length := by
  obtain ⟨f, hf, _⟩ := posM_some h
  exact (List.getElem?_eq_some_iff.1 hf).1

set_option maxRecDepth 100000 in
/-- Remove. -/
theorem rremove_any {w : World} {Y : Nat → Prop} {h : Nat} {D : DiskM} {L : Value} {rs : List RecF} {X : Nat → Prop} (H : RefR w Y h D L rs X) (hn : D.n < 1000000000) (s : ByteArray) (hl : D.fs.length ≤ 64) :
    Calls Try.prog 22 #[.pointer (some ⟨h, 0, none⟩), .string s] w fun e w' => e = .returned (.int .i64 (remD D s.data.toList).2) ∧ RefV w w' Y h (remD D s.data.toList).1 := by
  have hrl : rs.length ≤ 64 := by rw [← H.fs, List.length_map] at hl; exact hl
  have hyh := H.yh
  have HO := Lib.hid (roff_any H hn)
  have HF : Hid (∀ w1, RefR w1 Y h D.op L rs X → _) := Lib.hid (fun w1 (H1 : RefR w1 Y h D.op L rs X) => rfind_any H1 s (by omega))
  have HW : Hid (∀ w1, RefR w1 Y h D.op L rs X → ∀ k, k < rs.length → _) := Lib.hid (fun w1 (H1 : RefR w1 Y h D.op L rs X) k hk => rwithout_any H1 (k := k) hk hrl)
  obtain ⟨bo, hbo⟩ : ∃ bo, bo = offM D := ⟨_, rfl⟩
  obtain ⟨pm, hpm⟩ : ∃ pm, pm = posM D.fs s.data.toList := ⟨_, rfl⟩
  have HR : Hid (remD D s.data.toList = remB D bo pm) := Lib.hid (by rw [hbo, hpm]; rfl)
  have HPI : Hid (posI D.op.fs s.data.toList = posO pm) := Lib.hid (by rw [hpm]; exact posI_o _ _)
  have HPK : Hid (∀ k, pm = some k → k < rs.length) := Lib.hid (fun k e => by
    have := posM_lt (hpm.symm.trans e)
    rw [← H.fs, List.length_map] at this
    exact this)
  rw [← hbo] at HO
  rw [HR.out]
  clear hbo hpm HR hn H hl hrl
  go_enter Try.func22, Try.ntmps22
  go_wp2_with fail
  refine HO.out.mono ?_
  rintro e w1 ⟨rfl, H1, K1⟩
  have HH1 := Lib.hid H1
  have HK1 := Lib.hid K1
  have HF1 := Lib.hid (HF.out w1 H1)
  have HW1 := Lib.hid (HW.out w1 H1)
  clear H1 K1 HF HW HO
  cases bo
  case true =>
    go_wp2
    go_ret
    exact ⟨rfl, refV_same HH1.out HK1.out⟩
  case false =>
    rw [HPI.out] at HF1
    cases pm with
    | none =>
      go_wp2_with fail
      refine HF1.out.mono ?_
      rintro e w2 ⟨rfl, rfl⟩
      go_wp2
      go_ret
      exact ⟨rfl, refV_same HH1.out HK1.out⟩
    | some k =>
      have HWK := Lib.hid (HW1.out k (HPK.out k rfl))
      have hk0 : decide ((k : Int) < 0) = false := decide_eq_false (by omega)
      clear HW1
      go_wp2_with fail
      refine HF1.out.mono ?_
      rintro e w2 ⟨rfl, rfl⟩
      go_wp2_with fail
      refine HWK.out.mono ?_
      rintro e w3 ⟨rfl, L3, H3, K3⟩
      have HH3 := Lib.hid (refR_more H3 (Y' := fun k => Y k ∨ (w.heap.size ≤ k ∧ k < w3.heap.size)) (fun k hk => hk.imp id (fun hk => ⟨Nat.le_trans HK1.out.size hk.1, hk.2⟩)))
      have HK3 := Lib.hid (kept_trans HK1.out K3)
      clear H3 K3
      go_wp2
      go_ret
      exact ⟨rfl, refV_mk hyh HH3.out HK3.out⟩

end Go.Proofs.Ytfiocghgjjandaa
