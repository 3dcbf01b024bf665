/- The reader's parts: path, user, query, fragment, scheme, authority. -/
import Derived.Test.YtdgmcpdphifmbaaGreatDoorShelf
import Derived.Lib.ReplaceLaws
import Derived.Lib.CountLaws
import Derived.Test.YtdgmcpdphifmbaaGreatDoorProg
import Derived.Test.YtdgmcpdphifmbaaGreatDoorKit
import Derived.Test.YtdgmcpdphifmbaaGreatDoorPlain
import Derived.Test.YtdgmcpdphifmbaaGreatDoorStr
import Derived.Test.YtdgmcpdphifmbaaGreatDoorAsc4
import Derived.Test.YtdgmcpdphifmbaaGreatDoorRow
import Derived.Test.YtdgmcpdphifmbaaGreatDoorFp
import Derived.Test.YtdgmcpdphifmbaaGreatDoorPct0
import Derived.Test.YtdgmcpdphifmbaaGreatDoorPct3
import Derived.Test.YtdgmcpdphifmbaaGreatDoorHst0
import Derived.Test.YtdgmcpdphifmbaaGreatDoorHst1
import Derived.Test.YtdgmcpdphifmbaaGreatDoorHst6
import Derived.Test.YtdgmcpdphifmbaaGreatDoorUrl0
import Derived.Test.YtdgmcpdphifmbaaGreatDoorUrl3
import Derived.Test.YtdgmcpdphifmbaaGreatDoorUrl4
namespace Go.Proofs.YtdgmcpdphifmbaaGreatDoor
open Go.RowKit Go.Proofs
set_option maxRecDepth 100000

/-- What the library's variables hold. -/
def Env11 (w : World) : Prop := Tabs9 w ∧ Tab10 w ∧ ∃ m, w.cell? ⟨2, 0, none⟩ = some (.int .i64 m)

theorem env_below {w w' : World} (h : Env11 w) (hb : Below w.heap.size w w') : Env11 w' := by
  obtain ⟨h1, h2, m, h3⟩ := h
  exact ⟨Utf8Tabs_below h1 hb, tab10_below h2 hb, m, by rw [hb.cell (block_of_cell h3)]; exact h3⟩

theorem below_kg {w0 w w' : World} {g : Nat} (hb : Below w0.heap.size w0 w) (hk : Kept (fun k => k = g) w w') (hg : w0.heap.size ≤ g) : Below w0.heap.size w0 w' :=
  ⟨hk.os.trans hb.os, hk.tape.trans hb.tape, hk.output.trans hb.output, Nat.le_trans hb.size hk.size, fun x hx => (hk.blk x (Nat.lt_of_lt_of_le hx hb.size) (by omega)).trans (hb.block x hx)⟩

theorem rest_below {w w1 w2 : World} {g : Nat} {T : TypeId} {cs : List Value} {l : List UInt8} (h : RestV w w1 g T cs l) (hb : Below w1.heap.size w1 w2) : RestV w w2 g T cs l := ⟨Rw.below h.1 hb, kept_trans h.2 (kept_below hb)⟩

theorem rest_trans {w w1 w2 : World} {g : Nat} {T : TypeId} {cs cs2 : List Value} {l l2 : List UInt8} (h : RestV w w1 g T cs l) (h2 : RestV w1 w2 g T cs2 l2) : RestV w w2 g T cs2 l2 := ⟨h2.1, kept_trans h.2 h2.2⟩

theorem rest_put {w w1 : World} {g : Nat} {T : TypeId} {cs : List Value} {l : List UInt8} (h : RestV w w1 g T cs l) (j : Nat) (u : Value) : RestV w (w1.setCell ⟨g, j + 1, none⟩ u) g T (cs.set j u) l :=
  ⟨Rw.stored h.1 (j + 1) u, kept_put h.2 (.inl rfl) (j + 1) u⟩

/-! '\' as '/' -/
theorem replace_all : ∀ (l : List UInt8) (k : Nat), Lib.count l [92] ≤ k → Lib.replaceK [92] [47] k l = l.map slB
  | [], 0, _ => rfl
  | [], k + 1, _ => by
    rw [Lib.replaceK]
    rfl
  | b :: t, k, h => by
    by_cases hb : b = 92
    · subst hb
      rw [Lib.count_cons_eq] at h
      obtain ⟨j, rfl⟩ : ∃ j, k = j + 1 := ⟨k - 1, by omega⟩
      have hi : Lib.index (92 :: t) [92] = ((0 : Nat) : Int) := by rw [Lib.index_one]; rfl
      rw [Lib.replaceK_hit _ _ _ _ 0 hi]
      simp only [List.take_zero, List.nil_append, Nat.zero_add, List.length_singleton, List.drop_succ_cons, List.drop_zero]
      rw [replace_all t j (by omega)]
      rfl
    · rw [Lib.count_cons_ne _ _ _ hb] at h
      have ih := replace_all t k h
      have hs : slB b = b := by unfold slB; rw [if_neg hb]
      cases k with
      | zero =>
        have e : Lib.replaceK [92] [47] 0 t = t := rfl
        rw [e] at ih
        rw [List.map_cons, hs, ← ih]
        rfl
      | succ k =>
        by_cases hm : Lib.index t [92] = -1
        · have hm2 : Lib.index (b :: t) [92] = -1 := by
            rw [Lib.index_one] at hm ⊢
            rw [Lib.indexByte, beq_eq_false_iff_ne.2 hb, hm]
            rfl
          rw [Lib.replaceK, hm2, if_pos (by rfl), List.map_cons, hs, ← ih, Lib.replaceK, hm, if_pos (by rfl)]
        · obtain ⟨i, hi⟩ : ∃ i : Nat, Lib.index t [92] = i := ⟨(Lib.index t [92]).toNat, by have := Lib.index_ge t [92]; omega⟩
          have hi2 : Lib.index (b :: t) [92] = ((i + 1 : Nat) : Int) := by
            rw [Lib.index_one] at hi ⊢
            rw [Lib.indexByte, beq_eq_false_iff_ne.2 hb, hi]
            have : ((i : Int) == -1) = false := beq_eq_false_iff_ne.2 (by omega)
            rw [this]
            simp
          rw [Lib.replaceK_hit _ _ _ _ _ hi2, List.map_cons, hs, ← ih, Lib.replaceK_hit _ _ _ _ _ hi, List.take_succ_cons, List.cons_append, List.cons_append]
          congr 3

theorem replace_sl (l : List UInt8) : Lib.replaceAll l [92] [47] = l.map slB := by
  unfold Lib.replaceAll Lib.replace
  rw [if_neg (by decide)]
  refine replace_all l _ ?_
  unfold Lib.replaceNum
  rw [if_pos (.inl (by decide))]
  exact Nat.le_refl _

theorem join_len (sep : List UInt8) (N : Nat) : ∀ (xs : List (List UInt8)), (∀ p ∈ xs, p.length ≤ N) → (Lib.join xs sep).length ≤ xs.length * (N + sep.length)
  | [], _ => by rw [Lib.join_nil]; simp
  | x :: r, h => by
    rw [Lib.join_cons, List.length_append, List.length_cons]
    have hx := h x (by simp)
    have key : ∀ r : List (List UInt8), (∀ p ∈ r, p.length ≤ N) → (Lib.joinTail sep r).length ≤ r.length * (N + sep.length) := by
      intro r
      induction r with
      | nil => intro _; simp [Lib.joinTail]
      | cons y r ih =>
        intro h
        have h1 := ih (fun p hp => h p (by simp [hp]))
        have h2 := h y (by simp)
        unfold Lib.joinTail at h1 ⊢
        rw [List.map_cons, List.flatten_cons, List.length_append, List.length_append, List.length_cons, Nat.add_mul]
        omega
    have h1 := key r (fun p hp => h p (by simp [hp]))
    rw [Nat.add_mul]
    omega

theorem ujoin_any (v : Value) (ps : List (List UInt8)) (N : Nat) (hN : ps.length ≤ 131072) (hp : ∀ p ∈ ps, p.length ≤ N) (hNb : N ≤ 196608) (w : World) (hv : SliceAt w v (ps.map strL)) (hcap : ∀ a n c, v = .slice a n c → n ≤ c) :
    Calls Tryz.prog 59 #[v, .string ⟨#[47]⟩] w fun e w' => e = .returned (strL (Lib.join ps [47])) ∧ Below w.heap.size w w' := by
  by_cases h0 : ps = []
  · subst h0
    obtain ⟨a, c, rfl⟩ := hv.empty
    exact (Tryz.strings_Join_none a c ⟨#[47]⟩ w).mono fun e w' ⟨h1, h2⟩ => ⟨h1, h2 ▸ Below.refl _ _⟩
  · obtain ⟨b, off, c, rfl, hc⟩ := hv.at (by simpa using h0)
    rw [List.length_map] at hcap ⊢
    have hj := join_len [47] N ps hp
    have hmul : ps.length * (N + [(47 : UInt8)].length) ≤ 131072 * (196608 + 1) := Nat.mul_le_mul hN (by simp; omega)
    have hb : b < w.heap.size := by
      obtain ⟨x, r, rfl⟩ := List.exists_cons_of_ne_nil h0
      exact block_of_cell (hc 0 (strL x) rfl)
    have e : (ps.map (fun l => (⟨l.toArray⟩ : ByteArray))).map (·.data.toList) = ps := by
      rw [List.map_map]
      conv => rhs; rw [← List.map_id ps]
      apply List.map_congr_left
      intro l _
      simp
    have hc2 := Tryz.strings_Join b off c (ps.map (fun l => (⟨l.toArray⟩ : ByteArray))) ⟨#[47]⟩ w (fun j x hj => by
      rw [List.getElem?_map] at hj
      cases hq : ps[j]? with
      | none => rw [hq] at hj; simp at hj
      | some l =>
        rw [hq] at hj
        simp at hj
        subst hj
        exact hc j _ (by rw [List.getElem?_map, hq]; rfl)) hb (by rw [List.length_map]; omega) (by rw [List.length_map]; exact hcap _ _ _ rfl) (by rw [e]; exact Nat.le_trans hj (Nat.le_trans hmul (by decide)))
    rw [e, List.length_map] at hc2
    exact hc2

theorem own_caps {w : World} {base : Nat} {e : TypeId} {v : Value} {n : Nat} {xs : List Value} (h : w.ownsRow base e 1 v n xs) (a : Option Addr) (k c : Nat) (hv : v = .slice a k c) : k ≤ c := by
  rcases h.2 with ⟨rfl, _⟩ | ⟨g, cap, cur, rfl, _, _, hn, _⟩
  · injection hv with _ h1 h2; omega
  · injection hv with _ h1 h2; omega

theorem segs_len (p : List UInt8) : (segsL p).length ≤ p.length + 1 ∧ 1 ≤ (segsL p).length ∧ ∀ q ∈ segsL p, q.length ≤ p.length := by
  have hl : (Lib.trimPrefix (p.map slB) [47]).length ≤ p.length := by
    unfold Lib.trimPrefix
    split
    · rw [List.length_drop, List.length_map]; omega
    · rw [List.length_map]; exact Nat.le_refl _
  refine ⟨Nat.le_trans (splitL_len _ 47) (by omega), split_len _ 47, fun q hq => ?_⟩
  have := splitGo_size 47 _ [] q hq
  simp at this
  omega

/-! the path -/
set_option maxHeartbeats 1000000 in
theorem upath_any {w0 w : World} {g : Nat} {u : UrlM} (hE : Env11 w0) (hB : Below w0.heap.size w0 w) (hg : w0.heap.size ≤ g) (s : ByteArray) (hs : s.size ≤ 65536) (h : Rw w 0 g 43 (.string s :: urlCells u)) :
    Calls Tryz.prog 20 #[.pointer (some ⟨g, 0, none⟩)] w fun e w' => e = .returned (.tuple #[]) ∧ RestV w w' g 43 (urlCells { u with pth := pathP (upL pathE s.data.toList) }) (fromL pathE s.data.toList) := by
  have HT := Lib.hid (utake_any s ⟨#[63, 35]⟩ (by omega) (by intro b hb; simp at hb; rcases hb with rfl | rfl <;> decide) (by decide) (by decide) h)
  have HG := Lib.hid hg
  have HE := Lib.hid hE
  have HB := Lib.hid hB
  obtain ⟨p, hp⟩ : ∃ p : ByteArray, p = ⟨(upL pathE s.data.toList).toArray⟩ := ⟨_, rfl⟩
  have hps : p.size ≤ 65536 := by
    have := up_len pathE s.data.toList
    rw [hp, mk_size]
    rw [size_data] at this
    omega
  have HPL : Hid (upL pathE s.data.toList = p.data.toList) := Lib.hid (by rw [hp])
  have HT2 : Hid (Calls Tryz.prog 46 #[.pointer (some ⟨g, 0, none⟩), .string ⟨#[63, 35]⟩] w fun e w' => e = .returned (.string p) ∧ RestV w w' g 43 (urlCells u) (fromL pathE s.data.toList)) := by
    rw [hp]
    exact HT
  obtain ⟨F, hF⟩ : ∃ F, F = fromL pathE s.data.toList := ⟨_, rfl⟩
  rw [← hF] at HT2 ⊢
  rw [HPL.out]
  clear HT HPL h hg hE hB hp hF
  obtain ⟨q, hq⟩ : ∃ q : ByteArray, q = ⟨(p.data.toList.map slB).toArray⟩ := ⟨_, rfl⟩
  have hql : q.data.toList = p.data.toList.map slB := by rw [hq]
  have HREP := Lib.hid (fun (W : World) (m : Int) (hm : W.cell? ⟨2, 0, none⟩ = some (.int .i64 m)) => Tryz.strings_ReplaceAll p ⟨#[92]⟩ ⟨#[47]⟩ m W (by omega) hm (by decide) (by
    have h1 := Lib.countB_le ⟨#[92]⟩ (by decide) p.size p (Nat.le_refl _)
    have h2 : Lib.countB p ⟨#[92]⟩ * (⟨#[47]⟩ : ByteArray).size ≤ p.size * 1 := Nat.mul_le_mul h1 (by decide)
    omega))
  obtain ⟨r, hr⟩ : ∃ r : ByteArray, r = ⟨(Lib.trimPrefix q.data.toList [47]).toArray⟩ := ⟨_, rfl⟩
  have hrl : r.data.toList = Lib.trimPrefix q.data.toList [47] := by rw [hr]
  have HTP := Lib.hid (fun W => Tryz.strings_TrimPrefix q ⟨#[47]⟩ W)
  have hsg : splitL r.data.toList 47 = segsL p.data.toList := by rw [hrl, hql]; rfl
  have hsl := segs_len p.data.toList
  have hrs : r.size ≤ 65536 := by
    rw [← size_data, hrl, hql]
    unfold Lib.trimPrefix
    split
    · rw [List.length_drop, List.length_map, size_data]; omega
    · rw [List.length_map, size_data]; omega
  have HSP := Lib.hid (fun W => split_any r 47 (by omega) W)
  rw [hsg] at HSP
  obtain ⟨M, hM⟩ : ∃ M, (segsL p.data.toList).length = M + 1 := ⟨(segsL p.data.toList).length - 1, by omega⟩
  rw [size_data] at hsl
  have hMb : M ≤ 65536 := by omega
  have HRS := Lib.hid (fun (v : Value) (W : World) (hv : SliceAt W v ((segsL p.data.toList).map strL)) => uresolve_any v (segsL p.data.toList) M hM hMb (fun x hx => Nat.le_trans (hsl.2.2 x hx) hps) W hv)
  obtain ⟨R, hR⟩ : ∃ R, R = resGo [] (segsL p.data.toList) := ⟨_, rfl⟩
  have HPP : Hid (pathP p.data.toList = 47 :: Lib.join R [47]) := Lib.hid (by rw [hR]; rfl)
  rw [← hR] at HRS
  have HREP2 : Hid (∀ (W : World) (m : Int) (hm : W.cell? ⟨2, 0, none⟩ = some (.int .i64 m)), Calls Tryz.prog 55 #[.string p, .string ⟨#[92]⟩, .string ⟨#[47]⟩] W fun e w' => e = .returned (.string q) ∧ Below W.heap.size W w') := Lib.hid (by
    intro W m hm
    have := HREP.out W m hm
    rw [show (⟨#[92]⟩ : ByteArray).data.toList = [92] from rfl, show (⟨#[47]⟩ : ByteArray).data.toList = [47] from rfl, replace_sl, ← hq] at this
    exact this)
  have HTP2 : Hid (∀ W, Calls Tryz.prog 58 #[.string q, .string ⟨#[47]⟩] W fun e w' => e = .returned (.string r) ∧ w' = W) := Lib.hid (by
    intro W
    rw [hr]
    exact HTP.out W)
  clear HREP HTP hsg hsl hrl hql hr hq hR hM hrs
  go_enter Tryz.func20, Tryz.ntmps20
  go_wp2_with fail
  refine HT2.out.mono ?_
  rintro e w1 ⟨rfl, hv1⟩
  have HV1 := Lib.hid hv1
  have HB1 := Lib.hid (below_kg HB.out hv1.2 HG.out)
  obtain ⟨_, _, m, hm⟩ := env_below HE.out HB1.out
  have HM := Lib.hid hm
  clear hv1 hm
  go_wp2_with fail
  refine (HREP2.out _ m HM.out).mono ?_
  rintro e w2 ⟨rfl, hb2⟩
  have HV2 := Lib.hid (rest_below HV1.out hb2)
  clear hb2
  go_wp2_with fail
  refine (HTP2.out _).mono ?_
  rintro e w3 ⟨rfl, rfl⟩
  go_wp2_with fail
  refine (HSP.out _).mono ?_
  rintro e w4 ⟨⟨v4, rfl, ho4⟩, hb4⟩
  have HV4 := Lib.hid (rest_below HV2.out hb4)
  have HS4 := Lib.hid (SliceAt.own ho4)
  clear ho4 hb4
  go_wp2_with fail
  refine (HRS.out _ _ HS4.out).mono ?_
  rintro e w5 ⟨⟨v5, rfl, ho5⟩, hb5, hl5, hp5⟩
  have HV5 := Lib.hid (rest_below HV4.out hb5)
  have HJ := Lib.hid (ujoin_any v5 R 196608 (by omega) hp5 (Nat.le_refl _) w5 (SliceAt.own ho5) (own_caps ho5))
  have hjl := join_len [47] 196608 R hp5
  have hjm : R.length * (196608 + [(47 : UInt8)].length) ≤ 65538 * 196609 := Nat.mul_le_mul (by omega) (by decide)
  obtain ⟨jt, hjt⟩ : ∃ jt : ByteArray, jt = ⟨(Lib.join R [47]).toArray⟩ := ⟨_, rfl⟩
  have HJ2 : Hid (Calls Tryz.prog 59 #[v5, .string ⟨#[47]⟩] w5 fun e w' => e = .returned (.string jt) ∧ Below w5.heap.size w5 w') := by
    rw [hjt]
    exact HJ
  have hjs : jt.size ≤ 14000000000 := by rw [hjt, mk_size]; omega
  have HJL : Hid (jt.data.toList = Lib.join R [47]) := Lib.hid (by rw [hjt])
  clear ho5 hb5 hl5 hp5 HJ hjl hjm hjt
  go_wp2_with fail
  refine HJ2.out.mono ?_
  rintro e w6 ⟨rfl, hb6⟩
  have HV6 := Lib.hid (rest_below HV5.out hb6)
  have c6 := Rw.cell HV6.out.1 (j := 6) rfl
  have f6 := Rw.free HV6.out.1 6
  clear hb6
  go_wp2_with fail
  go_end0
  refine ⟨rfl, ?_⟩
  have hput := rest_put HV6.out 5 (.string (⟨#[47]⟩ ++ jt))
  have e : Value.string (⟨#[47]⟩ ++ jt) = strL (pathP p.data.toList) := by
    rw [HPP.out, ← HJL.out]
    symm
    refine strL_of ?_
    rw [ByteArray.data_append, Array.toList_append]
    rfl
  have e2 : (urlCells u).set 5 (Value.string (⟨#[47]⟩ ++ jt)) = urlCells { u with pth := pathP p.data.toList } := by rw [e]; rfl
  rw [e2] at hput
  exact hput

theorem ucut_any (s : ByteArray) (c : UInt8) (hs : s.size ≤ 1073741824) (w : World) (hE : Env11 w) :
    Calls Tryz.prog 52 #[.string s, .string ⟨#[c]⟩] w fun e w' => (∃ t, e = .returned (.tuple #[strL (upL [c] s.data.toList), strL ((fromL [c] s.data.toList).drop 1), .bool t])) ∧ Below w.heap.size w w' := by
  obtain ⟨_, _, m, hm⟩ := hE
  refine (Tryz.strings_Cut s ⟨#[c]⟩ m w (by omega) hm).mono ?_
  rintro e w' ⟨rfl, hd⟩
  obtain ⟨h1, h2⟩ := cut_one s.data.toList c
  refine ⟨⟨(Lib.cut s.data.toList [c]).2.2, ?_⟩, below_draws (Below.refl _ _) hd⟩
  have e : (⟨#[c]⟩ : ByteArray).data.toList = [c] := rfl
  rw [e, h1, h2]
  rfl

theorem up_size {s : ByteArray} {N : Nat} (of : List UInt8) (h : s.size ≤ N) : (⟨(upL of s.data.toList).toArray⟩ : ByteArray).size ≤ N := by
  have := up_len of s.data.toList
  rw [mk_size]
  rw [size_data] at this
  omega

theorem from_size {s : ByteArray} {N : Nat} (of : List UInt8) (k : Nat) (h : s.size ≤ N) : (⟨((fromL of s.data.toList).drop k).toArray⟩ : ByteArray).size ≤ N := by
  have := from_len of s.data.toList
  rw [mk_size, List.length_drop]
  rw [size_data] at this
  omega

set_option maxHeartbeats 1000000 in
theorem uuser_any {w0 w : World} {g : Nat} {u : UrlM} {l : List UInt8} (hE : Env11 w0) (hB : Below w0.heap.size w0 w) (_hg : w0.heap.size ≤ g) (i : ByteArray) (hi : i.size ≤ 65536) (h : Rw w 0 g 43 (strL l :: urlCells u)) :
    Calls Tryz.prog 51 #[.pointer (some ⟨g, 0, none⟩), .string i] w fun e w' => e = .returned (.tuple #[]) ∧ RestV w w' g 43 (urlCells { u with usr := (userP i.data.toList).1, pas := (userP i.data.toList).2 }) l := by
  have HC := Lib.hid (ucut_any i 58 (by omega) w (env_below hE hB))
  have HR := Lib.hid h
  obtain ⟨a, ha⟩ : ∃ a : ByteArray, a = ⟨(upL [58] i.data.toList).toArray⟩ := ⟨_, rfl⟩
  obtain ⟨b, hb⟩ : ∃ b : ByteArray, b = ⟨((fromL [58] i.data.toList).drop 1).toArray⟩ := ⟨_, rfl⟩
  have has : a.size ≤ 65536 := by rw [ha]; exact up_size _ hi
  have hbs : b.size ≤ 65536 := by rw [hb]; exact from_size _ 1 hi
  have HC2 : Hid (Calls Tryz.prog 52 #[.string i, .string ⟨#[58]⟩] w fun e w' => (∃ t, e = .returned (.tuple #[.string a, .string b, .bool t])) ∧ Below w.heap.size w w') := by
    rw [ha, hb]
    exact HC
  have HU : Hid (userP i.data.toList = (encL 4 a.data.toList, encL 4 b.data.toList)) := Lib.hid (by rw [ha, hb]; rfl)
  have HA := Lib.hid (fun W => pencode_any a (by omega) 4 W)
  have HBB := Lib.hid (fun W => pencode_any b (by omega) 4 W)
  clear HC ha hb h hE hB
  obtain ⟨x, hx⟩ : ∃ x : ByteArray, x = ⟨(encL 4 a.data.toList).toArray⟩ := ⟨_, rfl⟩
  obtain ⟨y, hy⟩ : ∃ y : ByteArray, y = ⟨(encL 4 b.data.toList).toArray⟩ := ⟨_, rfl⟩
  rw [← hx] at HA
  rw [← hy] at HBB
  have HX : Hid (Value.string x = strL (encL 4 a.data.toList)) := Lib.hid (by rw [hx]; rfl)
  have HY : Hid (Value.string y = strL (encL 4 b.data.toList)) := Lib.hid (by rw [hy]; rfl)
  clear hx hy
  go_enter Tryz.func51, Tryz.ntmps51
  go_wp2_with fail
  refine HC2.out.mono ?_
  rintro e w1 ⟨⟨t, rfl⟩, hb1⟩
  have HV1 : Hid (RestV w w1 g 43 (urlCells u) l) := Lib.hid ⟨Rw.below HR.out hb1, kept_below hb1⟩
  clear hb1
  go_wp2_with fail
  refine (HA.out _).mono ?_
  rintro e w2 ⟨rfl, hb2⟩
  have HV2 := Lib.hid (rest_below HV1.out hb2)
  have c2 := Rw.cell HV2.out.1 (j := 2) rfl
  have f2 := Rw.free HV2.out.1 2
  have HV3 := Lib.hid (rest_put HV2.out 1 (.string x))
  obtain ⟨w3, hw3⟩ : ∃ w3, w3 = w2.setCell ⟨g, 1 + 1, none⟩ (.string x) := ⟨_, rfl⟩
  rw [← hw3] at HV3
  have hw3' : w2.setCell ⟨g, 2, none⟩ (.string x) = w3 := hw3.symm
  clear hb2 hw3
  go_wp2_with fail
  refine (HBB.out _).mono ?_
  rintro e w4 ⟨rfl, hb4⟩
  have HV4 := Lib.hid (rest_below HV3.out hb4)
  have c4 := Rw.cell HV4.out.1 (j := 3) rfl
  have f4 := Rw.free HV4.out.1 3
  clear hb4
  go_wp2_with fail
  go_end0
  refine ⟨rfl, ?_⟩
  have hput := rest_put HV4.out 2 (.string y)
  have e2 : ((urlCells u).set 1 (Value.string x)).set 2 (Value.string y) = urlCells { u with usr := (userP i.data.toList).1, pas := (userP i.data.toList).2 } := by rw [HX.out, HY.out, HU.out]; rfl
  rw [e2] at hput
  exact hput

/-! query and fragment -/
set_option maxHeartbeats 1000000 in
theorem uquery_any {w : World} {g : Nat} {u : UrlM} (hq : u.hq = false) (hy : u.qry = []) (s : ByteArray) (hs : s.size ≤ 65536) (h : Rw w 0 g 43 (.string s :: urlCells u)) :
    Calls Tryz.prog 21 #[.pointer (some ⟨g, 0, none⟩)] w fun e w' => e = .returned (.tuple #[]) ∧ RestV w w' g 43 (urlCells { u with hq := (queryP s.data.toList).1, qry := (queryP s.data.toList).2.1 }) (queryP s.data.toList).2.2 := by
  by_cases hh : s.data.toList.head? = some 63
  · have HN := Lib.hid (unext_yes s 63 h hh)
    obtain ⟨t, ht⟩ : ∃ t : ByteArray, t = ⟨(s.data.toList.drop 1).toArray⟩ := ⟨_, rfl⟩
    have hts : t.size ≤ 65536 := by rw [ht, mk_size, List.length_drop, size_data]; omega
    have htl : t.data.toList = s.data.toList.drop 1 := by rw [ht]
    have HTS : Hid (strL (s.data.toList.drop 1) = .string t) := Lib.hid (by rw [ht]; rfl)
    have HQ : Hid (queryP s.data.toList = (true, encL 2 (upL [35] t.data.toList), fromL [35] t.data.toList)) := Lib.hid (by unfold queryP; rw [if_pos hh, htl])
    obtain ⟨a, ha⟩ : ∃ a : ByteArray, a = ⟨(upL [35] t.data.toList).toArray⟩ := ⟨_, rfl⟩
    have has : a.size ≤ 65536 := by rw [ha]; exact up_size _ hts
    have HA := Lib.hid (fun W => pencode_any a (by omega) 2 W)
    have hal : a.data.toList = upL [35] t.data.toList := by rw [ha]
    rw [hal] at HA
    obtain ⟨x, hx⟩ : ∃ x : ByteArray, x = ⟨(encL 2 (upL [35] t.data.toList)).toArray⟩ := ⟨_, rfl⟩
    rw [← hx] at HA
    have HX : Hid (Value.string x = strL (encL 2 (upL [35] t.data.toList))) := Lib.hid (by rw [hx]; rfl)
    have HAT : Hid (strL (upL [35] t.data.toList) = .string a) := Lib.hid (by rw [ha]; rfl)
    obtain ⟨F, hF⟩ : ∃ F, F = fromL [35] t.data.toList := ⟨_, rfl⟩
    have HF := Lib.hid hF
    clear h hh ht htl ha hal hx hF hs
    go_enter Tryz.func21, Tryz.ntmps21
    go_wp2_with fail
    refine HN.out.mono ?_
    rintro e w1 ⟨rfl, hv1⟩
    have HV1 := Lib.hid hv1
    have c1 := Rw.cell hv1.1 (j := 7) rfl
    have f1 := Rw.free hv1.1 7
    have HV2 := Lib.hid (rest_put HV1.out 6 (.bool true))
    obtain ⟨w2, hw2⟩ : ∃ w2, w2 = w1.setCell ⟨g, 6 + 1, none⟩ (.bool true) := ⟨_, rfl⟩
    rw [← hw2] at HV2
    have hw2' : w1.setCell ⟨g, 7, none⟩ (.bool true) = w2 := hw2.symm
    have hrow := HV2.out.1
    rw [HTS.out] at hrow
    have HT := Lib.hid (utake_any t ⟨#[35]⟩ (by omega) (by intro b hb; simp at hb; subst hb; decide) (by decide) (by decide) hrow)
    have HT2 : Hid (Calls Tryz.prog 46 #[.pointer (some ⟨g, 0, none⟩), .string ⟨#[35]⟩] w2 fun e w' => e = .returned (.string a) ∧ RestV w2 w' g 43 ((urlCells u).set 6 (.bool true)) F) := Lib.hid (by
      refine HT.out.mono ?_
      rintro e w' ⟨rfl, h2⟩
      rw [HF.out]
      exact ⟨by rw [← HAT.out], h2⟩)
    clear hv1 hw2 hrow HT
    go_wp2_with fail
    refine HT2.out.mono ?_
    rintro e w3 ⟨rfl, hv3⟩
    have HV3 := Lib.hid (rest_trans HV2.out hv3)
    clear hv3
    go_wp2_with fail
    refine (HA.out _).mono ?_
    rintro e w4 ⟨rfl, hb4⟩
    have HV4 := Lib.hid (rest_below HV3.out hb4)
    have c4 := Rw.cell HV4.out.1 (j := 8) rfl
    have f4 := Rw.free HV4.out.1 8
    clear hb4
    go_wp2_with fail
    go_end0
    refine ⟨rfl, ?_⟩
    have hput := rest_put HV4.out 7 (.string x)
    rw [HQ.out, ← HF.out]
    have e2 : ((urlCells u).set 6 (Value.bool true)).set 7 (Value.string x) = urlCells { u with hq := true, qry := encL 2 (upL [35] t.data.toList) } := by rw [HX.out]; rfl
    rw [e2] at hput
    exact hput
  · have HN := Lib.hid (unext_no s 63 h hh)
    have HQ : Hid (queryP s.data.toList = (false, [], s.data.toList)) := Lib.hid (by unfold queryP; rw [if_neg hh])
    have HR := Lib.hid h
    clear h hh
    go_enter Tryz.func21, Tryz.ntmps21
    go_wp2_with fail
    refine HN.out.mono ?_
    rintro e w1 ⟨rfl, rfl⟩
    go_wp2_with fail
    go_end0
    refine ⟨rfl, ?_⟩
    rw [HQ.out]
    have e2 : urlCells { u with hq := false, qry := [] } = urlCells u := by unfold urlCells; rw [hq, hy]
    simp only
    rw [e2]
    refine ⟨?_, kept_refl _ _⟩
    rw [strL_data]
    exact HR.out

set_option maxHeartbeats 1000000 in
theorem ufrag_any {w : World} {g : Nat} {u : UrlM} (hq : u.hf = false) (hy : u.frg = []) (s : ByteArray) (hs : s.size ≤ 65536) (h : Rw w 0 g 43 (.string s :: urlCells u)) :
    Calls Tryz.prog 22 #[.pointer (some ⟨g, 0, none⟩)] w fun e w' => e = .returned (.tuple #[]) ∧ ∃ l, RestV w w' g 43 (urlCells { u with hf := (fragP s.data.toList).1, frg := (fragP s.data.toList).2 }) l := by
  by_cases hh : s.data.toList.head? = some 35
  · have HN := Lib.hid (unext_yes s 35 h hh)
    obtain ⟨t, ht⟩ : ∃ t : ByteArray, t = ⟨(s.data.toList.drop 1).toArray⟩ := ⟨_, rfl⟩
    have hts : t.size ≤ 65536 := by rw [ht, mk_size, List.length_drop, size_data]; omega
    have htl : t.data.toList = s.data.toList.drop 1 := by rw [ht]
    have HTS : Hid (strL (s.data.toList.drop 1) = .string t) := Lib.hid (by rw [ht]; rfl)
    have HQ : Hid (fragP s.data.toList = (true, encL 1 t.data.toList)) := Lib.hid (by unfold fragP; rw [if_pos hh, htl])
    have HA := Lib.hid (fun W => pencode_any t (by omega) 1 W)
    obtain ⟨x, hx⟩ : ∃ x : ByteArray, x = ⟨(encL 1 t.data.toList).toArray⟩ := ⟨_, rfl⟩
    rw [← hx] at HA
    have HX : Hid (Value.string x = strL (encL 1 t.data.toList)) := Lib.hid (by rw [hx]; rfl)
    clear h hh ht htl hx hs
    go_enter Tryz.func22, Tryz.ntmps22
    go_wp2_with fail
    refine HN.out.mono ?_
    rintro e w1 ⟨rfl, hv1⟩
    have HV1 := Lib.hid hv1
    have c1 := Rw.cell hv1.1 (j := 9) rfl
    have f1 := Rw.free hv1.1 9
    have HV2 := Lib.hid (rest_put HV1.out 8 (.bool true))
    obtain ⟨w2, hw2⟩ : ∃ w2, w2 = w1.setCell ⟨g, 8 + 1, none⟩ (.bool true) := ⟨_, rfl⟩
    rw [← hw2] at HV2
    have hw2' : w1.setCell ⟨g, 9, none⟩ (.bool true) = w2 := hw2.symm
    have c2 := Rw.cell HV2.out.1 (j := 0) rfl
    rw [HTS.out] at c2
    clear hv1 hw2
    go_wp2_with fail
    refine (HA.out _).mono ?_
    rintro e w4 ⟨rfl, hb4⟩
    have HV4 := Lib.hid (rest_below HV2.out hb4)
    have c4 := Rw.cell HV4.out.1 (j := 10) rfl
    have f4 := Rw.free HV4.out.1 10
    clear hb4
    go_wp2_with fail
    go_end0
    refine ⟨rfl, s.data.toList.drop 1, ?_⟩
    have hput := rest_put HV4.out 9 (.string x)
    rw [HQ.out]
    have e2 : ((urlCells u).set 8 (Value.bool true)).set 9 (Value.string x) = urlCells { u with hf := true, frg := encL 1 t.data.toList } := by rw [HX.out]; rfl
    rw [e2] at hput
    exact hput
  · have HN := Lib.hid (unext_no s 35 h hh)
    have HQ : Hid (fragP s.data.toList = (false, [])) := Lib.hid (by unfold fragP; rw [if_neg hh])
    have HR := Lib.hid h
    clear h hh
    go_enter Tryz.func22, Tryz.ntmps22
    go_wp2_with fail
    refine HN.out.mono ?_
    rintro e w1 ⟨rfl, rfl⟩
    go_wp2_with fail
    go_end0
    refine ⟨rfl, s.data.toList, ?_⟩
    rw [HQ.out]
    have e2 : urlCells { u with hf := false, frg := [] } = urlCells u := by unfold urlCells; rw [hq, hy]
    simp only
    rw [e2]
    refine ⟨?_, kept_refl _ _⟩
    rw [strL_data]
    exact HR.out

/-! the scheme -/
def SchV (w w' : World) (g : Nat) (u : UrlM) (e : Ending) : Option (List UInt8 × List UInt8) → Prop
  | none => e = .returned (.bool false) ∧ Kept (fun k => k = g) w w'
  | some x => e = .returned (.bool true) ∧ RestV w w' g 43 (urlCells { u with sch := x.1 }) x.2

set_option maxHeartbeats 1000000 in
theorem uscheme_any {w : World} {g : Nat} {u : UrlM} (s : ByteArray) (hs : s.size ≤ 65536) (h : Rw w 0 g 43 (.string s :: urlCells u)) :
    Calls Tryz.prog 18 #[.pointer (some ⟨g, 0, none⟩)] w fun e w' => SchV w w' g u e (schemeP s.data.toList) := by
  have HT := Lib.hid (utake_any s ⟨#[58]⟩ (by omega) (by intro b hb; simp at hb; subst hb; decide) (by decide) (by decide) h)
  obtain ⟨a, ha⟩ : ∃ a : ByteArray, a = ⟨(upL [58] s.data.toList).toArray⟩ := ⟨_, rfl⟩
  have has : a.size ≤ 65536 := by rw [ha]; exact up_size _ hs
  have hal : a.data.toList = upL [58] s.data.toList := by rw [ha]
  have HAT : Hid (strL (upL [58] s.data.toList) = .string a) := Lib.hid (by rw [ha]; rfl)
  obtain ⟨f, hf⟩ : ∃ f : ByteArray, f = ⟨(fromL [58] s.data.toList).toArray⟩ := ⟨_, rfl⟩
  have hfl : f.data.toList = fromL [58] s.data.toList := by rw [hf]
  have HT2 : Hid (Calls Tryz.prog 46 #[.pointer (some ⟨g, 0, none⟩), .string ⟨#[58]⟩] w fun e w' => e = .returned (.string a) ∧ RestV w w' g 43 (urlCells u) f.data.toList) := Lib.hid (by
    refine HT.out.mono ?_
    rintro e w' ⟨rfl, h2⟩
    rw [hfl]
    exact ⟨by rw [← HAT.out], h2⟩)
  have HL := Lib.hid (fun W => lower_str_any a (by omega) W)
  obtain ⟨x, hx⟩ : ∃ x : ByteArray, x = ⟨(lowL a.data.toList).toArray⟩ := ⟨_, rfl⟩
  rw [← hx] at HL
  have hxl : x.data.toList = lowL (upL [58] s.data.toList) := by rw [hx, hal]
  have HD := Lib.hid (fun W => udef_any x W)
  have hfh := from_head [58] s.data.toList
  have HXS : Hid (Value.string x = strL x.data.toList) := Lib.hid (by rw [strL_data])
  obtain ⟨R, hR⟩ : ∃ R, R = schemeP s.data.toList := ⟨_, rfl⟩
  rw [← hR]
  have hRR : R = if (defP x.data.toList).2 = true ∧ f.data.toList ≠ [] then some (x.data.toList, skipL (f.data.toList.drop 1)) else none := by rw [hR, hxl, hfl]; rfl
  rw [← hfl] at hfh
  obtain ⟨U, hU⟩ : ∃ U, U = (defP x.data.toList).1 := ⟨_, rfl⟩
  rw [← hU] at HD
  clear HT ha hf hal hfl hx hxl HAT h hU hR
  cases hok : (defP x.data.toList).2
  · rw [hok] at HD hRR
    have HRR : Hid (R = none) := Lib.hid (by rw [hRR, if_neg (by rintro ⟨h, _⟩; exact absurd h (by decide))])
    clear hRR hok hfh
    go_enter Tryz.func18, Tryz.ntmps18
    go_wp2_with fail
    refine HT2.out.mono ?_
    rintro e w1 ⟨rfl, hv1⟩
    have HV1 := Lib.hid hv1
    clear hv1
    go_wp2_with fail
    refine (HL.out _).mono ?_
    rintro e w2 ⟨rfl, hb2⟩
    have HV2 := Lib.hid (rest_below HV1.out hb2)
    have c2 := Rw.cell HV2.out.1 (j := 1) rfl
    have f2 := Rw.free HV2.out.1 1
    have HV3 := Lib.hid (rest_put HV2.out 0 (.string x))
    obtain ⟨w3, hw3⟩ : ∃ w3, w3 = w2.setCell ⟨g, 0 + 1, none⟩ (.string x) := ⟨_, rfl⟩
    rw [← hw3] at HV3
    have hw3' : w2.setCell ⟨g, 1, none⟩ (.string x) = w3 := hw3.symm
    have c3 := Rw.cell HV3.out.1 (j := 1) rfl
    clear hb2 hw3
    go_wp2_with fail
    refine (HD.out _).mono ?_
    rintro e w4 ⟨rfl, rfl⟩
    go_wp2_with fail
    go_ret
    rw [HRR.out]
    exact ⟨rfl, HV3.out.2⟩
  · rw [hok] at HD hRR
    rcases hfh with hn | ⟨c, r, hc, hcc⟩
    · have HRR : Hid (R = none) := Lib.hid (by rw [hRR, if_neg (by rintro ⟨_, h⟩; exact h hn)])
      have HHN : Hid (f.data.toList.head? ≠ some 58) := Lib.hid (by rw [hn]; simp)
      have HFS : Hid (strL f.data.toList = .string f) := Lib.hid (strL_data f)
      clear hRR hok hn
      go_enter Tryz.func18, Tryz.ntmps18
      go_wp2_with fail
      refine HT2.out.mono ?_
      rintro e w1 ⟨rfl, hv1⟩
      have HV1 := Lib.hid hv1
      clear hv1
      go_wp2_with fail
      refine (HL.out _).mono ?_
      rintro e w2 ⟨rfl, hb2⟩
      have HV2 := Lib.hid (rest_below HV1.out hb2)
      have c2 := Rw.cell HV2.out.1 (j := 1) rfl
      have f2 := Rw.free HV2.out.1 1
      have HV3 := Lib.hid (rest_put HV2.out 0 (.string x))
      obtain ⟨w3, hw3⟩ : ∃ w3, w3 = w2.setCell ⟨g, 0 + 1, none⟩ (.string x) := ⟨_, rfl⟩
      rw [← hw3] at HV3
      have hw3' : w2.setCell ⟨g, 1, none⟩ (.string x) = w3 := hw3.symm
      have c3 := Rw.cell HV3.out.1 (j := 1) rfl
      have hrow := HV3.out.1
      rw [HFS.out] at hrow
      have HN := Lib.hid (unext_no f 58 hrow HHN.out)
      clear hb2 hw3 hrow
      go_wp2_with fail
      refine (HD.out _).mono ?_
      rintro e w4 ⟨rfl, rfl⟩
      go_wp2_with fail
      refine HN.out.mono ?_
      rintro e w5 ⟨rfl, rfl⟩
      go_wp2_with fail
      go_ret
      rw [HRR.out]
      exact ⟨rfl, HV3.out.2⟩
    · have hc58 : c = 58 := by rw [has_one] at hcc; exact beq_iff_eq.1 hcc
      have HRR : Hid (R = some (x.data.toList, skipL (f.data.toList.drop 1))) := Lib.hid (by rw [hRR, if_pos ⟨rfl, by rw [hc]; simp⟩])
      have HHN : Hid (f.data.toList.head? = some 58) := Lib.hid (by rw [hc, hc58]; rfl)
      have HFS : Hid (strL f.data.toList = .string f) := Lib.hid (strL_data f)
      obtain ⟨k, hk⟩ : ∃ k : ByteArray, k = ⟨(f.data.toList.drop 1).toArray⟩ := ⟨_, rfl⟩
      have HKL : Hid (k.data.toList = f.data.toList.drop 1) := Lib.hid (by rw [hk])
      have HKS : Hid (strL (f.data.toList.drop 1) = .string k) := Lib.hid (by rw [hk]; rfl)
      clear hRR hok hc hcc hc58 hk
      go_enter Tryz.func18, Tryz.ntmps18
      go_wp2_with fail
      refine HT2.out.mono ?_
      rintro e w1 ⟨rfl, hv1⟩
      have HV1 := Lib.hid hv1
      clear hv1
      go_wp2_with fail
      refine (HL.out _).mono ?_
      rintro e w2 ⟨rfl, hb2⟩
      have HV2 := Lib.hid (rest_below HV1.out hb2)
      have c2 := Rw.cell HV2.out.1 (j := 1) rfl
      have f2 := Rw.free HV2.out.1 1
      have HV3 := Lib.hid (rest_put HV2.out 0 (.string x))
      obtain ⟨w3, hw3⟩ : ∃ w3, w3 = w2.setCell ⟨g, 0 + 1, none⟩ (.string x) := ⟨_, rfl⟩
      rw [← hw3] at HV3
      have hw3' : w2.setCell ⟨g, 1, none⟩ (.string x) = w3 := hw3.symm
      have c3 := Rw.cell HV3.out.1 (j := 1) rfl
      have hrow := HV3.out.1
      rw [HFS.out] at hrow
      have HN := Lib.hid (unext_yes f 58 hrow HHN.out)
      clear hb2 hw3 hrow
      go_wp2_with fail
      refine (HD.out _).mono ?_
      rintro e w4 ⟨rfl, rfl⟩
      go_wp2_with fail
      refine HN.out.mono ?_
      rintro e w5 ⟨rfl, hv5⟩
      have HV5 := Lib.hid (rest_trans HV3.out hv5)
      have hrow := hv5.1
      rw [HKS.out] at hrow
      have HS := Lib.hid (uskip_any k ⟨#[47, 92]⟩ (by intro b hb; simp at hb; rcases hb with rfl | rfl <;> decide) (by decide) hrow)
      clear hv5 hrow
      go_wp2_with fail
      refine HS.out.mono ?_
      rintro e w6 ⟨rfl, hv6⟩
      have HV6 := Lib.hid (rest_trans HV5.out hv6)
      clear hv6
      go_wp2_with fail
      go_ret
      rw [HRR.out]
      refine ⟨rfl, ?_⟩
      have h6 := HV6.out
      rw [HKL.out] at h6
      have e2 : (urlCells u).set 0 (Value.string x) = urlCells { u with sch := x.data.toList } := by rw [HXS.out]; rfl
      rw [e2] at h6
      exact h6

theorem last_index (p : ByteArray) : (Lib.lastIndexByte p 64 = -1 ∧ (64 : UInt8) ∉ p.data.toList) ∨ ∃ k : Nat, k < p.size ∧ Lib.lastIndexByte p 64 = k ∧ p.data.toList = p.data.toList.take k ++ 64 :: p.data.toList.drop (k + 1) ∧ (64 : UInt8) ∉ p.data.toList.drop (k + 1) := by
  have hat : ∀ j (h : j < p.size), p.data[j]! = p.data.toList[j]'(by rw [size_data]; exact h) := by
    intro j h
    rw [getElem!_pos p.data j h]
    rfl
  rcases Lib.lastIndexByte_spec p 64 with ⟨h1, h2⟩ | ⟨k, hk, h1, h2, h3⟩
  · refine .inl ⟨h1, fun hm => ?_⟩
    obtain ⟨j, hj, he⟩ := List.getElem_of_mem hm
    rw [size_data] at hj
    have := h2 j hj
    rw [hat j hj, he] at this
    exact this rfl
  · refine .inr ⟨k, hk, h1, ?_, fun hm => ?_⟩
    · have hkl : k < p.data.toList.length := by rw [size_data]; exact hk
      have e : p.data.toList[k]'hkl = 64 := by
        rw [hat k hk] at h2
        exact UInt8.toNat_inj.1 (by simpa using (by omega : (p.data.toList[k]'hkl).toNat = 64))
      conv => lhs; rw [← List.take_append_drop k p.data.toList, List.drop_eq_getElem_cons hkl, e]
    · obtain ⟨j, hj, he⟩ := List.getElem_of_mem hm
      rw [List.length_drop, size_data] at hj
      rw [List.getElem_drop] at he
      have h4 := h3 (k + 1 + j) (by omega) (by omega)
      rw [hat (k + 1 + j) (by omega), he] at h4
      exact h4 rfl

def AutV (w w' : World) (g : Nat) (u : UrlM) (e : Ending) (l : List UInt8) : Option AutM → Prop
  | none => e = .returned (.bool false) ∧ Kept (fun k => k = g) w w'
  | some a => e = .returned (.bool true) ∧ RestV w w' g 43 (urlCells { u with usr := a.usr, pas := a.pas, hos := a.hos, prt := a.prt }) l

theorem place_none {sch l : List UInt8} (h : hostP (upL [58] l) = none ∨ portP sch ((fromL [58] l).drop 1) = none) : placeP sch l = none := by
  unfold placeP
  rcases h with h | h
  · rw [h]
    rfl
  · cases hostP (upL [58] l) with
    | none => rfl
    | some x =>
      rw [h]
      rfl

theorem place_some {sch l h : List UInt8} {p : Int} (h1 : hostP (upL [58] l) = some h) (h2 : portP sch ((fromL [58] l).drop 1) = some p) : placeP sch l = some (h, p) := by
  unfold placeP
  rw [h1, h2]
  rfl

set_option maxHeartbeats 2000000 in
theorem uauth_any {w0 w : World} {g : Nat} {u : UrlM} (hu1 : u.usr = []) (hu2 : u.pas = []) (hE : Env11 w0) (hB : Below w0.heap.size w0 w) (hg : w0.heap.size ≤ g) (s : ByteArray) (hs : s.size ≤ 65536) (h : Rw w 0 g 43 (.string s :: urlCells u)) :
    Calls Tryz.prog 19 #[.pointer (some ⟨g, 0, none⟩)] w fun e w' => AutV w w' g u e (fromL authE s.data.toList) (authP u.sch (upL authE s.data.toList)) := by
  have HT := Lib.hid (utake_any s ⟨#[47, 92, 63, 35]⟩ (by omega) (by intro b hb; simp at hb; rcases hb with rfl | rfl | rfl | rfl <;> decide) (by decide) (by decide) h)
  have HG := Lib.hid hg
  have HE := Lib.hid hE
  have HB := Lib.hid hB
  obtain ⟨p, hp⟩ : ∃ p : ByteArray, p = ⟨(upL authE s.data.toList).toArray⟩ := ⟨_, rfl⟩
  have hps : p.size ≤ 65536 := by rw [hp]; exact up_size _ hs
  have hpl : p.data.toList = upL authE s.data.toList := by rw [hp]
  have HPT : Hid (strL (upL authE s.data.toList) = .string p) := Lib.hid (by rw [hp]; rfl)
  obtain ⟨L, hL⟩ : ∃ L, L = fromL authE s.data.toList := ⟨_, rfl⟩
  have HT2 : Hid (Calls Tryz.prog 46 #[.pointer (some ⟨g, 0, none⟩), .string ⟨#[47, 92, 63, 35]⟩] w fun e w' => e = .returned (.string p) ∧ RestV w w' g 43 (urlCells u) L) := Lib.hid (by
    refine HT.out.mono ?_
    rintro e w' ⟨rfl, h2⟩
    rw [hL]
    exact ⟨by rw [← HPT.out]; rfl, h2⟩)
  rw [← hL, ← hpl]
  obtain ⟨sc, hsc⟩ : ∃ sc : ByteArray, sc = ⟨u.sch.toArray⟩ := ⟨_, rfl⟩
  have HSC : Hid (strL u.sch = .string sc) := Lib.hid (by rw [hsc]; rfl)
  have hscl : u.sch = sc.data.toList := by rw [hsc]
  have hli := last_index p
  have HLI := Lib.hid (fun W => Tryz.strings_LastIndexByte p 64 (by omega) W)
  obtain ⟨R, hR⟩ : ∃ R, R = authP u.sch p.data.toList := ⟨_, rfl⟩
  rw [← hR]
  rw [hscl] at hR
  clear HT hp hpl hL h hg hE hB HPT hsc hscl hs
  rcases hli with ⟨hx, hno⟩ | ⟨k, hkl, hx, hcut, hno⟩
  · rw [hx] at HLI
    have HQS : Hid ((p).size ≤ 65536) := Lib.hid (by exact hps)
    have hRR : R = (placeP sc.data.toList p.data.toList).map fun x => (⟨[], [], x.1, x.2⟩ : AutM) := by
      rw [hR]
      unfold authP
      rw [lastAt_none hno]
    clear hR hx hno
    obtain ⟨q, hq⟩ : ∃ q : ByteArray, q = p := ⟨_, rfl⟩
    rw [← hq] at HQS hRR
    have hqs := HQS.out
    obtain ⟨n, hn⟩ : ∃ n : ByteArray, n = ⟨(upL [58] q.data.toList).toArray⟩ := ⟨_, rfl⟩
    obtain ⟨d, hd⟩ : ∃ d : ByteArray, d = ⟨((fromL [58] q.data.toList).drop 1).toArray⟩ := ⟨_, rfl⟩
    have hns : n.size ≤ 65536 := by rw [hn]; exact up_size _ hqs
    have hds : d.size ≤ 65536 := by rw [hd]; exact from_size _ 1 hqs
    have HC : Hid (∀ W, Below w0.heap.size w0 W → Calls Tryz.prog 52 #[.string q, .string ⟨#[58]⟩] W fun e w' => (∃ t, e = .returned (.tuple #[.string n, .string d, .bool t])) ∧ Below W.heap.size W w') := Lib.hid (by
      intro W hW
      rw [hn, hd]
      exact ucut_any q 58 (by omega) W (env_below HE.out hW))
    have HH := Lib.hid (fun W (hT : Tab10 W) => hparse_any n (by omega) W hT)
    have HP := Lib.hid (fun W => uport_any sc d (by omega) W)
    have hnl : n.data.toList = upL [58] q.data.toList := by rw [hn]
    have hdl : d.data.toList = (fromL [58] q.data.toList).drop 1 := by rw [hd]
    rw [hnl] at HH
    rw [hdl] at HP
    clear hn hd hnl hdl HQS
    subst hq
    cases hpo : portP sc.data.toList ((fromL [58] q.data.toList).drop 1) with
    | none =>
      have HR : Hid (R = none) := Lib.hid (by rw [hRR, place_none (.inr hpo)]; rfl)
      rw [hpo] at HP
      have HP : Hid (∀ W, Calls Tryz.prog 54 #[.string sc, .string d] W fun e w' => e = .returned (.tuple #[.int .i64 0, .bool false]) ∧ w' = W) := HP
      obtain ⟨pv, hpv⟩ : ∃ pv : Int, pv = 0 := ⟨_, rfl⟩
      rw [← hpv] at HP
      obtain ⟨hv, hhv⟩ : ∃ hv, hv = hostB (hostP (upL [58] q.data.toList)) := ⟨_, rfl⟩
      obtain ⟨hx, hhx⟩ : ∃ hx, hx = hostE (hostP (upL [58] q.data.toList)) := ⟨_, rfl⟩
      rw [← hhv, ← hhx] at HH
      clear hRR hpo hpv hhv hhx
      go_enter Tryz.func19, Tryz.ntmps19
      go_wp2_with fail
      refine HT2.out.mono ?_
      rintro e w1 ⟨rfl, hv1⟩
      have HV1 := Lib.hid hv1
      clear hv1
      go_wp2_with fail
      refine (HLI.out w1).mono ?_
      rintro e w2 ⟨rfl, rfl⟩
      obtain ⟨wB, hwB⟩ : ∃ wB, wB = w2 := ⟨_, rfl⟩
      subst hwB
      have HVB := HV1
      have HBB := Lib.hid (below_kg HB.out HVB.out.2 HG.out)
      go_wp2_with fail
      refine (HC.out wB HBB.out).mono ?_
      rintro e w4 ⟨⟨tt, rfl⟩, hb4⟩
      have HV4 := Lib.hid (rest_below HVB.out hb4)
      have HB4 := Lib.hid (below_kg HB.out HV4.out.2 HG.out)
      clear hb4
      go_wp2_with fail
      refine (HH.out w4 (env_below HE.out HB4.out).2.1).mono ?_
      rintro e w5 ⟨rfl, hb5⟩
      have HV5 := Lib.hid (rest_below HV4.out hb5)
      have c5 := Rw.cell HV5.out.1 (j := 1) rfl
      rw [HSC.out] at c5
      have c54 := Rw.cell HV5.out.1 (j := 4) rfl
      have f54 := Rw.free HV5.out.1 4
      have HV6 := Lib.hid (rest_put HV5.out 3 (.string hv))
      obtain ⟨w6, hw6⟩ : ∃ w6, w6 = w5.setCell ⟨g, 3 + 1, none⟩ (.string hv) := ⟨_, rfl⟩
      rw [← hw6] at HV6
      have hw6' : w5.setCell ⟨g, 4, none⟩ (.string hv) = w6 := hw6.symm
      have c65 := Rw.cell HV6.out.1 (j := 5) rfl
      have f65 := Rw.free HV6.out.1 5
      have HV7 := Lib.hid (rest_put HV6.out 4 (.int .i64 pv))
      clear hb5 hw6
      go_wp2_with fail
      refine (HP.out w5).mono ?_
      rintro e w5b ⟨rfl, rfl⟩
      go_wp2_with fail
      go_ret
      rw [HR.out]
      exact ⟨rfl, HV7.out.2⟩
    | some P =>
      rw [hpo] at HP
      have HP : Hid (∀ W, Calls Tryz.prog 54 #[.string sc, .string d] W fun e w' => e = .returned (.tuple #[.int .i64 P, .bool true]) ∧ w' = W) := HP
      obtain ⟨pv, hpv⟩ : ∃ pv : Int, pv = P := ⟨_, rfl⟩
      rw [← hpv] at HP
      cases hho : hostP (upL [58] q.data.toList) with
      | none =>
        have HR : Hid (R = none) := Lib.hid (by rw [hRR, place_none (.inl hho)]; rfl)
        rw [hho] at HH
        have HH : Hid (∀ W, Tab10 W → Calls Tryz.prog 53 #[.string n] W fun e w' => e = .returned (.tuple #[.string (hostB none), .int .i64 8]) ∧ Below W.heap.size W w') := HH
        obtain ⟨hv, hhv⟩ : ∃ hv, hv = hostB none := ⟨_, rfl⟩
        rw [← hhv] at HH
        clear hRR hpo hho hpv hhv
        go_enter Tryz.func19, Tryz.ntmps19
        go_wp2_with fail
        refine HT2.out.mono ?_
        rintro e w1 ⟨rfl, hv1⟩
        have HV1 := Lib.hid hv1
        clear hv1
        go_wp2_with fail
        refine (HLI.out w1).mono ?_
        rintro e w2 ⟨rfl, rfl⟩
        obtain ⟨wB, hwB⟩ : ∃ wB, wB = w2 := ⟨_, rfl⟩
        subst hwB
        have HVB := HV1
        have HBB := Lib.hid (below_kg HB.out HVB.out.2 HG.out)
        go_wp2_with fail
        refine (HC.out wB HBB.out).mono ?_
        rintro e w4 ⟨⟨tt, rfl⟩, hb4⟩
        have HV4 := Lib.hid (rest_below HVB.out hb4)
        have HB4 := Lib.hid (below_kg HB.out HV4.out.2 HG.out)
        clear hb4
        go_wp2_with fail
        refine (HH.out w4 (env_below HE.out HB4.out).2.1).mono ?_
        rintro e w5 ⟨rfl, hb5⟩
        have HV5 := Lib.hid (rest_below HV4.out hb5)
        have c5 := Rw.cell HV5.out.1 (j := 1) rfl
        rw [HSC.out] at c5
        have c54 := Rw.cell HV5.out.1 (j := 4) rfl
        have f54 := Rw.free HV5.out.1 4
        have HV6 := Lib.hid (rest_put HV5.out 3 (.string hv))
        obtain ⟨w6, hw6⟩ : ∃ w6, w6 = w5.setCell ⟨g, 3 + 1, none⟩ (.string hv) := ⟨_, rfl⟩
        rw [← hw6] at HV6
        have hw6' : w5.setCell ⟨g, 4, none⟩ (.string hv) = w6 := hw6.symm
        have c65 := Rw.cell HV6.out.1 (j := 5) rfl
        have f65 := Rw.free HV6.out.1 5
        have HV7 := Lib.hid (rest_put HV6.out 4 (.int .i64 pv))
        clear hb5 hw6
        go_wp2_with fail
        refine (HP.out w5).mono ?_
        rintro e w5b ⟨rfl, rfl⟩
        go_wp2_with fail
        go_ret
        rw [HR.out]
        exact ⟨rfl, HV7.out.2⟩
      | some H =>
        have HR : Hid (R = some ⟨[], [], H, P⟩) := Lib.hid (by rw [hRR, place_some hho hpo]; rfl)
        rw [hho] at HH
        have HH : Hid (∀ W, Tab10 W → Calls Tryz.prog 53 #[.string n] W fun e w' => e = .returned (.tuple #[.string (hostB (some H)), .int .i64 0]) ∧ Below W.heap.size W w') := HH
        obtain ⟨hv, hhv⟩ : ∃ hv, hv = hostB (some H) := ⟨_, rfl⟩
        rw [← hhv] at HH
        have HHV : Hid (Value.string hv = strL H) := Lib.hid (by rw [hhv]; rfl)
        have HPV : Hid (Value.int .i64 pv = Value.int .i64 P) := Lib.hid (by rw [hpv])
        clear hRR hpo hho hpv hhv
        go_enter Tryz.func19, Tryz.ntmps19
        go_wp2_with fail
        refine HT2.out.mono ?_
        rintro e w1 ⟨rfl, hv1⟩
        have HV1 := Lib.hid hv1
        clear hv1
        go_wp2_with fail
        refine (HLI.out w1).mono ?_
        rintro e w2 ⟨rfl, rfl⟩
        obtain ⟨wB, hwB⟩ : ∃ wB, wB = w2 := ⟨_, rfl⟩
        subst hwB
        have HVB := HV1
        have HBB := Lib.hid (below_kg HB.out HVB.out.2 HG.out)
        go_wp2_with fail
        refine (HC.out wB HBB.out).mono ?_
        rintro e w4 ⟨⟨tt, rfl⟩, hb4⟩
        have HV4 := Lib.hid (rest_below HVB.out hb4)
        have HB4 := Lib.hid (below_kg HB.out HV4.out.2 HG.out)
        clear hb4
        go_wp2_with fail
        refine (HH.out w4 (env_below HE.out HB4.out).2.1).mono ?_
        rintro e w5 ⟨rfl, hb5⟩
        have HV5 := Lib.hid (rest_below HV4.out hb5)
        have c5 := Rw.cell HV5.out.1 (j := 1) rfl
        rw [HSC.out] at c5
        have c54 := Rw.cell HV5.out.1 (j := 4) rfl
        have f54 := Rw.free HV5.out.1 4
        have HV6 := Lib.hid (rest_put HV5.out 3 (.string hv))
        obtain ⟨w6, hw6⟩ : ∃ w6, w6 = w5.setCell ⟨g, 3 + 1, none⟩ (.string hv) := ⟨_, rfl⟩
        rw [← hw6] at HV6
        have hw6' : w5.setCell ⟨g, 4, none⟩ (.string hv) = w6 := hw6.symm
        have c65 := Rw.cell HV6.out.1 (j := 5) rfl
        have f65 := Rw.free HV6.out.1 5
        have HV7 := Lib.hid (rest_put HV6.out 4 (.int .i64 pv))
        clear hb5 hw6
        go_wp2_with fail
        refine (HP.out w5).mono ?_
        rintro e w5b ⟨rfl, rfl⟩
        go_wp2_with fail
        go_ret
        rw [HR.out]
        refine ⟨rfl, ?_⟩
        have h7 := HV7.out
        have e2 : ((urlCells u).set 3 (Value.string hv)).set 4 (Value.int .i64 pv) = urlCells { u with usr := [], pas := [], hos := H, prt := P } := by rw [HHV.out, HPV.out]; unfold urlCells; rw [hu1, hu2]; rfl
        rw [e2] at h7
        exact h7
  · rw [hx] at HLI
    have HQS : Hid ((p.extract (k + 1) p.size).size ≤ 65536) := Lib.hid (by rw [ByteArray.size_extract]; omega)
    have hql : (p.extract (k + 1) p.size).data.toList = p.data.toList.drop (k + 1) := by rw [extract_list, List.take_of_length_le (by rw [size_data]; exact Nat.le_refl _)]
    have hal : (p.extract 0 k).data.toList = p.data.toList.take k := by rw [extract_list, List.drop_zero]
    have hRR : R = (placeP sc.data.toList (p.extract (k + 1) p.size).data.toList).map fun x => (⟨(userP (p.extract 0 k).data.toList).1, (userP (p.extract 0 k).data.toList).2, x.1, x.2⟩ : AutM) := by
      rw [hR, hql, hal]
      unfold authP
      rw [hcut, lastAt_some _ hno, ← hcut]
    have hk0 : (0 : Int) ≤ (k : Int) := by omega
    have hk1 : (k : Int) ≤ (p.size : Int) := by omega
    have hk2 : (k : Int) + 1 ≤ (p.size : Int) := by omega
    have hk3 : (0 : Int) ≤ (k : Int) + 1 := by omega
    have hkn : ((k : Int) + 1).toNat = k + 1 := by omega
    have HAS : Hid ((p.extract 0 k).size ≤ 65536) := Lib.hid (by rw [ByteArray.size_extract]; omega)
    clear hR hx hcut hno hql hal
    obtain ⟨q, hq⟩ : ∃ q : ByteArray, q = p.extract (k + 1) p.size := ⟨_, rfl⟩
    rw [← hq] at HQS hRR
    have hqs := HQS.out
    obtain ⟨n, hn⟩ : ∃ n : ByteArray, n = ⟨(upL [58] q.data.toList).toArray⟩ := ⟨_, rfl⟩
    obtain ⟨d, hd⟩ : ∃ d : ByteArray, d = ⟨((fromL [58] q.data.toList).drop 1).toArray⟩ := ⟨_, rfl⟩
    have hns : n.size ≤ 65536 := by rw [hn]; exact up_size _ hqs
    have hds : d.size ≤ 65536 := by rw [hd]; exact from_size _ 1 hqs
    have HC : Hid (∀ W, Below w0.heap.size w0 W → Calls Tryz.prog 52 #[.string q, .string ⟨#[58]⟩] W fun e w' => (∃ t, e = .returned (.tuple #[.string n, .string d, .bool t])) ∧ Below W.heap.size W w') := Lib.hid (by
      intro W hW
      rw [hn, hd]
      exact ucut_any q 58 (by omega) W (env_below HE.out hW))
    have HH := Lib.hid (fun W (hT : Tab10 W) => hparse_any n (by omega) W hT)
    have HP := Lib.hid (fun W => uport_any sc d (by omega) W)
    have hnl : n.data.toList = upL [58] q.data.toList := by rw [hn]
    have hdl : d.data.toList = (fromL [58] q.data.toList).drop 1 := by rw [hd]
    rw [hnl] at HH
    rw [hdl] at HP
    clear hn hd hnl hdl HQS
    have HQE : Hid (p.extract (k + 1) p.size = q) := Lib.hid hq.symm
    have hqe : p.extract (k + 1) p.size = q := hq.symm
    clear hq
    cases hpo : portP sc.data.toList ((fromL [58] q.data.toList).drop 1) with
    | none =>
      have HR : Hid (R = none) := Lib.hid (by rw [hRR, place_none (.inr hpo)]; rfl)
      rw [hpo] at HP
      have HP : Hid (∀ W, Calls Tryz.prog 54 #[.string sc, .string d] W fun e w' => e = .returned (.tuple #[.int .i64 0, .bool false]) ∧ w' = W) := HP
      obtain ⟨pv, hpv⟩ : ∃ pv : Int, pv = 0 := ⟨_, rfl⟩
      rw [← hpv] at HP
      obtain ⟨hv, hhv⟩ : ∃ hv, hv = hostB (hostP (upL [58] q.data.toList)) := ⟨_, rfl⟩
      obtain ⟨hx, hhx⟩ : ∃ hx, hx = hostE (hostP (upL [58] q.data.toList)) := ⟨_, rfl⟩
      rw [← hhv, ← hhx] at HH
      clear hRR hpo hpv hhv hhx
      go_enter Tryz.func19, Tryz.ntmps19
      go_wp2_with fail
      refine HT2.out.mono ?_
      rintro e w1 ⟨rfl, hv1⟩
      have HV1 := Lib.hid hv1
      clear hv1
      go_wp2_with fail
      refine (HLI.out w1).mono ?_
      rintro e w2 ⟨rfl, rfl⟩
      have HUS := Lib.hid (uuser_any HE.out (below_kg HB.out HV1.out.2 HG.out) HG.out (p.extract 0 k) HAS.out HV1.out.1)
      go_wp2_with fail
      refine HUS.out.mono ?_
      rintro e wB ⟨rfl, hvB⟩
      have HVB := Lib.hid (rest_trans HV1.out hvB)
      clear hvB
      have HBB := Lib.hid (below_kg HB.out HVB.out.2 HG.out)
      go_wp2_with fail
      refine (HC.out wB HBB.out).mono ?_
      rintro e w4 ⟨⟨tt, rfl⟩, hb4⟩
      have HV4 := Lib.hid (rest_below HVB.out hb4)
      have HB4 := Lib.hid (below_kg HB.out HV4.out.2 HG.out)
      clear hb4
      go_wp2_with fail
      refine (HH.out w4 (env_below HE.out HB4.out).2.1).mono ?_
      rintro e w5 ⟨rfl, hb5⟩
      have HV5 := Lib.hid (rest_below HV4.out hb5)
      have c5 := Rw.cell HV5.out.1 (j := 1) rfl
      rw [HSC.out] at c5
      have c54 := Rw.cell HV5.out.1 (j := 4) rfl
      have f54 := Rw.free HV5.out.1 4
      have HV6 := Lib.hid (rest_put HV5.out 3 (.string hv))
      obtain ⟨w6, hw6⟩ : ∃ w6, w6 = w5.setCell ⟨g, 3 + 1, none⟩ (.string hv) := ⟨_, rfl⟩
      rw [← hw6] at HV6
      have hw6' : w5.setCell ⟨g, 4, none⟩ (.string hv) = w6 := hw6.symm
      have c65 := Rw.cell HV6.out.1 (j := 5) rfl
      have f65 := Rw.free HV6.out.1 5
      have HV7 := Lib.hid (rest_put HV6.out 4 (.int .i64 pv))
      clear hb5 hw6
      go_wp2_with fail
      refine (HP.out w5).mono ?_
      rintro e w5b ⟨rfl, rfl⟩
      go_wp2_with fail
      go_ret
      rw [HR.out]
      exact ⟨rfl, HV7.out.2⟩
    | some P =>
      rw [hpo] at HP
      have HP : Hid (∀ W, Calls Tryz.prog 54 #[.string sc, .string d] W fun e w' => e = .returned (.tuple #[.int .i64 P, .bool true]) ∧ w' = W) := HP
      obtain ⟨pv, hpv⟩ : ∃ pv : Int, pv = P := ⟨_, rfl⟩
      rw [← hpv] at HP
      cases hho : hostP (upL [58] q.data.toList) with
      | none =>
        have HR : Hid (R = none) := Lib.hid (by rw [hRR, place_none (.inl hho)]; rfl)
        rw [hho] at HH
        have HH : Hid (∀ W, Tab10 W → Calls Tryz.prog 53 #[.string n] W fun e w' => e = .returned (.tuple #[.string (hostB none), .int .i64 8]) ∧ Below W.heap.size W w') := HH
        obtain ⟨hv, hhv⟩ : ∃ hv, hv = hostB none := ⟨_, rfl⟩
        rw [← hhv] at HH
        clear hRR hpo hho hpv hhv
        go_enter Tryz.func19, Tryz.ntmps19
        go_wp2_with fail
        refine HT2.out.mono ?_
        rintro e w1 ⟨rfl, hv1⟩
        have HV1 := Lib.hid hv1
        clear hv1
        go_wp2_with fail
        refine (HLI.out w1).mono ?_
        rintro e w2 ⟨rfl, rfl⟩
        have HUS := Lib.hid (uuser_any HE.out (below_kg HB.out HV1.out.2 HG.out) HG.out (p.extract 0 k) HAS.out HV1.out.1)
        go_wp2_with fail
        refine HUS.out.mono ?_
        rintro e wB ⟨rfl, hvB⟩
        have HVB := Lib.hid (rest_trans HV1.out hvB)
        clear hvB
        have HBB := Lib.hid (below_kg HB.out HVB.out.2 HG.out)
        go_wp2_with fail
        refine (HC.out wB HBB.out).mono ?_
        rintro e w4 ⟨⟨tt, rfl⟩, hb4⟩
        have HV4 := Lib.hid (rest_below HVB.out hb4)
        have HB4 := Lib.hid (below_kg HB.out HV4.out.2 HG.out)
        clear hb4
        go_wp2_with fail
        refine (HH.out w4 (env_below HE.out HB4.out).2.1).mono ?_
        rintro e w5 ⟨rfl, hb5⟩
        have HV5 := Lib.hid (rest_below HV4.out hb5)
        have c5 := Rw.cell HV5.out.1 (j := 1) rfl
        rw [HSC.out] at c5
        have c54 := Rw.cell HV5.out.1 (j := 4) rfl
        have f54 := Rw.free HV5.out.1 4
        have HV6 := Lib.hid (rest_put HV5.out 3 (.string hv))
        obtain ⟨w6, hw6⟩ : ∃ w6, w6 = w5.setCell ⟨g, 3 + 1, none⟩ (.string hv) := ⟨_, rfl⟩
        rw [← hw6] at HV6
        have hw6' : w5.setCell ⟨g, 4, none⟩ (.string hv) = w6 := hw6.symm
        have c65 := Rw.cell HV6.out.1 (j := 5) rfl
        have f65 := Rw.free HV6.out.1 5
        have HV7 := Lib.hid (rest_put HV6.out 4 (.int .i64 pv))
        clear hb5 hw6
        go_wp2_with fail
        refine (HP.out w5).mono ?_
        rintro e w5b ⟨rfl, rfl⟩
        go_wp2_with fail
        go_ret
        rw [HR.out]
        exact ⟨rfl, HV7.out.2⟩
      | some H =>
        have HR : Hid (R = some ⟨(userP (p.extract 0 k).data.toList).1, (userP (p.extract 0 k).data.toList).2, H, P⟩) := Lib.hid (by rw [hRR, place_some hho hpo]; rfl)
        rw [hho] at HH
        have HH : Hid (∀ W, Tab10 W → Calls Tryz.prog 53 #[.string n] W fun e w' => e = .returned (.tuple #[.string (hostB (some H)), .int .i64 0]) ∧ Below W.heap.size W w') := HH
        obtain ⟨hv, hhv⟩ : ∃ hv, hv = hostB (some H) := ⟨_, rfl⟩
        rw [← hhv] at HH
        have HHV : Hid (Value.string hv = strL H) := Lib.hid (by rw [hhv]; rfl)
        have HPV : Hid (Value.int .i64 pv = Value.int .i64 P) := Lib.hid (by rw [hpv])
        clear hRR hpo hho hpv hhv
        go_enter Tryz.func19, Tryz.ntmps19
        go_wp2_with fail
        refine HT2.out.mono ?_
        rintro e w1 ⟨rfl, hv1⟩
        have HV1 := Lib.hid hv1
        clear hv1
        go_wp2_with fail
        refine (HLI.out w1).mono ?_
        rintro e w2 ⟨rfl, rfl⟩
        have HUS := Lib.hid (uuser_any HE.out (below_kg HB.out HV1.out.2 HG.out) HG.out (p.extract 0 k) HAS.out HV1.out.1)
        go_wp2_with fail
        refine HUS.out.mono ?_
        rintro e wB ⟨rfl, hvB⟩
        have HVB := Lib.hid (rest_trans HV1.out hvB)
        clear hvB
        have HBB := Lib.hid (below_kg HB.out HVB.out.2 HG.out)
        go_wp2_with fail
        refine (HC.out wB HBB.out).mono ?_
        rintro e w4 ⟨⟨tt, rfl⟩, hb4⟩
        have HV4 := Lib.hid (rest_below HVB.out hb4)
        have HB4 := Lib.hid (below_kg HB.out HV4.out.2 HG.out)
        clear hb4
        go_wp2_with fail
        refine (HH.out w4 (env_below HE.out HB4.out).2.1).mono ?_
        rintro e w5 ⟨rfl, hb5⟩
        have HV5 := Lib.hid (rest_below HV4.out hb5)
        have c5 := Rw.cell HV5.out.1 (j := 1) rfl
        rw [HSC.out] at c5
        have c54 := Rw.cell HV5.out.1 (j := 4) rfl
        have f54 := Rw.free HV5.out.1 4
        have HV6 := Lib.hid (rest_put HV5.out 3 (.string hv))
        obtain ⟨w6, hw6⟩ : ∃ w6, w6 = w5.setCell ⟨g, 3 + 1, none⟩ (.string hv) := ⟨_, rfl⟩
        rw [← hw6] at HV6
        have hw6' : w5.setCell ⟨g, 4, none⟩ (.string hv) = w6 := hw6.symm
        have c65 := Rw.cell HV6.out.1 (j := 5) rfl
        have f65 := Rw.free HV6.out.1 5
        have HV7 := Lib.hid (rest_put HV6.out 4 (.int .i64 pv))
        clear hb5 hw6
        go_wp2_with fail
        refine (HP.out w5).mono ?_
        rintro e w5b ⟨rfl, rfl⟩
        go_wp2_with fail
        go_ret
        rw [HR.out]
        refine ⟨rfl, ?_⟩
        have h7 := HV7.out
        have e2 : ((urlCells { u with usr := (userP (p.extract 0 k).data.toList).1, pas := (userP (p.extract 0 k).data.toList).2 }).set 3 (Value.string hv)).set 4 (Value.int .i64 pv) = urlCells { u with usr := (userP (p.extract 0 k).data.toList).1, pas := (userP (p.extract 0 k).data.toList).2, hos := H, prt := P } := by rw [HHV.out, HPV.out]; rfl
        rw [e2] at h7
        exact h7

/-! the preparation -/
theorem uclos_any (x : Nat) (W : World) : Calls Tryz.prog 42 #[.int .i32 (x : Int)] W fun e w' => e = .returned (.bool (lowR x)) ∧ w' = W := by
  have HL : Hid (lowR x = decide ((x : Int) ≤ 32)) := Lib.hid (by unfold lowR; by_cases h : x ≤ 32 <;> simp [h] <;> omega)
  go_enter Tryz.func42, Tryz.ntmps42
  go_wp2
  go_ret
  exact ⟨ret_bool HL.out.symm, rfl⟩

theorem ubrk_any (x : Nat) (_hx : x ≤ 1114111) (W : World) : Calls Tryz.prog 44 #[.int .i32 (x : Int)] W fun e w' => e = .returned (.int .i32 (brkF x)) ∧ w' = W := by
  obtain ⟨F, hF⟩ : ∃ F, F = brkF x := ⟨_, rfl⟩
  rw [← hF]
  unfold brkF at hF
  by_cases h1 : (x : Int) = 9
  · have HF : Hid (F = -1) := Lib.hid (by rw [hF, if_pos (.inl h1)])
    have q1 : ((x : Int) == 9) = true := beq_iff_eq.2 h1
    clear hF h1
    go_enter Tryz.func44, Tryz.ntmps44
    go_wp2
    go_ret
    exact ⟨ret_int HF.out.symm, rfl⟩
  have q1 : ((x : Int) == 9) = false := beq_eq_false_iff_ne.2 h1
  by_cases h2 : (x : Int) = 10
  · have HF : Hid (F = -1) := Lib.hid (by rw [hF, if_pos (.inr (.inl h2))])
    have q2 : ((x : Int) == 10) = true := beq_iff_eq.2 h2
    clear hF h1 h2
    go_enter Tryz.func44, Tryz.ntmps44
    go_wp2
    go_ret
    exact ⟨ret_int HF.out.symm, rfl⟩
  have q2 : ((x : Int) == 10) = false := beq_eq_false_iff_ne.2 h2
  by_cases h3 : (x : Int) = 13
  · have HF : Hid (F = -1) := Lib.hid (by rw [hF, if_pos (.inr (.inr h3))])
    have q3 : ((x : Int) == 13) = true := beq_iff_eq.2 h3
    clear hF h1 h2 h3
    go_enter Tryz.func44, Tryz.ntmps44
    go_wp2
    go_ret
    exact ⟨ret_int HF.out.symm, rfl⟩
  have q3 : ((x : Int) == 13) = false := beq_eq_false_iff_ne.2 h3
  have HF : Hid (F = x) := Lib.hid (by rw [hF, if_neg (by rintro (h | h | h); exact h1 h; exact h2 h; exact h3 h)])
  clear hF h1 h2 h3
  go_enter Tryz.func44, Tryz.ntmps44
  go_wp2
  go_ret
  exact ⟨ret_int HF.out.symm, rfl⟩

theorem uprepare_any (s : ByteArray) (hs : s.size ≤ 65536) (hv : Lib.validD s.data.toList = true) (w : World) (hE : Env11 w) :
    Calls Tryz.prog 17 #[.string s] w fun e w' => e = .returned (strL (cleanL s.data.toList)) ∧ Below w.heap.size w w' := by
  have HTF := Lib.hid (Tryz.strings_TrimFunc_runes 42 #[] (enters_of Tryz.func42 (by kernel_rfl) rfl) lowR s w (by omega) hE.1 (fun W x _ _ => (uclos_any x W).mono fun e w' ⟨h1, h2⟩ => ⟨h1, 0, h2⟩))
  obtain ⟨t, ht⟩ : ∃ t, t = Lib.trimF lowR s := ⟨_, rfl⟩
  rw [← ht] at HTF
  have htl : t.data.toList = trimC s.data.toList := by rw [ht]; exact trim_low s
  have hts : t.size ≤ 65536 := by
    rw [← size_data, htl]
    unfold trimC
    rw [List.length_reverse]
    refine Nat.le_trans (List.dropWhile_sublist _).length_le ?_
    rw [List.length_reverse]
    refine Nat.le_trans (List.dropWhile_sublist _).length_le ?_
    rw [size_data]
    exact hs
  have HM := Lib.hid (fun (W : World) (hT : Tabs9 W) => Tryz.strings_Map_grows 44 #[] (enters_of Tryz.func44 (by kernel_rfl) rfl) brkF t W (by omega) (fun W2 x hx _ => (ubrk_any x hx W2).mono fun e w' ⟨h1, h2⟩ => ⟨h1, h2 ▸ Below.refl _ _⟩)
    (fun x hx => by unfold brkF; split <;> omega) hT)
  have HCL := Lib.hid (clean_of s t hv ht)
  have HE := Lib.hid hE
  clear ht htl hv hE
  go_enter Tryz.func17, Tryz.ntmps17
  go_wp2_with fail
  refine HTF.out.mono ?_
  rintro e w1 ⟨rfl, hb1⟩
  have HB1 := Lib.hid hb1
  clear hb1
  go_wp2_with fail
  refine (HM.out w1 (env_below HE.out HB1.out).1).mono ?_
  rintro e w2 ⟨rfl, hb2⟩
  have HB2 := Lib.hid (below_then HB1.out hb2)
  clear hb2
  go_wp2_with fail
  go_ret
  refine ⟨?_, HB2.out⟩
  rw [HCL.out]
  rfl

end Go.Proofs.YtdgmcpdphifmbaaGreatDoor
