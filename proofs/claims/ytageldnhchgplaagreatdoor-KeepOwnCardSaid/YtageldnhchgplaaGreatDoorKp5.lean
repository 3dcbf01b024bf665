/- Contracts: keep: frames of changes. -/
import Derived.BigRegion
import Derived.Deep.RegionHeld3
import Derived.Test.YtageldnhchgplaaGreatDoorProg
import Derived.Test.YtageldnhchgplaaGreatDoorKit
import Derived.Test.YtageldnhchgplaaGreatDoorRow
import Derived.Test.YtageldnhchgplaaGreatDoorCod5
import Derived.Test.YtageldnhchgplaaGreatDoorCod7
import Derived.Test.YtageldnhchgplaaGreatDoorCod9
import Derived.Test.YtageldnhchgplaaGreatDoorFrm0
import Derived.Test.YtageldnhchgplaaGreatDoorFrm3
import Derived.Test.YtageldnhchgplaaGreatDoorFrm4
import Derived.Test.YtageldnhchgplaaGreatDoorFrm5
import Derived.Test.YtageldnhchgplaaGreatDoorFrm10
import Derived.Test.YtageldnhchgplaaGreatDoorFrm12
import Derived.Test.YtageldnhchgplaaGreatDoorFp
import Derived.Test.YtageldnhchgplaaGreatDoorRdk1
import Derived.Test.YtageldnhchgplaaGreatDoorNet0
import Derived.Test.YtageldnhchgplaaGreatDoorKp0
namespace Go.Proofs.YtageldnhchgplaaGreatDoor
open Go.RowKit Go.Proofs

/-- A change in memory: a value of an interface. -/
def ChV (w : World) (u : Value) : ChM → Prop
  | .vote t v => u = .iface 67 (.agg #[.int .i64 t, .int .i64 v])
  | .app l => ∃ lv, u = .iface 49 lv ∧ EntsAt w lv l ∧ l ≠ [] ∧ l.length ≤ 1000000
  | .cut i => u = .iface 51 (.int .i64 i)
  | .snap s => ∃ mv, u = .iface 50 (.agg #[.int .i64 s.ix, .int .i64 s.tm, mv, .string s.d]) ∧ IntsAt w mv s.ms

def ChsAt (w : World) (v : Value) (cs : List ChM) : Prop :=
  ∃ A C, v = .slice A cs.length C ∧ (cs = [] ∨ ∃ b o, A = some ⟨b, o, none⟩ ∧ ∀ (j : Nat) (c : ChM), cs[j]? = some c → ∃ u, w.cell? ⟨b, o + j, none⟩ = some u ∧ ChV w u c)

theorem chV_below {w w' : World} {u : Value} {c : ChM} (h : ChV w u c) (hb : Below w.heap.size w w') : ChV w' u c := by
  cases c with
  | vote t v => exact h
  | cut i => exact h
  | app l =>
    obtain ⟨lv, h1, h2, h3⟩ := h
    exact ⟨lv, h1, entsAt_below h2 hb, h3⟩
  | snap s =>
    obtain ⟨mv, h1, h2⟩ := h
    exact ⟨mv, h1, intsAt_below h2 hb⟩

theorem intsAt_Z {w : World} {v : Value} {l : List Int} (h : IntsAt w v l) : IntsZ w (fun k => k < w.heap.size) v l := by
  refine ⟨h.1, ?_⟩
  rcases h.2 with k | ⟨ad, c, hv, k⟩
  · exact .inl k
  · refine .inr ⟨ad, c, hv, ?_⟩
    rcases k with k | ⟨b, o, ha, k⟩
    · exact .inl k
    · by_cases hl : l = []
      · exact .inl hl
      · obtain ⟨x, hx⟩ : ∃ x, l[0]? = some x := ⟨_, List.getElem?_eq_getElem (List.length_pos_iff.2 hl)⟩
        exact .inr ⟨b, o, ha, block_of_cell (k 0 x hx), k⟩

theorem entsAt_Z {w : World} {v : Value} {es : List EntM} (h : EntsAt w v es) : EntsZ w (fun k => k < w.heap.size) v es := by
  obtain ⟨A, C, rfl, h⟩ := h
  refine ⟨A, C, rfl, ?_⟩
  rcases h with h | ⟨b, o, ha, h⟩
  · exact .inl h
  · by_cases hl : es = []
    · exact .inl hl
    · obtain ⟨e, he⟩ : ∃ e, es[0]? = some e := ⟨_, List.getElem?_eq_getElem (List.length_pos_iff.2 hl)⟩
      obtain ⟨u0, h0, _⟩ := h 0 e he
      refine .inr ⟨b, o, ha, block_of_cell (h0 0 _ rfl), fun j e hj => ?_⟩
      obtain ⟨u, h1, h2⟩ := h j e hj
      exact ⟨u, h1, intsAt_Z h2⟩

def chFrS (cs : List ChM) : List (List UInt8) := cs.map (fun c => frameS (writeS c))

theorem inv_vote_write (t q : Int) : ∀ w, (method 299 67 (.agg #[.int .i64 t, .int .i64 q]) "parapet/keep.write").run Tryz.prog w = .ok (142, .agg #[.int .i64 t, .int .i64 q]) w := fun _ => by kernel_rfl

theorem inv_cut_write (i : Int) : ∀ w, (method 299 51 (.int .i64 i) "parapet/keep.write").run Tryz.prog w = .ok (138, .int .i64 i) w := fun _ => by kernel_rfl

theorem inv_app_write (a : Option Addr) (n c : Nat) : ∀ w, (method 299 49 (.slice a n c) "parapet/keep.write").run Tryz.prog w = .ok (121, .slice a n c) w := fun _ => by kernel_rfl

theorem inv_snap_write (i t : Int) (m : Value) (d : ByteArray) : ∀ w, (method 299 50 (.agg #[.int .i64 i, .int .i64 t, m, .string d]) "parapet/keep.write").run Tryz.prog w = .ok (133, .agg #[.int .i64 i, .int .i64 t, m, .string d]) w := fun _ => by kernel_rfl

theorem Tryz.elemByte : (Tryz.prog.info? (Tryz.prog.elem 29)).map (·.size) = some 1 := by kernel_rfl

theorem bsl_h (W : World) (b n c h : Nat) (h1 : h ≤ c) :
    (Instr.slice 29 (.slice (some ⟨b, 0, none⟩) n c) none (some (.int .i64 (h : Int))) none).run Tryz.prog W = .ok (.slice (some ⟨b, 0, none⟩) h c) W := by
  rw [run_slice_h W 29 (some ⟨b, 0, none⟩) n c (by kernel_rfl) .i64 h (by omega) (by omega), run_size1 Tryz.elemByte]
  simp [Result.andThen, sliced, Addr.add_mid]

theorem bsl_l (W : World) (b n c l : Nat) (h1 : l ≤ n) :
    (Instr.slice 29 (.slice (some ⟨b, 0, none⟩) n c) (some (.int .i64 (l : Int))) none none).run Tryz.prog W = .ok (.slice (if c = l then some ⟨b, 0, none⟩ else some ⟨b, l, none⟩) (n - l) (c - l)) W := by
  rw [run_slice_l W 29 (some ⟨b, 0, none⟩) n c (by kernel_rfl) .i64 l (by omega) (by omega), run_size1 Tryz.elemByte]
  simp [Result.andThen, sliced, Addr.add_mid]

theorem writeS_pos (c : ChM) : 0 < (writeS c).length := by
  have h1 : ∀ (x : Int) (l : List Int), 0 < (numsS (x :: l)).length := fun x l => by
    unfold numsS
    rw [List.map_cons, List.flatten_cons, List.length_append]
    have : 0 < (vnumS x).length := varN_pos _
    omega
  cases c with
  | vote t v => exact h1 _ _
  | cut i => exact h1 _ _
  | app l =>
    have := h1 2 [headIx l, (l.length : Int)]
    simp only [writeS, List.length_append]
    omega
  | snap s =>
    have := h1 4 [s.ix, s.tm]
    simp only [writeS, List.length_append]
    omega

theorem wr_new (w : World) : WrAt (w.alloc (.cells #[.slice none 0 0] 116)) w.heap.size (.slice none 0 0) [] := ⟨Rw.alloc w _ _ (Nat.zero_le _), World.ownsRow_nil _ _ _ _⟩

theorem or4c {a b c d p : Prop} (h : a ∨ b ∨ c ∨ d) (ha : a → p) (hb : b → p) (hc : c → p) (hd : d → p) : p := by
  rcases h with h | h | h | h
  · exact ha h
  · exact hb h
  · exact hc h
  · exact hd h

/-- What a change has written into a writer of its own. -/
def WroteV (w w2 : World) (c : ChM) : Prop := ∃ (b vc : Nat), w2.cell? ⟨w.heap.size, 0, none⟩ = some (.slice (some ⟨b, 0, none⟩) (writeS c).length vc) ∧ w2.frozen? ⟨w.heap.size, 0, none⟩ = false ∧ (writeS c).length ≤ vc ∧
  w2.ownsRow 0 5 1 (.slice (some ⟨b, 0, none⟩) (writeS c).length vc) (writeS c).length ((writeS c).map byteV) ∧ b < w2.heap.size ∧ Rw w2 0 w.heap.size 116 [.slice (some ⟨b, 0, none⟩) (writeS c).length vc] ∧ Below w.heap.size w w2

theorem wroteV_of {w w2 : World} {c : ChM} (h : WrV (w.alloc (.cells #[.slice none 0 0] 116)) w2 w.heap.size (.slice none 0 0) ([] ++ writeS c)) : WroteV w w2 c := by
  rw [List.nil_append] at h
  obtain ⟨v', ⟨h1, h2⟩, h3, h4⟩ := h
  rcases h2.2 with ⟨_, hn⟩ | ⟨g, cap, cur, rfl, _, hh, hc, _⟩
  · have := writeS_pos c
    omega
  · refine ⟨g, cap, Rw.cell h1 rfl, Rw.free h1 0, hc, h2, own_lt h2 rfl, h1, ?_⟩
    refine below_kept (kept_then (F := fun _ => False) (kept_below (below_more (Below.refl _ _) _)) h4 (fun k hk => .inr ?_))
    rcases hk with rfl | hk
    · exact Nat.le_refl _
    · simp [Value.ownBlock] at hk

/-- rows = append(rows, row): what has grown. -/
theorem wpList_append_rows2 {W w : World} {ops : Array Oper} {rest : List Oper} {o : Oper} {a : Act} {Q : Exit → Act → World → Prop} (hgd : o.guard = none) (s y : Operand)
    (ho : o.op = .call { callee := .builtin .append, args := #[s, y], argTypes := #[89, 89] })
    (base : Nat) (u : Value) (l : List UInt8) (hW : W = w.alloc (.cells #[u] 29))
    (v : Value) (ls : List (List UInt8)) (hs : a.eval s = v) (hr : RowsOf w base v ls) (hu : w.ownsRow base 5 1 u l.length (l.map byteV))
    (g : Nat) (hx : a.eval y = .slice (some ⟨g, 0, none⟩) 1 1) (hg0 : g = w.heap.size) (hn : ls.length < 1099511627776) (hbase : base ≤ w.heap.size)
    (h : ∀ v' w', RowsOf w' base v' (ls ++ [l]) → Below base w w' → W.grownBy w' v.ownBlock → wpList Tryz.prog ops Q rest (a.put o.dst v') w') : wpList Tryz.prog ops Q (o :: rest) a W := by
  obtain ⟨i0, hi, hz0, hz1, hz2⟩ := info_parts Tryz.infoSl
  subst hW hg0
  obtain ⟨xs, hown, hrows⟩ := hr
  obtain ⟨ua, uc, rfl⟩ := own_len hu
  refine wpList_append_own _ hgd s y 89 ho base 29 i0 (.slice none 0 0) 1 24 Tryz.underlying89 hi hz0 hz1 hz2 rfl (by decide) v ls.length xs hs (hown.alloc _) ⟨w.heap.size, 0, none⟩ 1 1 [.slice ua l.length uc] hx rfl (cell_one_new _ _ _) ?_ ?_ ?_ ?_ ?_
  · intro x hx2
    simp at hx2
    rw [hx2]; rfl
  · unfold maxLen; omega
  · omega
  · simp; omega
  · intro v' w' hown' hg _
    have hbw : Below base w w' := ((Below.refl base w).alloc hbase _).trans (below_own (hown.alloc _) hg (by simp; omega))
    refine h v' w' ⟨xs ++ [.slice ua l.length uc], by rw [List.length_append]; exact hown', fun j m hj => ?_⟩ hbw hg
    have hlx : xs.length = ls.length := by have := hown.1; omega
    rcases Nat.lt_or_ge j ls.length with hlt | hge
    · rw [List.getElem?_append_left hlt] at hj
      obtain ⟨q, hq, hqo⟩ := hrows j m hj
      refine ⟨q, by rw [List.getElem?_append_left (by omega)]; exact hq, ?_⟩
      exact (hqo.alloc _).kept hg (own_apart (by decide) (hqo.alloc (.cells #[.slice ua l.length uc] 29)) (hown.alloc (.cells #[.slice ua l.length uc] 29)))
    · rw [List.getElem?_append_right hge] at hj
      have hj0 : j - ls.length = 0 := by
        rcases Nat.eq_zero_or_pos (j - ls.length) with h0 | h0
        · exact h0
        · rw [List.getElem?_eq_none (by simp; omega)] at hj; cases hj
      rw [hj0] at hj
      cases hj
      refine ⟨_, by rw [List.getElem?_append_right (by omega), hlx, hj0]; rfl, ?_⟩
      exact (hu.alloc _).kept hg (own_apart (by decide) (hu.alloc (.cells #[.slice ua l.length uc] 29)) (hown.alloc (.cells #[.slice ua l.length uc] 29)))

theorem rowsOf_store {w : World} {base b g : Nat} {v : Value} {ls : List (List UInt8)} {cs : List Value} {T : TypeId} (h : RowsOf w base v ls) (hr : Rw w b g T cs) (h1 : T ≠ 29) (h2 : T ≠ 5) (j : Nat) (u : Value) : RowsOf (w.setCell ⟨g, j, none⟩ u) base v ls := by
  obtain ⟨xs, ho, hx⟩ := h
  refine ⟨xs, own_store ho hr (fun e => h1 e.symm) j u, fun k l hk => ?_⟩
  obtain ⟨y, hy, hyo⟩ := hx k l hk
  exact ⟨y, hy, own_store hyo hr (fun e => h2 e.symm) j u⟩

theorem rowsOf_len {w : World} {base : Nat} {v : Value} {ls : List (List UInt8)} (h : RowsOf w base v ls) : ∃ a c, v = .slice a ls.length c := by
  obtain ⟨xs, ho, _⟩ := h
  exact own_len ho

theorem rows_off {w : World} {base b g : Nat} {v : Value} {ls : List (List UInt8)} {cs : List Value} (h : RowsOf w base v ls) (hr : Rw w b g 116 cs) : v.ownBlock ≠ some g := by
  obtain ⟨xs, ho, _⟩ := h
  exact own_rw ho hr (by decide)

theorem put_one {bs : List UInt8} {base : Nat} {w' : World} {e : Ending} (h : putV [bs] base w' e) (hb : bs.length < 131072) : ∃ g M C, e = .returned (.tuple #[.slice (some ⟨g, 0, none⟩) M C, .bool true]) ∧ w'.ownsRow base 5 1 (.slice (some ⟨g, 0, none⟩) M C) (frameS bs).length ((frameS bs).map byteV) ∧ M = (frameS bs).length := by
  have hf : [bs].flatten = bs := by simp
  rcases h with ⟨_, g, C, h1, h2⟩ | ⟨h1, _⟩
  · rw [hf] at h1 h2
    have hl : (frameS bs).length = bs.length + 8 := by have := h2.1; simpa using this
    rw [← hl] at h1 h2
    exact ⟨g, _, C, h1, h2, rfl⟩
  · rw [hf] at h1
    omega

def WroteW (w w2 : World) (bs : List UInt8) : Prop := ∃ (b vc : Nat), w2.cell? ⟨w.heap.size, 0, none⟩ = some (.slice (some ⟨b, 0, none⟩) bs.length vc) ∧ w2.frozen? ⟨w.heap.size, 0, none⟩ = false ∧ bs.length ≤ vc ∧
  w2.ownsRow 0 5 1 (.slice (some ⟨b, 0, none⟩) bs.length vc) bs.length (bs.map byteV) ∧ b < w2.heap.size ∧ Rw w2 0 w.heap.size 116 [.slice (some ⟨b, 0, none⟩) bs.length vc] ∧ Below w.heap.size w w2

theorem wroteV_bs {w w2 : World} {c : ChM} {X Y : List (List UInt8)} (h : WroteV w w2 c) (hsc : szCh c < 131072) (htk : X = Y ++ [frameS (writeS c)]) : ∃ bs, WroteW w w2 bs ∧ bs.length < 131072 ∧ X = Y ++ [frameS bs] :=
  ⟨writeS c, h, Nat.lt_of_le_of_lt (writeS_len c) hsc, htk⟩

set_option maxRecDepth 100000 in
set_option maxHeartbeats 4000000 in
theorem kframes_any {w : World} {lv : Value} {cs : List ChM} (h : ChsAt w lv cs) (ht : NibAt w) (hsz : ∀ c ∈ cs, szCh c < 131072) (hn : cs.length ≤ 1000000) :
    Calls Tryz.prog 31 #[lv] w fun e w' => ∃ v, e = .returned v ∧ RowsOf w' w.heap.size v (chFrS cs) ∧ Below w.heap.size w w' := by
  obtain ⟨A, C, rfl, hin⟩ := h
  obtain ⟨n, hnn⟩ : ∃ n, n = cs.length := ⟨_, rfl⟩
  rw [← hnn] at hn ⊢
  have HIN := Lib.hid hin
  have HN := Lib.hid hnn
  have HNB := Lib.hid hn
  have HSZ := Lib.hid hsz
  have HNT := Lib.hid ht
  clear hin hnn hn hsz ht
  go_enter Tryz.func31, Tryz.ntmps31
  go_wp2_with fail
  go_loopw [3, 13] (fun fv iv wr => ∃ (i : Nat) (fa : Option Addr) (fc : Nat), i ≤ n ∧ iv = .int .i64 i ∧ fv = .slice fa i fc ∧ Hid (RowsOf wr w.heap.size (.slice fa i fc) (chFrS (cs.take i))) ∧ Hid (Below w.heap.size w wr)) (fun _ iv _ => n - (intOf iv).toNat)
  case atStart => exact ⟨0, none, 0, Nat.zero_le _, rfl, rfl, Lib.hid (rowsOf_nil _ _), Lib.hid (Below.refl _ _)⟩
  case round =>
    obtain ⟨i, fa, fc, hi', rfl, rfl, HR, HB⟩ := hrel
    obtain ⟨w1, hw1⟩ : ∃ w1 : World, w1 = wr := ⟨_, rfl⟩
    subst hw1
    by_cases hlt : i < n
    · obtain ⟨c, hc⟩ : ∃ c, cs[i]? = some c := ⟨_, List.getElem?_eq_getElem (by rw [← HN.out]; exact hlt)⟩
      obtain ⟨b, o, rfl, hcell⟩ := HIN.out.resolve_left (fun e => by rw [e] at hc; simp at hc)
      obtain ⟨u, hu, hch⟩ := hcell i c hc
      have d0 : w1.cell? ⟨b, o + i, none⟩ = some u := by rw [HB.out.cell (block_of_cell hu)]; exact hu
      have hch1 := chV_below hch HB.out
      have hsc := HSZ.out c (List.mem_of_getElem? hc)
      have hy : (i : Int) < (n : Int) := by omega
      have hi1 : (i : Int) < 1000000 := by have := HNB.out; omega
      have HI := Lib.hid hlt
      have HTK := Lib.hid (show chFrS (cs.take (i + 1)) = chFrS (cs.take i) ++ [frameS (writeS c)] by unfold chFrS; rw [take_succ_of hc, List.map_append]; rfl)
      have HSC := Lib.hid hsc
      have hcase : (∃ t q, c = .vote t q) ∨ (∃ l, c = .app l) ∨ (∃ j, c = .cut j) ∨ ∃ s, c = .snap s := by
        cases c with
        | vote t q => exact .inl ⟨t, q, rfl⟩
        | app l => exact .inr (.inl ⟨l, rfl⟩)
        | cut j => exact .inr (.inr (.inl ⟨j, rfl⟩))
        | snap s => exact .inr (.inr (.inr ⟨s, rfl⟩))
      clear hcell hu hch hc hlt hi' hsc
      refine or4c hcase ?K1 ?K2 ?K3 ?K4
      case' K1 =>
        rintro ⟨t, q, rfl⟩
        cases hch1
        have hm := inv_vote_write t q
        clear hcase
        go_wp2_with fail
        refine (wvote_any (wr_new w1) t q (by simp)).mono ?_
        rintro e w2 ⟨rfl, hv2⟩
        have HWR := Lib.hid (wroteV_of hv2)
        clear hv2 hm d0
      case' K2 =>
        rintro ⟨l, rfl⟩
        obtain ⟨lv, rfl, hl1, hl2, hl3⟩ := hch1
        have hbW := below_more (Below.refl _ w1) (.cells #[.slice none 0 0] 116)
        have hl4 := entsZ_keep (entsAt_Z hl1) (fun k hlt _ => hbW.block k hlt)
        obtain ⟨la, lc, rfl, _⟩ := hl1
        have hm := inv_app_write la l.length lc
        have HW := Lib.hid (wapp_any (wr_new w1) (Z := fun k => k < w1.heap.size) (lv := .slice la l.length lc) (es := l) hl4 (fun k hlt hz hf => by rcases hf with rfl | hf; (exact absurd hz (Nat.lt_irrefl _)); (simp [Value.ownBlock] at hf)) hl2 (by have h9 : 30 + szEs l < 131072 := HSC.out; simp; omega) hl3)
        clear hcase hl2 hl3 hl4 hbW
        go_wp2_with fail
        refine (HW.out).mono ?_
        rintro e w2 ⟨rfl, hv2⟩
        have HWR := Lib.hid (wroteV_of hv2)
        clear hv2 hm d0
      case' K3 =>
        rintro ⟨j, rfl⟩
        cases hch1
        have hm := inv_cut_write j
        clear hcase
        go_wp2_with fail
        refine (wcut_any (wr_new w1) j (by simp)).mono ?_
        rintro e w2 ⟨rfl, hv2⟩
        have HWR := Lib.hid (wroteV_of hv2)
        clear hv2 hm d0
      case' K4 =>
        rintro ⟨s, rfl⟩
        obtain ⟨mv, rfl, hl1⟩ := hch1
        have hbW := below_more (Below.refl _ w1) (.cells #[.slice none 0 0] 116)
        have hl4 := intsAt_Z hl1
        have hm := inv_snap_write s.ix s.tm mv s.d
        have HW := Lib.hid (wsnap_any (wr_new w1) s (mv := mv) (fun w' hk => intsZ_at (intsZ_keep hl4 (fun k hlt _ => by
          rw [hk.blk k (Nat.lt_of_lt_of_le hlt hbW.size) (fun hf => by rcases hf with rfl | hf; (exact absurd hlt (Nat.lt_irrefl _)); (simp [Value.ownBlock] at hf))]
          exact hbW.block k hlt))) (by have h9 : 50 + 10 * s.ms.length + s.d.size < 131072 := HSC.out; simp; omega))
        clear hcase hl1 hl4 hbW
        go_wp2_with fail
        refine (HW.out).mono ?_
        rintro e w2 ⟨rfl, hv2⟩
        have HWR := Lib.hid (wroteV_of hv2)
        clear hv2 hm d0
      all_goals
        obtain ⟨bs, hwr, hbl, htk⟩ := wroteV_bs HWR.out HSC.out HTK.out
        obtain ⟨wb, vc, hcw, hfw, hvc, how, hbl2, hrw, hbw2⟩ := hwr
        obtain ⟨L, hL⟩ : ∃ L, L = bs.length := ⟨_, rfl⟩
        rw [← hL] at hcw hvc how hrw hbl
        have HL := Lib.hid hL
        have HLB := Lib.hid hbl
        have HVC := Lib.hid hvc
        have HOW := Lib.hid how
        have HRW := Lib.hid hrw
        have HTB := Lib.hid htk
        have HB2 := Lib.hid hbw2
        obtain ⟨gw, hgw⟩ : ∃ gw, gw = w1.heap.size := ⟨_, rfl⟩
        rw [← hgw] at hcw hfw HRW
        have HGW := Lib.hid hgw
        have hs1 := fun W => bsl_h W wb L vc L hvc
        have hs2 := fun W => bsl_l W wb L vc L (Nat.le_refl _)
        rw [Nat.sub_self] at hs2
        obtain ⟨ad, had⟩ : ∃ ad : Option Addr, ad = (if vc = L then some ⟨wb, 0, none⟩ else some ⟨wb, L, none⟩) := ⟨_, rfl⟩
        rw [← had] at hs2
        clear hL hbl hvc how hrw htk hbw2 hbl2 had HWR
        go_wp2_with fail
        rw [← HGW.out]
        clear hgw
        have HR2 := Lib.hid (rowsOf_keep HR.out HB2.out)
        have HB02 := Lib.hid (below_then HB.out HB2.out)
        go_loopw [3, 7] (fun fv lv wr => (lv = .bool true ∧ fv = .slice fa i fc ∧ Hid (wr = w2)) ∨ (lv = .bool false ∧ ∃ (ga : Option Addr) (gc : Nat), fv = .slice ga (i + 1) gc ∧ Hid (RowsOf wr w.heap.size (.slice ga (i + 1) gc) (chFrS (cs.take (i + 1)))) ∧ Hid (Below w.heap.size w wr))) (fun _ lv _ => match lv with | .bool true => 1 | _ => 0)
        case atStart => exact .inl ⟨rfl, rfl, Lib.hid rfl⟩
        case round =>
          rcases hrel with ⟨rfl, rfl, HW2⟩ | ⟨rfl, ga, gc, rfl, HR3, HB3⟩
          · cases HW2.out
            have hLi : (L : Int) < 131072 := by have := HLB.out; omega
            have hLe : ((L : Int) == 131072) = false := by rw [beq_eq_false_iff_ne]; omega
            have hbP := below_more (Below.refl _ w2) (.cells #[.slice (some ⟨wb, 0, none⟩) L vc] 29)
            have HPUT := Lib.hid (put_any [bs] (.slice (some ⟨w2.heap.size, 0, none⟩) 1 1) (w2.alloc (.cells #[.slice (some ⟨wb, 0, none⟩) L vc] 29)) (partsB_one w2 _ _ _ bs _ (own_sl HOW.out) rfl) (nib_stay HNT.out (below_then HB02.out hbP)) (by have := HLB.out; have := HL.out; simp; omega) (by simp))
            have HBP := Lib.hid hbP
            clear hbP
            go_wp2_with fail
            refine (HPUT.out).mono ?_
            rintro e w3 ⟨hput, hb3⟩
            obtain ⟨g4, M, C4, rfl, hu3, hM⟩ := put_one hput (by have := HLB.out; have := HL.out; omega)
            have hb23 := below_then HBP.out hb3
            have HU3 := Lib.hid (own_mono hu3 (Nat.le_trans HB02.out.size HBP.out.size))
            have HR3 := Lib.hid (rowsOf_keep HR2.out hb23)
            have HRW3 := Lib.hid (Rw.below HRW.out hb23)
            have HB03 := Lib.hid (below_then HB02.out hb23)
            have HLN : Hid ((chFrS (cs.take i) ++ [frameS bs]).length = i + 1) := Lib.hid (by unfold chFrS; rw [List.length_append, List.length_map, List.length_take, ← HN.out]; have := HI.out; simp; omega)
            have HDN : Hid ((chFrS (cs.take i)).length < 1099511627776) := Lib.hid (by unfold chFrS; rw [List.length_map, List.length_take]; have := HNB.out; have := HI.out; omega)
            clear hput hb3 hu3 hb23 hcw hfw hM
            go_wp2_with (first
              | (refine wpList_append_rows2 rfl (.tmp 35) (.tmp 37) rfl w.heap.size (.slice (some ⟨g4, 0, none⟩) M C4) (frameS bs) rfl (.slice fa i fc) (chFrS (cs.take i)) rfl HR3.out HU3.out w3.heap.size rfl rfl HDN.out HB03.out.size ?_; intro v4 w4 hr4 hb4 hg4; obtain ⟨ga, gc, hv4⟩ := rowsOf_len hr4; rw [HLN.out] at hv4; subst hv4; have hrw4 := rw_kept (Rw.more HRW3.out (.cells #[.slice (some ⟨g4, 0, none⟩) M C4] 29)) (kept_grown (kept_refl _ _) hg4 (fun k hk => .inl hk)) (rows_off HR3.out HRW3.out); have hcw4 := Rw.cell hrw4 (j := 0) rfl; have hfw4 := Rw.free hrw4 0; have HRW4 := Lib.hid hrw4; have HR4 := Lib.hid hr4; have HB4 := Lib.hid (HB03.out.trans hb4); clear hrw4 hr4 hb4 hg4)
              | fail)
            go_roundw
            case rel => exact .inr ⟨rfl, ga, gc, rfl, Lib.hid (by rw [HTB.out]; exact rowsOf_store HR4.out HRW4.out (by decide) (by decide) 0 _), Lib.hid (HB4.out.setCell (p := ⟨gw, 0, none⟩) (by rw [HGW.out]; exact HB.out.size) _)⟩
            case measure => simp
          · go_wp2_with fail
            go_roundw
            case rel => exact ⟨i + 1, ga, gc, HI.out, by go_num, rfl, HR3, HB3⟩
            case measure => have := HI.out; simp [intOf]; omega
    · have hin2 : i = n := by omega
      have hyk : ¬ (i : Int) < (n : Int) := by omega
      have htk : cs.take i = cs := List.take_of_length_le (by rw [← HN.out]; omega)
      have HR2 := Lib.hid (show RowsOf w1 w.heap.size (.slice fa i fc) (chFrS cs) by have := HR.out; rw [htk] at this; exact this)
      clear hlt htk hi' hin2
      go_wp2_with fail
      go_ret
      exact ⟨_, rfl, HR2.out, HB.out⟩

end Go.Proofs.YtageldnhchgplaaGreatDoor
