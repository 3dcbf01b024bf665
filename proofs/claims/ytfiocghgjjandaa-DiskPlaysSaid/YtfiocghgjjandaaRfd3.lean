/- Contracts: the reference disk's put. -/
import Derived.BigRegion
import Derived.BigQuiet
import Derived.Deep.RegionHeld3
import Derived.Deep.RegionLaw
import Derived.Maps.AppendAt
import Derived.Sort.Walk0
import Derived.Test.YtfiocghgjjandaaProg
import Derived.Test.YtfiocghgjjandaaKit
import Derived.Test.YtfiocghgjjandaaRow
import Derived.Test.YtfiocghgjjandaaSha
import Derived.Test.YtfiocghgjjandaaRow2
import Derived.Test.YtfiocghgjjandaaCod7
import Derived.Test.YtfiocghgjjandaaFrm4
import Derived.Test.YtfiocghgjjandaaFp
import Derived.Test.YtfiocghgjjandaaRdk0
import Derived.Test.YtfiocghgjjandaaDsk17
import Derived.Test.YtfiocghgjjandaaNet0
import Derived.Test.YtfiocghgjjandaaRfd0
namespace Go.Proofs.Ytfiocghgjjandaa
open Go.RowKit Go.Proofs

/-- An append onto an own row of wide cells, as one step of a region that draws, with where it lies. -/
theorem step_append_at {P : Program} {ops : Array Oper} {o : Oper} {a : Act} {w : World} {K : Act → World → Prop} {Q : Exit → Act → World → Prop} {E : Prop} (hgd : o.guard = none) (s x : Operand) (t : TypeId)
    (ho : o.op = .call { callee := .builtin .append, args := #[s, x], argTypes := #[t, t] })
    (base : Nat) (e : TypeId) (i : TypeInfo) (z : Value) (size bytes : Nat) (ht : P.underlying t = some (.slice e)) (hi : P.info? e = some i) (hz : i.zero = some z)
    (hsize : i.size = size) (hby : i.bytes = bytes) (hzs : z.cells.size = size) (hsz : 0 < size)
    (v : Value) (n : Nat) (xs : List Value) (hs : a.eval s = v) (hown : w.ownsRow base e size v n xs)
    (ad : Addr) (m c : Nat) (news : List Value) (hx : a.eval x = .slice (some ad) m c) (hl : news.length = m * size) (hnews : ∀ j u, news[j]? = some u → w.cell? (ad.add j) = some u) (h1 : ∀ u ∈ news, u.oneCell' = true)
    (h63 : n + m ≤ maxLen) (hbytes : (n + m) * bytes ≤ 140737488355328) (hbase : base ≤ w.heap.size)
    (h : ∀ v' w', Hid (w'.ownsRow base e size v' (n + m) (xs ++ news)) → Hid (w.grownBy w' v.ownBlock) → Hid (v'.ownBlock = v.ownBlock ∨ v'.ownBlock = some w.heap.size) → K (a.put o.dst v') w') :
    if Region.wanted o (yielded ops a.tmps) = true then Oper.wp P o a w K Q else E := by
  have hw : Region.wanted o (yielded ops a.tmps) = true := by simp [Region.wanted, hgd]
  rw [if_pos hw]
  obtain ⟨v', w', hr, h2, h3, h4, h5⟩ := run_append_own_at (P := P) w base t o.type e i z size bytes ht hi hz hsize hby hzs hsz v n xs hown ad m c news hl hnews h1 h63 hbytes hbase
  unfold Oper.wp execOp
  simp only [ho, resolve, invoke, builtin, Sem.run_bind, Sem.run_pure, Result.andThen_ok, List.map_toArray, List.map_cons, List.map_nil, hs, hx, hr]
  exact h v' w' (Lib.hid h2) (Lib.hid h3) (Lib.hid h5)

/-- A row of files written at i. -/
theorem own_set3 {w : World} {gl n c : Nat} {ps : List RecF} (ho : w.ownsRow 0 84 3 (.slice (some ⟨gl, 0, none⟩) n c) n (rowsF ps)) (hn : n = ps.length) {i : Nat} (hi : i < ps.length) (r : RecF) :
    (w.setCells gl (i * 3) (cellsF r)).ownsRow 0 84 3 (.slice (some ⟨gl, 0, none⟩) n c) n (rowsF (ps.set i r)) := by
  subst hn
  rcases ho.2 with ⟨e, _⟩ | ⟨g, cap, cur, e, _, hh, hc, hm, hs, ht⟩
  · cases e
  · injection e with e1 e2 e3
    injection e1 with e1
    injection e1 with e1
    subst e1 e3
    have hR : Rw w 0 gl 84 cur.toList := ⟨Nat.zero_le _, by rw [Array.toArray_toList]; exact hh⟩
    have hcl : cur.toList.length = c * 3 := by rw [Array.length_toList, hs]
    have ec : cur.toList = rowsF (ps.take i) ++ ((cur.toList.drop (i * 3)).take 3 ++ cur.toList.drop (i * 3 + 3)) := by
      conv => lhs; rw [← List.take_append_drop (i * 3) cur.toList, ← List.take_append_drop 3 (cur.toList.drop (i * 3)), List.drop_drop]
      congr 1
      rw [rowsF_take, ← ht, List.take_take]
      congr 1
      omega
    rw [ec] at hR
    have hR2 := Rw.storedMid hR (i * 3) (cellsF r) (by rw [rowsF_len3, List.length_take]; omega) (by rw [List.length_take, List.length_drop, hcl]; show min 3 _ = 3; omega)
    refine ⟨by rw [rowsF_len3, List.length_set], .inr ⟨gl, c, (rowsF (ps.take i) ++ (cellsF r ++ cur.toList.drop (i * 3 + 3))).toArray, rfl, Nat.zero_le _, hR2.2, hc, hm, ?_, ?_⟩⟩
    · simp only [List.size_toArray, List.length_append, List.length_drop, hcl, rowsF_len3, List.length_take]
      show _ + (3 + _) = _
      omega
    · rw [List.set_eq_take_append_cons_drop, if_pos hi, rowsF_app, show rowsF (r :: ps.drop (i + 1)) = cellsF r ++ rowsF (ps.drop (i + 1)) by unfold rowsF; simp]
      simp only
      rw [List.take_append, List.take_append, List.take_of_length_le (by rw [rowsF_len3, List.length_take]; omega)]
      congr 1
      rw [List.take_of_length_le (l := cellsF r) (by rw [rowsF_len3, List.length_take]; show 3 ≤ _; omega)]
      congr 1
      rw [rowsF_drop, ← ht, rowsF_len3, List.length_take, List.drop_take, show (i + 1) * 3 = i * 3 + 3 by omega]
      congr 1
      show _ - 3 = _
      omega

theorem refR_set {w : World} {Y : Nat → Prop} {h : Nat} {D D' : DiskM} {gl n c : Nat} {ps : List RecF} {X : Nat → Prop} (H : RefR w Y h D (.slice (some ⟨gl, 0, none⟩) n c) ps X) (hn : n = ps.length) {i : Nat} (hi : i < ps.length) (r : RecF) (hr : ByteZ w X r.u r.f.b)
    (h0 : D'.room = D.room) (h1 : D'.n = D.n) (h2 : D'.last = D.last) (hf : (ps.set i r).map (·.f) = D'.fs) :
    RefR (w.setCells gl (i * 3) (cellsF r)) Y h D' (.slice (some ⟨gl, 0, none⟩) n c) (ps.set i r) X := by
  have hne : h ≠ gl := fun e => refR_lh H (by rw [e]; rfl)
  have hX : ∀ k, X k → (w.setCells gl (i * 3) (cellsF r)).heap[k]? = w.heap[k]? := fun k hk => setCells_heap _ _ _ _ _ (fun e => (H.xy k hk).2.2.1 (by rw [e]; rfl))
  refine ⟨hf, H.yh, ?_, ?_, H.yl, fun k hk => ⟨(H.xy k hk).1, (H.xy k hk).2.1, (H.xy k hk).2.2.1, Nat.lt_of_lt_of_le (H.xy k hk).2.2.2 (kept_puts (F := fun _ => True) (.inl trivial) (cellsF r) (i * 3) (kept_refl _ w)).size⟩, ?_⟩
  · rw [h0, h1, h2]; exact Rw.otherAll H.rwd (fun e => hne e.symm) _ _
  · have ho := H.own
    rw [← hn] at ho
    rw [List.length_set, ← hn]
    exact own_set3 ho hn hi r
  · intro q hq
    rcases List.mem_or_eq_of_mem_set hq with hq | rfl
    · exact byteZ_keep (H.bys q hq) (fun k _ hk => hX k hk) (fun _ h => h)
    · exact byteZ_keep hr (fun k _ hk => hX k hk) (fun _ h => h)

def putI (rs : List RecF) (x : RecF) (i : Nat) : List RecF := rs.take i ++ x :: rs.drop i

def putD (D : DiskM) (rs : List RecF) (x : RecF) (i : Nat) : DiskM := { D with fs := (putI rs x i).map (·.f) }

/-- Behind the append. -/
theorem put_start {w w3 : World} {Y : Nat → Prop} {h : Nat} {D : DiskM} {L L' : Value} {rs : List RecF} {x : RecF} {X : Nat → Prop} (H : RefR w Y h D L rs X) (hx : ByteZ w X x.u x.f.b)
    (hk : Kept (fun k => L.ownBlock = some k) w w3) (ho : w3.ownsRow 0 84 3 L' (rs.length + 1) (rowsF rs ++ cellsF x)) (hl : ∀ k, L'.ownBlock = some k → L.ownBlock = some k ∨ (w.heap.size ≤ k ∧ k < w3.heap.size)) :
    RefR (w3.setCell ⟨h, 1, none⟩ L') (fun k => Y k ∨ (w.heap.size ≤ k ∧ k < (w3.setCell ⟨h, 1, none⟩ L').heap.size)) h (putD D rs x rs.length) L' (putI rs x rs.length) X ∧
      Kept Y w (w3.setCell ⟨h, 1, none⟩ L') := by
  have hlt := refR_lt H
  have hsz : (w3.setCell ⟨h, 1, none⟩ L').heap.size = w3.heap.size := by simp [World.setCell]
  have e : putI rs x rs.length = rs ++ [x] := by unfold putI; rw [List.take_length, List.drop_length]
  have hR3 : Rw w3 0 h 50 [.int .i64 D.room, L, .int .i64 D.n, .int .i64 D.last] := rw_kept H.rwd hk (refR_lh H)
  have hR := Rw.stored hR3 1 L'
  have hLh : L'.ownBlock ≠ some h := own_rw ho hR3 (by decide)
  have hbl : ∀ k, X k → (w3.setCell ⟨h, 1, none⟩ L').heap[k]? = w.heap[k]? := fun k hk2 => by
    rw [heap_put w3 (H.xy k hk2).2.1 1 L']
    exact hk.blk k (H.xy k hk2).2.2.2 (H.xy k hk2).2.2.1
  refine ⟨⟨rfl, .inl H.yh, hR, ?_, ?_, ?_, ?_⟩, kept_put (kept_mono hk (fun k e => .inl (H.yl k e))) (.inl H.yh) 1 L'⟩
  · rw [e, rowsF_app, rowsF_one, List.length_append]
    exact own_same ho (fun k hk => heap_put w3 (fun e => hLh (by rw [← e]; exact hk)) 1 L')
  · intro k hk2
    rw [hsz]
    exact (hl k hk2).imp (H.yl k) id
  · intro k hk2
    obtain ⟨a, b, c, d⟩ := H.xy k hk2
    refine ⟨.inl a, b, fun e => (hl k e).elim c (fun h => by omega), ?_⟩
    rw [hsz]
    exact Nat.lt_of_lt_of_le d hk.size
  · intro r hr
    rw [e] at hr
    rcases List.mem_append.1 hr with hr | hr
    · exact byteZ_keep (H.bys r hr) (fun k _ hk => hbl k hk) (fun _ h => h)
    · rw [List.mem_singleton.1 hr]
      exact byteZ_keep hx (fun k _ hk => hbl k hk) (fun _ h => h)

theorem put_grow {w Wd w2 : World} {Y : Nat → Prop} {h : Nat} {D : DiskM} {L L' : Value} {rs : List RecF} {x : RecF} {X : Nat → Prop} (H : RefR w Y h D L rs X) (hx : ByteZ w X x.u x.f.b)
    (hb : Below w.heap.size w Wd) (ho : w2.ownsRow 0 84 3 L' (rs.length + 1) (rowsF rs ++ cellsF x)) (hg : Wd.grownBy w2 L.ownBlock) (hl : L'.ownBlock = L.ownBlock ∨ L'.ownBlock = some Wd.heap.size) :
    (RefR (w2.setCell ⟨h, 1, none⟩ L') (fun k => Y k ∨ (w.heap.size ≤ k ∧ k < (w2.setCell ⟨h, 1, none⟩ L').heap.size)) h (putD D rs x rs.length) L' (putI rs x rs.length) X ∧
      Kept Y w (w2.setCell ⟨h, 1, none⟩ L')) ∧ w2.cell? ⟨h, 1, none⟩ = some L ∧ w2.frozen? ⟨h, 1, none⟩ = false := by
  have hk : Kept (fun k => L.ownBlock = some k) w w2 := kept_grown (kept_below hb) hg (fun g e => .inl e)
  have hR3 : Rw w2 0 h 50 [.int .i64 D.room, L, .int .i64 D.n, .int .i64 D.last] := rw_kept H.rwd hk (refR_lh H)
  refine ⟨put_start H hx hk ho (fun k e => ?_), Rw.cell hR3 rfl, Rw.free hR3 1⟩
  rcases hl with hl | hl
  · exact .inl (hl.symm.trans e)
  · have := own_lt ho e
    rw [hl] at e
    injection e with e
    have := hb.size
    exact .inr ⟨by omega, by omega⟩

def PutR (w wr : World) (Y : Nat → Prop) (h : Nat) (D : DiskM) (L' : Value) (rs : List RecF) (x : RecF) (X : Nat → Prop) (i : Nat) : Prop :=
  (RefR wr (fun k => Y k ∨ (w.heap.size ≤ k ∧ k < wr.heap.size)) h (putD D rs x i) L' (putI rs x i) X ∧ Kept Y w wr) ∧ ∀ r ∈ rs.drop i, bytesBefore x.f.name r.f.name = true

theorem putR_below {w w5 w6 : World} {Y : Nat → Prop} {h : Nat} {D : DiskM} {L' : Value} {rs : List RecF} {x : RecF} {X : Nat → Prop} {i : Nat} (H : PutR w w5 Y h D L' rs x X i) (hb : Below w5.heap.size w5 w6) : PutR w w6 Y h D L' rs x X i :=
  ⟨⟨refR_more (refR_below H.1.1 hb) (fun _ hk => hk.imp id (fun hk => ⟨hk.1, Nat.lt_of_lt_of_le hk.2 hb.size⟩)), kept_trans H.1.2 (kept_below hb)⟩, H.2⟩

theorem size_sets (gl : Nat) : ∀ (ys : List Value) (o : Nat) (W : World), (W.setCells gl o ys).heap.size = W.heap.size
  | [], _, _ => rfl
  | y :: ys, o, W => by
    show ((W.setCell ⟨gl, o, none⟩ y).setCells gl (o + 1) ys).heap.size = _
    rw [size_sets gl ys (o + 1)]
    simp [World.setCell]

theorem swap_list {α : Type} (a b : List α) (r x : α) (k : Nat) (hk : a.length = k) : (((a ++ [r]) ++ x :: b).set (k + 1) r).set k x = a ++ x :: r :: b := by
  subst hk
  rw [List.append_assoc, List.set_append_right _ _ (by omega), List.set_append_right _ _ (by omega)]
  simp

theorem putR_set {w w5 : World} {Y : Nat → Prop} {h : Nat} {D : DiskM} {gl m c : Nat} {rs : List RecF} {x r : RecF} {X : Nat → Prop} {i k : Nat} (H : PutR w w5 Y h D (.slice (some ⟨gl, 0, none⟩) m c) rs x X i) (hi : i = k + 1) (hm : m = rs.length + 1) (hr : rs[k]? = some r) (hrX : ByteZ w5 X r.u r.f.b) (hxX : ByteZ w5 X x.u x.f.b) (hb : bytesBefore x.f.name r.f.name = true) (hY : Y gl ∨ w.heap.size ≤ gl) :
    PutR w ((w5.setCells gl (i * 3) (cellsF r)).setCells gl (k * 3) (cellsF x)) Y h D (.slice (some ⟨gl, 0, none⟩) m c) rs x X k := by
  have hkl := (List.getElem?_eq_some_iff.1 hr).1
  have hre := (List.getElem?_eq_some_iff.1 hr).2
  have hpl : (putI rs x i).length = rs.length + 1 := by unfold putI; simp; omega
  have hdk : rs.drop k = r :: rs.drop (k + 1) := by rw [List.drop_eq_getElem_cons hkl, hre]
  have e : ((putI rs x i).set i r).set k x = putI rs x k := by
    subst hi
    unfold putI
    rw [show rs.take (k + 1) = rs.take k ++ [r] by rw [List.take_add_one, hr]; rfl, hdk]
    exact swap_list _ _ r x k (by rw [List.length_take]; omega)
  have hN : ∀ k, X k → (w5.setCells gl (i * 3) (cellsF r)).heap[k]? = w5.heap[k]? := fun k hk => setCells_heap _ _ _ _ _ (fun e => (H.1.1.xy k hk).2.2.1 (by rw [e]; rfl))
  have h1 := refR_set (D' := { D with fs := ((putI rs x i).set i r).map (·.f) }) H.1.1 (by rw [hpl, hm]) (i := i) (by omega) r hrX rfl rfl rfl rfl
  have h2 := refR_set (D' := putD D rs x k) h1 (by rw [List.length_set, hpl, hm]) (i := k) (by rw [List.length_set]; omega) x (byteZ_keep hxX (fun k _ hk => hN k hk) (fun _ h => h)) rfl rfl rfl (by rw [e]; rfl)
  rw [e] at h2
  refine ⟨⟨refR_more h2 (fun _ hk => hk.imp id (fun hk => ⟨hk.1, by rw [size_sets, size_sets]; exact hk.2⟩)), kept_puts hY _ _ (kept_puts hY _ _ H.1.2)⟩, ?_⟩
  intro q hq
  rw [hdk] at hq
  rcases List.mem_cons.1 hq with rfl | hq
  · exact hb
  · exact H.2 q (by rw [hi]; exact hq)

theorem lt_of_bef : ∀ {a b : List UInt8}, bytesBefore a b = true → a < b
  | [], [], h => by simp [bytesBefore] at h
  | [], _ :: _, _ => by simp
  | _ :: _, [], h => by simp [bytesBefore] at h
  | x :: r, y :: s, h => by
    simp only [bytesBefore, Bool.or_eq_true, decide_eq_true_eq, Bool.and_eq_true, beq_iff_eq] at h
    rw [List.cons_lt_cons_iff]
    rcases h with h | ⟨h1, h2⟩
    · exact .inl h
    · exact .inr ⟨h1, lt_of_bef h2⟩

theorem lt_bef : ∀ {a b : List UInt8}, a < b → bytesBefore a b = true
  | [], [], h => by simp at h
  | [], _ :: _, _ => rfl
  | _ :: _, [], h => by simp at h
  | x :: r, y :: s, h => by
    rw [List.cons_lt_cons_iff] at h
    simp only [bytesBefore, Bool.or_eq_true, decide_eq_true_eq, Bool.and_eq_true, beq_iff_eq]
    rcases h with h | ⟨h1, h2⟩
    · exact .inl h
    · exact .inr ⟨h1, lt_bef h2⟩

theorem less_before (a b : ByteArray) : Op.bytesLess a.toList b.toList = bytesBefore a.data.toList b.data.toList := by
  rw [ByteArray.toList_eq, ByteArray.toList_eq, bytesLess_eq, Bool.eq_iff_iff, decide_eq_true_eq]
  exact ⟨lt_bef, lt_of_bef⟩

theorem Try.infoRFz : (Try.prog.info? 84).map (fun i => (i.zero, i.size)) = some (some (.agg #[.string ⟨#[]⟩, .slice none 0 0, .int .i64 0]), 3) := by kernel_rfl

def RPutV (w w' : World) (Y : Nat → Prop) (h : Nat) (D : DiskM) (rs : List RecF) (x : RecF) (X : Nat → Prop) : Prop :=
  ∃ i L', i ≤ rs.length ∧ PutR w w' Y h D L' rs x X i ∧ (i = 0 ∨ ∃ r, rs[i - 1]? = some r ∧ bytesBefore x.f.name r.f.name = false)

def xV (x : RecF) : Value := .agg #[nameV x.f.name, x.u, .int .i64 x.f.syn]

set_option maxRecDepth 100000 in
set_option maxHeartbeats 8000000 in
theorem rput_any {w : World} {Y : Nat → Prop} {h : Nat} {D : DiskM} {L : Value} {rs : List RecF} {X : Nat → Prop} (H : RefR w Y h D L rs X) (x : RecF) (hx : ByteZ w X x.u x.f.b) (hl : rs.length ≤ 64) :
    Calls Try.prog 47 #[.pointer (some ⟨h, 0, none⟩), xV x] w fun e w' => e = .returned (.tuple #[]) ∧ RPutV w w' Y h D rs x X := by
  unfold xV nameV
  obtain ⟨nm, hnm⟩ : ∃ nm : ByteArray, nm = ⟨x.f.name.toArray⟩ := ⟨_, rfl⟩
  rw [← hnm]
  obtain ⟨ua, un, uc, hu⟩ : ∃ ua un uc, x.u = .slice ua un uc := by
    rcases hx with ⟨e, e2⟩ | ⟨ad, c, e, _⟩
    · exact ⟨none, 0, 0, e⟩
    · exact ⟨_, _, _, e⟩
  rw [hu]
  obtain ⟨sy, hsy⟩ : ∃ sy, sy = x.f.syn := ⟨_, rfl⟩
  rw [← hsy]
  obtain ⟨la, lc, rfl, hla, hlc⟩ := own_addr H.own
  obtain ⟨n, hn⟩ : ∃ n, n = rs.length := ⟨_, rfl⟩
  obtain ⟨i0, hi, hz0, hz1, hz2⟩ := info_parts Try.infoRFile
  have c1 : w.cell? ⟨h, 1, none⟩ = some (.slice la rs.length lc) := Rw.cell H.rwd rfl
  rw [← hn] at c1
  have hlt := refR_lt H
  have HXC : Hid (cellsF x = [.string nm, .slice ua un uc, .int .i64 sy]) := Lib.hid (by unfold cellsF nameV; rw [← hnm, hu, hsy])
  have HH := Lib.hid H
  have HX := Lib.hid hx
  have HN := Lib.hid hn
  have HNM := Lib.hid hnm
  have HUX := Lib.hid hu
  have hzz := zero_cells Try.infoRFz
  have HSY := Lib.hid hsy
  have hb1 : Below w.heap.size w (w.alloc (.cells #[.string nm, .slice ua un uc, .int .i64 sy] 84)) := below_more (Below.refl _ _) _
  have hR1 : Rw (w.alloc (.cells #[.string nm, .slice ua un uc, .int .i64 sy] 84)) 0 w.heap.size 84 [.string nm, .slice ua un uc, .int .i64 sy] := Rw.alloc w _ _ (Nat.zero_le _)
  have HB1 := Lib.hid hb1
  have HR1 := Lib.hid hR1
  have hnb : (n : Int) ≤ 64 := by omega
  have HLT := Lib.hid hlt
  clear hb1 hR1 hla hlc hnm hu hsy H hx hn hl
  go_enter Try.func47, Try.ntmps47
  go_wp2_with fail
  obtain ⟨w1, hw1⟩ : ∃ w1, w1 = w.alloc (.cells #[.string nm, .slice ua un uc, .int .i64 sy] 84) := ⟨_, rfl⟩
  rw [← hw1] at HB1 HR1 ⊢
  obtain ⟨gb, hgb⟩ : ∃ gb, gb = w.heap.size := ⟨_, rfl⟩
  rw [← hgb] at HR1 ⊢
  have d1 : w1.cell? ⟨h, 1, none⟩ = some (.slice la n lc) := cell_same c1 (HB1.out.block h HLT.out)
  have x0 : w1.cell? ⟨gb, 0, none⟩ = some (.string nm) := Rw.cell HR1.out rfl
  have x1 : w1.cell? ⟨gb, 1, none⟩ = some (.slice ua un uc) := Rw.cell HR1.out rfl
  have x2 : w1.cell? ⟨gb, 2, none⟩ = some (.int .i64 sy) := Rw.cell HR1.out rfl
  have hba : Below w.heap.size w (w1.alloc (.cells #[.string nm, .slice ua un uc, .int .i64 sy] 84)) := HB1.out.alloc HB1.out.size _
  have hbd : Below w.heap.size w (w1.alloc (.cells #[.string nm, .slice ua un uc, .int .i64 sy] 84)).drew := below_draws hba ⟨1, rfl⟩
  have HRD : Hid (∀ (j : Nat) (u : Value), [Value.string nm, .slice ua un uc, .int .i64 sy][j]? = some u → (w1.alloc (.cells #[.string nm, .slice ua un uc, .int .i64 sy] 84)).drew.cell? ((⟨w1.heap.size, 0, none⟩ : Addr).add j) = some u) := Lib.hid (fun j u hj => by
    have h2 := Rw.alloc w1 84 #[.string nm, .slice ua un uc, .int .i64 sy] (Nat.zero_le _)
    rw [Addr.add_mid, Nat.zero_add]
    exact Rw.cell h2 hj)
  have d3 : (w1.alloc (.cells #[.string nm, .slice ua un uc, .int .i64 sy] 84)).cell? ⟨h, 1, none⟩ = some (.slice la n lc) := cell_same c1 (hba.block h HLT.out)
  have HOD : Hid ((w1.alloc (.cells #[.string nm, .slice ua un uc, .int .i64 sy] 84)).drew.ownsRow 0 84 3 (.slice la n lc) n (rowsF rs)) := Lib.hid (by
    have := own_below HH.out.own hbd
    rw [← HN.out] at this
    exact this)
  have HBD := Lib.hid hbd
  clear hbd hba hw1 hgb
  go_region_law (refine step_append_at rfl (.tmp 10) (.tmp 12) 48 rfl 0 84 i0 _ 3 48 Try.underlying48 hi hz0 hz1 hz2 rfl (by decide) (.slice la n lc) n (rowsF rs) (by simp [Act.eval]) HOD.out ⟨w1.heap.size, 0, none⟩ 1 1 [.string nm, .slice ua un uc, .int .i64 sy] (by simp [Act.eval]) rfl HRD.out (fun u hu => by simp at hu; rcases hu with rfl | rfl | rfl <;> rfl) (by unfold maxLen; omega) (by omega) (Nat.zero_le _) ?_; intro v2 w2 ho2 hg2 hl2; obtain ⟨a2, c2, rfl⟩ := own_len ho2.out; have hput := put_grow HH.out HX.out HBD.out (by have h := ho2.out; rw [← HXC.out] at h; rw [← HN.out]; exact h) (by have h := hg2.out; rw [HN.out] at h; exact h) (by have h := hl2.out; rw [HN.out] at h ⊢; exact h); have HP := Lib.hid hput.1; have e2 : w2.cell? ⟨h, 1, none⟩ = some (.slice la n lc) := by { have h := hput.2.1; rw [← HN.out] at h; exact h }; have g2 : w2.frozen? ⟨h, 1, none⟩ = false := hput.2.2; clear hput)
  all_goals
    have HP2 : Hid (PutR w (w2.setCell ⟨h, 1, none⟩ (.slice a2 (n + 1) c2)) Y h D (.slice a2 (n + 1) c2) rs x X n) := Lib.hid ⟨by have h := HP.out; rw [← HN.out] at h; exact h, fun r hr => by rw [HN.out, List.drop_length] at hr; exact absurd hr (by simp)⟩
    have e3 : (w2.setCell ⟨h, 1, none⟩ (.slice a2 (n + 1) c2)).cell? ⟨h, 1, none⟩ = some (.slice a2 (n + 1) c2) := Rw.cell HP.out.1.rwd rfl
    clear ho2 hg2 hl2 HP e2 g2 d1 d3 x0 x1 x2 HRD HOD HBD c1 hlt
    obtain ⟨w4, hw4⟩ : ∃ w4, w4 = w2.setCell ⟨h, 1, none⟩ (.slice a2 (n + 1) c2) := ⟨_, rfl⟩
    rw [← hw4] at HP2 e3 ⊢
    clear hw4
    obtain ⟨m, hm⟩ : ∃ m, m = n + 1 := ⟨_, rfl⟩
    rw [← hm] at HP2 e3 ⊢
    obtain ⟨gl, rfl⟩ : ∃ gl, a2 = some ⟨gl, 0, none⟩ := by
      obtain ⟨a, c, e, h, _⟩ := own_addr HP2.out.1.1.own
      injection e with e1
      subst e1
      exact h.resolve_left (by unfold putI; simp)
    have HM : Hid (m = n + 1 ∧ n ≤ 64 ∧ n = rs.length) := Lib.hid ⟨hm, by omega, HN.out⟩
    have hmb : (m : Int) ≤ 65 := by omega
    have hnm : (n : Int) = (m : Int) - 1 := by omega
    clear hm
    go_wp2_with fail
    go_loopw [4] (fun iv wr => ∃ i : Nat, i ≤ n ∧ iv = .int .i64 i ∧ Hid (PutR w wr Y h D (.slice (some ⟨gl, 0, none⟩) m c2) rs x X i)) (fun iv _ => (intOf iv).toNat)
    case atStart => exact ⟨n, Nat.le_refl _, by go_num, HP2⟩
    case round =>
      obtain ⟨i, hi', rfl, HR⟩ := hrel
      obtain ⟨w5, hw5⟩ : ∃ w5 : World, w5 = wr := ⟨_, rfl⟩
      subst hw5
      have e5 : w5.cell? ⟨h, 1, none⟩ = some (.slice (some ⟨gl, 0, none⟩) m c2) := Rw.cell HR.out.1.1.rwd rfl
      by_cases h0 : i = 0
      · subst h0
        go_wp2_with fail
        go_quiet (fail)
        go_wp2
        go_end0
        exact ⟨rfl, 0, _, Nat.zero_le _, putR_below HR.out (below_drewN (Below.refl _ _) _), .inl rfl⟩
      · obtain ⟨k, hk⟩ : ∃ k, i = k + 1 := ⟨i - 1, by omega⟩
        have HIK := Lib.hid hk
        have hki : (i : Int) - 1 = (k : Int) := by omega
        have hpos : (0 : Int) < (i : Int) := by omega
        have hposn : 0 < i := by omega
        have hz0 : (i = 0) = False := eq_false (by omega)
        have him : (i : Int) < (m : Int) := by omega
        have hkm : (k : Int) < (m : Int) := by omega
        obtain ⟨r, hr⟩ : ∃ r, rs[k]? = some r := ⟨_, List.getElem?_eq_getElem (by have := HM.out; omega)⟩
        have hpl : (putI rs x i).length = m := by unfold putI; have := HM.out; simp; omega
        have hpi : (putI rs x i)[i]? = some x := by
          unfold putI
          rw [List.getElem?_append_right (by simp; omega), List.length_take, show i - min i rs.length = 0 by have := HM.out; omega]
          rfl
        have hpk : (putI rs x i)[k]? = some r := by
          unfold putI
          rw [List.getElem?_append_left (by have := HM.out; simp; omega), List.getElem?_take, if_pos (by omega)]
          exact hr
        have y0 := rec_cells (j := 0) HR.out.1.1.own hpi rfl
        have z0 := rec_cells (j := 0) HR.out.1.1.own hpk rfl
        unfold nameV at y0 z0
        obtain ⟨rm, hrm⟩ : ∃ rm : ByteArray, rm = ⟨r.f.name.toArray⟩ := ⟨_, rfl⟩
        rw [← hrm, Nat.add_zero] at z0
        rw [← HNM.out, Nat.add_zero] at y0
        have HRM := Lib.hid hrm
        have HRR := Lib.hid hr
        have y1 := rec_cells (j := 1) HR.out.1.1.own hpi rfl
        have z1 := rec_cells (j := 1) HR.out.1.1.own hpk rfl
        have y2 := rec_cells (j := 2) HR.out.1.1.own hpi rfl
        have z2 := rec_cells (j := 2) HR.out.1.1.own hpk rfl
        obtain ⟨qa, qn, qc, hq⟩ : ∃ qa qn qc, r.u = .slice qa qn qc := by
          rcases HH.out.bys r (List.mem_of_getElem? hr) with ⟨e, e2⟩ | ⟨ad, c, e, _⟩
          · exact ⟨none, 0, 0, e⟩
          · exact ⟨_, _, _, e⟩
        obtain ⟨qy, hqy⟩ : ∃ qy, qy = r.f.syn := ⟨_, rfl⟩
        rw [HUX.out] at y1
        rw [← HSY.out] at y2
        rw [hq] at z1
        rw [← hqy] at z2
        have HRC : Hid (cellsF r = [.string rm, .slice qa qn qc, .int .i64 qy]) := Lib.hid (by unfold cellsF nameV; rw [← hrm, hq, hqy])
        have HMR : Hid (r ∈ putI rs x i) := Lib.hid (List.mem_of_getElem? hpk)
        have HIN : Hid (i ≤ n) := Lib.hid hi'
        clear hrm hr hpi hpk hpl hk h0 hi' hq hqy
        by_cases hb : Op.bytesLess nm.toList rm.toList = true
        · go_wp2_with fail
          go_quiet (fail)
          generalize hw6 : World.drewN w5 _ = w6
          have hb56 : Below w5.heap.size w5 w6 := by rw [← hw6]; exact below_drewN (Below.refl _ _) _
          have HR6 := Lib.hid (putR_below HR.out hb56)
          have e6 := cell_same e5 (hb56.block _ (block_of_cell e5))
          have y60 := cell_same y0 (hb56.block _ (block_of_cell y0))
          have y61 := cell_same y1 (hb56.block _ (block_of_cell y1))
          have y62 := cell_same y2 (hb56.block _ (block_of_cell y2))
          have z60 := cell_same z0 (hb56.block _ (block_of_cell z0))
          have z61 := cell_same z1 (hb56.block _ (block_of_cell z1))
          have z62 := cell_same z2 (hb56.block _ (block_of_cell z2))
          clear hb56 hw6
          go_wp2_with (first | (refine wpList_alloc_z rfl 84 rfl #[.string ⟨#[]⟩, .slice none 0 0, .int .i64 0] hzz ?_) | (refine wpList_store_mid rfl 84 (.tmp 5) (.tmp 52) rfl w6.heap.size 0 #[.string nm, .slice ua un uc, .int .i64 sy] rfl rfl (Rw.there (Rw.alloc w6 _ _ (Nat.zero_le _)) 0 3 (Nat.le_refl _)) (by kernel_rfl) (by rfl) ?_) | fail)
          obtain ⟨w7, hw7⟩ : ∃ w7, w7 = w6.alloc (.cells #[.string nm, .slice ua un uc, .int .i64 sy] 84) := ⟨_, rfl⟩
          obtain ⟨gs, hgs⟩ : ∃ gs, gs = w6.heap.size := ⟨_, rfl⟩
          have hb57 : Below w6.heap.size w6 w7 := by rw [hw7]; exact below_more (Below.refl _ _) _
          have HT7 : Hid (Rw w7 0 gs 84 [.string nm, .slice ua un uc, .int .i64 sy]) := Lib.hid (by rw [hw7, hgs]; exact Rw.alloc w6 _ _ (Nat.zero_le _))
          have HR7 := Lib.hid (putR_below HR6.out hb57)
          have e7 := cell_same e6 (hb57.block _ (block_of_cell e6))
          have y70 := cell_same y60 (hb57.block _ (block_of_cell y60))
          have y71 := cell_same y61 (hb57.block _ (block_of_cell y61))
          have y72 := cell_same y62 (hb57.block _ (block_of_cell y62))
          have z70 := cell_same z60 (hb57.block _ (block_of_cell z60))
          have z71 := cell_same z61 (hb57.block _ (block_of_cell z61))
          have z72 := cell_same z62 (hb57.block _ (block_of_cell z62))
          obtain ⟨cur, hcur⟩ := own_blk HR7.out.1.1.own (k := gl) rfl
          have hfz : ∀ j, w7.frozen? ⟨gl, j, none⟩ = false := fun j => by simp [World.frozen?, hcur]
          have g70 := hfz (i * 3)
          have g71 := hfz (i * 3 + 1)
          have g72 := hfz (i * 3 + 2)
          have q70 : w7.cell? ⟨gs, 0, none⟩ = some (.string nm) := Rw.cell HT7.out rfl
          have q71 : w7.cell? ⟨gs, 1, none⟩ = some (.slice ua un uc) := Rw.cell HT7.out rfl
          have q72 : w7.cell? ⟨gs, 2, none⟩ = some (.int .i64 sy) := Rw.cell HT7.out rfl
          rw [← hw7, ← hgs]
          have hgg : gs ≠ gl := fun e => by have := own_lt HR6.out.1.1.own (k := gl) rfl; omega
          have hhg : h ≠ gl := fun e => refR_lh HR7.out.1.1 (by rw [e]; rfl)
          clear hcur hb57 hw7 hgs HR6 e6 y60 y61 y62 z60 z61 z62 e5 y0 y1 y2 z0 z1 z2
          have hbef : bytesBefore x.f.name r.f.name = true := by
            rw [less_before, HNM.out, HRM.out] at hb
            exact hb
          have hF := putR_set HR7.out HIK.out (by have := HM.out; omega) HRR.out (HR7.out.1.1.bys r HMR.out) (HR7.out.1.1.bys x (by unfold putI; simp)) hbef (HR7.out.1.1.yl gl rfl |>.imp id (fun h => h.1))
          rw [HRC.out, HXC.out] at hF
          have HF := Lib.hid hF
          have hout : ∀ (ys : List Value) (b j : Nat), ys.length = 3 → (b = gl → j < i * 3) → (w7.setCells gl (i * 3) ys).cell? ⟨b, j, none⟩ = w7.cell? ⟨b, j, none⟩ := fun ys b j _ hbj => World.cell?_setCells_out gl ys (i * 3) w7 ⟨b, j, none⟩ (fun e _ => .inl (hbj e))
          have hfr := fun (ys : List Value) (j : Nat) => World.frozen?_setCells gl ys (i * 3) w7 ⟨gl, j, none⟩
          have hlk : k * 3 + 2 < i * 3 := by have := HIK.out; omega
          obtain ⟨w8, hw8⟩ : ∃ w8, w8 = w7.setCells gl (i * 3) [.string rm, .slice qa qn qc, .int .i64 qy] := ⟨_, rfl⟩
          have e8 : w8.cell? ⟨h, 1, none⟩ = some (.slice (some ⟨gl, 0, none⟩) m c2) := by rw [hw8, hout _ _ _ rfl (fun e => absurd e hhg)]; exact e7
          have z80 : w8.cell? ⟨gl, k * 3, none⟩ = some (.string rm) := by rw [hw8, hout _ _ _ rfl (fun _ => by omega)]; exact z70
          have z81 : w8.cell? ⟨gl, k * 3 + 1, none⟩ = some (.slice qa qn qc) := by rw [hw8, hout _ _ _ rfl (fun _ => by omega)]; exact z71
          have z82 : w8.cell? ⟨gl, k * 3 + 2, none⟩ = some (.int .i64 qy) := by rw [hw8, hout _ _ _ rfl (fun _ => by omega)]; exact z72
          have q80 : w8.cell? ⟨gs, 0, none⟩ = some (.string nm) := by rw [hw8, hout _ _ _ rfl (fun e => absurd e hgg)]; exact q70
          have q81 : w8.cell? ⟨gs, 1, none⟩ = some (.slice ua un uc) := by rw [hw8, hout _ _ _ rfl (fun e => absurd e hgg)]; exact q71
          have q82 : w8.cell? ⟨gs, 2, none⟩ = some (.int .i64 sy) := by rw [hw8, hout _ _ _ rfl (fun e => absurd e hgg)]; exact q72
          have g80 : w8.frozen? ⟨gl, k * 3, none⟩ = false := by rw [hw8, hfr]; exact hfz _
          have g81 : w8.frozen? ⟨gl, k * 3 + 1, none⟩ = false := by rw [hw8, hfr]; exact hfz _
          have g82 : w8.frozen? ⟨gl, k * 3 + 2, none⟩ = false := by rw [hw8, hfr]; exact hfz _
          rw [← hw8] at HF
          have HW8 : Hid (((w7.setCell ⟨gl, i * 3, none⟩ (.string rm)).setCell ⟨gl, i * 3 + 1, none⟩ (.slice qa qn qc)).setCell ⟨gl, i * 3 + 2, none⟩ (.int .i64 qy) = w8) := Lib.hid hw8.symm
          clear hout hfr hlk hw8 hF hbef hfz hhg hgg q70 q71 q72 HT7
          go_region
          all_goals
            rw [HW8.out]
            clear e7 y70 y71 y72 z70 z71 z72 g70 g71 g72
            go_wp2_with fail
            go_region
          all_goals
            go_wp2_with fail
            go_roundw
            case rel =>
              have hik := HIK.out
              have hin := HIN.out
              exact ⟨k, by omega, by go_num, Lib.hid (putR_below HF.out (below_draws (Below.refl _ _) ⟨2, rfl⟩))⟩
            case measure => have hik := HIK.out; simp [intOf]; omega
        · have hb' : Op.bytesLess nm.toList rm.toList = false := by simpa using hb
          clear hb
          have HBF : Hid (∃ r, rs[i - 1]? = some r ∧ bytesBefore x.f.name r.f.name = false) := Lib.hid ⟨r, by have := HRR.out; rw [HIK.out]; exact this, by
            rw [less_before, HNM.out, HRM.out] at hb'
            exact hb'⟩
          go_wp2_with fail
          go_quiet (fail)
          go_wp2_with fail
          go_end0
          exact ⟨rfl, i, _, by rw [← HN.out]; exact HIN.out, putR_below HR.out (below_drewN (Below.refl _ _) _), .inr HBF.out⟩

end Go.Proofs.Ytfiocghgjjandaa
