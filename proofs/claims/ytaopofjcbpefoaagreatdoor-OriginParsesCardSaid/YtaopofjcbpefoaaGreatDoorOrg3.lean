/- Plain facts: an Origin that is written is read. -/
import Derived.Test.YtaopofjcbpefoaaGreatDoorProg
import Derived.Test.YtaopofjcbpefoaaGreatDoorKit
import Derived.Test.YtaopofjcbpefoaaGreatDoorAsc1
import Derived.Test.YtaopofjcbpefoaaGreatDoorAsc4
import Derived.Test.YtaopofjcbpefoaaGreatDoorRow
import Derived.Test.YtaopofjcbpefoaaGreatDoorTxt2
import Derived.Test.YtaopofjcbpefoaaGreatDoorMd1
import Derived.Test.YtaopofjcbpefoaaGreatDoorHst0
import Derived.Test.YtaopofjcbpefoaaGreatDoorHst1
import Derived.Test.YtaopofjcbpefoaaGreatDoorUrl0
import Derived.Test.YtaopofjcbpefoaaGreatDoorUrl3
import Derived.Test.YtaopofjcbpefoaaGreatDoorUrl4
import Derived.Test.YtaopofjcbpefoaaGreatDoorUrl6
import Derived.Test.YtaopofjcbpefoaaGreatDoorUrl9
import Derived.Test.YtaopofjcbpefoaaGreatDoorUrl12
import Derived.Test.YtaopofjcbpefoaaGreatDoorOrg0
namespace Go.Proofs.YtaopofjcbpefoaaGreatDoor
open Go.RowKit Go.Proofs
set_option maxRecDepth 100000

structure OShape (u : UrlM) (n : Nat) : Prop where
  osch : (defP u.sch).2 = true
  ohos : hostP u.hos = some u.hos ∧ freeL forbL u.hos ∧ plainL u.hos ∧ u.hos ≠ [] ∧ u.hos.length ≤ n + 16
  oprt : goodPt u.sch u.prt

theorem place_fact {sch l h : List UInt8} {p : Int} (hp : placeP sch l = some (h, p)) : (hostP h = some h ∧ freeL forbL h ∧ plainL h ∧ h ≠ [] ∧ h.length ≤ l.length + 16) ∧ goodPt sch p := by
  unfold placeP at hp
  cases hh : hostP (upL [58] l) with
  | none => rw [hh] at hp; exact absurd hp (by simp)
  | some h2 =>
    rw [hh] at hp
    cases hpp : portP sch ((fromL [58] l).drop 1) with
    | none => rw [hpp] at hp; exact absurd hp (by simp)
    | some p2 =>
      rw [hpp] at hp
      have e : some (h2, p2) = some (h, p) := hp
      injection e with e
      injection e with e1 e2
      subst e1 e2
      obtain ⟨_, _, h3, h4⟩ := host_low hh
      obtain ⟨f1, f2⟩ := forb_free h4
      have := host_len hh
      have := up_len [58] l
      exact ⟨⟨host_host hh, f1, f2, h3, by omega⟩, port_good hpp⟩

theorem auth_fact {sch l : List UInt8} {a : AutM} (ha : authP sch l = some a) : (hostP a.hos = some a.hos ∧ freeL forbL a.hos ∧ plainL a.hos ∧ a.hos ≠ [] ∧ a.hos.length ≤ l.length + 16) ∧ goodPt sch a.prt := by
  unfold authP at ha
  cases hla : lastAtL l with
  | none =>
    rw [hla] at ha
    obtain ⟨z, hz, rfl⟩ := Option.map_eq_some_iff.1 ha
    exact place_fact hz
  | some y =>
    obtain ⟨y1, y2⟩ := y
    obtain ⟨l1, l2⟩ := last_len hla
    rw [hla] at ha
    obtain ⟨z, hz, rfl⟩ := Option.map_eq_some_iff.1 ha
    obtain ⟨⟨a1, a2, a3, a4, a5⟩, a6⟩ := place_fact (p := z.2) (h := z.1) hz
    exact ⟨⟨a1, a2, a3, a4, Nat.le_trans a5 (by omega)⟩, a6⟩

theorem org_shape {s : List UInt8} {u : UrlM} (h : urlP s = some u) : OShape u s.length := by
  unfold urlP at h
  split at h
  · unfold bodyP at h
    cases hs : schemeP (cleanL s) with
    | none => rw [hs] at h; exact absurd h (by simp)
    | some x =>
      rw [hs] at h
      have h2 : (authP x.1 (upL authE x.2)).map (fun a => tailP x.1 a (fromL authE x.2)) = some u := h
      obtain ⟨a, ha, rfl⟩ := Option.map_eq_some_iff.1 h2
      unfold schemeP at hs
      split at hs
      · rename_i hc
        injection hs with hs
        subst hs
        obtain ⟨⟨a1, a2, a3, a4, a5⟩, a6⟩ := auth_fact ha
        refine ⟨hc.1, ⟨a1, a2, a3, a4, Nat.le_trans a5 ?_⟩, a6⟩
        have b1 := clean_len s
        have b2 := from_len [58] (cleanL s)
        have b3 : (skipL ((fromL [58] (cleanL s)).drop 1)).length ≤ ((fromL [58] (cleanL s)).drop 1).length := (List.dropWhile_sublist _).length_le
        have b4 := up_len authE (skipL ((fromL [58] (cleanL s)).drop 1))
        rw [List.length_drop] at b3
        simp only at b4 ⊢
        omega
      · exact absurd hs (by simp)
  · exact absurd h (by simp)

def textS (u : UrlM) : List UInt8 := u.sch ++ 58 :: 47 :: 47 :: (u.hos ++ portA u.prt)

theorem sch_ne {s : List UInt8} (h : (defP s).2 = true) : s ≠ [] := by
  rintro rfl
  exact absurd h (by decide)

theorem org_text {u : UrlM} {n : Nat} (h : OShape u n) : textO (ofU u) = textS u := by
  have h0 : ¬ noneO (ofU u) := fun hn => sch_ne h.osch hn.1
  unfold textO
  rw [if_neg h0]
  show u.sch ++ [58, 47, 47] ++ u.hos ++ portO u.sch (portU u) = _
  have e : portO u.sch (portU u) = portA u.prt := by
    unfold portO portA markL
    rcases h.oprt with hp | ⟨h1, h2, h3⟩
    · have hu : portU u = (defP u.sch).1 := by unfold portU; rw [if_pos hp]
      rw [hu, if_pos ⟨h.osch, rfl⟩, hp]
      rfl
    · have hu : portU u = u.prt := by unfold portU; rw [if_neg (by omega)]
      rw [hu, if_neg (fun hh => h3 hh.2), decide_eq_true (show u.prt ≠ -1 by omega)]
      rfl
  rw [e]
  unfold textS
  simp

theorem org_body {u : UrlM} {n : Nat} (h : OShape u n) (r : List UInt8) (hr : r = [] ∨ ∃ t, r = 47 :: t) : bodyP (textS u ++ r) = some (tailP u.sch ⟨[], [], u.hos, u.prt⟩ r) := by
  obtain ⟨s1, s2, _, _⟩ := scheme_fact h.osch
  obtain ⟨h1, h2, h3, h4, h5⟩ := h.ohos
  obtain ⟨g1, g2, g3⟩ := portA_free h.oprt
  obtain ⟨a, ha⟩ : ∃ a, a = u.hos ++ portA u.prt := ⟨_, rfl⟩
  have haf : freeL authE a := by rw [ha]; exact free_app (free_sub (by decide) h2) (free_sub (by decide) g2)
  have hat : (64 : UInt8) ∉ a := by
    rw [ha]
    intro hc
    rcases List.mem_append.1 hc with hc | hc
    · exact absurd (h2 _ hc) (by decide)
    · exact absurd (g2 _ hc) (by decide)
  have han : ∃ c t, a = c :: t ∧ hasB [47, 92] c = false := by
    cases hh : u.hos with
    | nil => exact absurd hh h4
    | cons c t =>
      refine ⟨c, t ++ portA u.prt, by rw [ha, hh]; rfl, ?_⟩
      exact has_sub (by decide) (h2 c (by rw [hh]; simp))
  obtain ⟨u1, u2⟩ := up_stop (r := 58 :: 47 :: 47 :: (a ++ r)) s1 (.inr ⟨58, _, rfl, by decide⟩)
  obtain ⟨v1, v2⟩ := up_stop (of := authE) (r := r) haf (by
    rcases hr with rfl | ⟨t, rfl⟩
    · exact .inl rfl
    · exact .inr ⟨47, t, rfl, by decide⟩)
  have hsk : skipL (47 :: 47 :: (a ++ r)) = a ++ r := by
    obtain ⟨c, t, hct, hcb⟩ := han
    unfold skipL
    rw [List.dropWhile_cons, if_pos (by decide), List.dropWhile_cons, if_pos (by decide), hct, List.cons_append, List.dropWhile_cons, if_neg (by rw [hcb]; decide)]
  have e : textS u ++ r = u.sch ++ 58 :: 47 :: 47 :: (a ++ r) := by unfold textS; rw [ha]; simp
  have hsc : schemeP (textS u ++ r) = some (u.sch, a ++ r) := by
    unfold schemeP
    rw [e, u1, u2, s2, if_pos ⟨h.osch, by simp⟩, List.drop_succ_cons, List.drop_zero, hsk]
  have hau : authP u.sch a = some ⟨[], [], u.hos, u.prt⟩ := by
    unfold authP
    rw [lastAt_none hat, ha]
    simp only
    rw [place_place h1 (free_sub (by decide) h2) h.oprt]
    rfl
  unfold bodyP
  rw [hsc]
  show (authP u.sch (upL authE (a ++ r))).map _ = _
  rw [v1, hau]
  show some (tailP u.sch _ (fromL authE (a ++ r))) = _
  rw [v2]

theorem textS_plain {u : UrlM} {n : Nat} (h : OShape u n) : plainL (textS u) ∧ (textS u).length ≤ n + 60 ∧ textS u ≠ nullL := by
  obtain ⟨s1, s2, s3, s4⟩ := scheme_fact h.osch
  obtain ⟨h1, h2, h3, h4, h5⟩ := h.ohos
  obtain ⟨g1, g2, g3⟩ := portA_free h.oprt
  refine ⟨?_, ?_, ?_⟩
  · unfold textS
    refine plain_app s3 ?_
    have e : (58 :: 47 :: 47 :: (u.hos ++ portA u.prt) : List UInt8) = [58, 47, 47] ++ (u.hos ++ portA u.prt) := rfl
    rw [e]
    exact plain_app (by unfold plainL; decide) (plain_app h3 g1)
  · unfold textS
    rw [List.length_append, List.length_cons, List.length_cons, List.length_cons, List.length_append]
    omega
  · intro hc
    have : (58 : UInt8) ∈ textS u := by unfold textS; simp
    rw [hc] at this
    exact absurd this (by decide)

theorem org_again {u : UrlM} {n : Nat} (h : OShape u n) (hn : n ≤ 65000) : urlP (textS u) = some (tailP u.sch ⟨[], [], u.hos, u.prt⟩ []) := by
  obtain ⟨p1, p2, _⟩ := textS_plain h
  rw [url_plain p1 (by omega)]
  have := org_body h [] (.inl rfl)
  rwa [List.append_nil] at this

theorem org_back {u : UrlM} {n : Nat} (h : OShape u n) (hn : n ≤ 65000) : parseO (textO (ofU u)) = some (ofU u) := by
  have h2 := org_again h hn
  obtain ⟨_, _, p3⟩ := textS_plain h
  have h3 := org_shape h2
  rw [org_text h]
  unfold parseO
  rw [if_neg p3, h2]
  show (if textO (ofU _) = textS u then some (ofU _) else none) = _
  rw [org_text h3]
  show (if textS u = textS u then some (ofU u) else none) = _
  rw [if_pos rfl]

theorem clean_front {a : List UInt8} (ha : plainL a) (hn : a ≠ []) (b : List UInt8) : ∃ b', cleanL (a ++ b) = a ++ b' := by
  have hl : ∀ c ∈ a, lowC c = false := fun c hc => decide_eq_false (by have := plain_bd (ha c hc); omega)
  have h1 : (a ++ b).dropWhile lowC = a ++ b := by
    cases a with
    | nil => exact absurd rfl hn
    | cons c t => rw [List.cons_append, List.dropWhile_cons, if_neg (by rw [hl c (by simp)]; decide)]
  have h2 : trimC (a ++ b) = a ++ (b.reverse.dropWhile lowC).reverse := by
    unfold trimC
    rw [h1, List.reverse_append, List.dropWhile_append]
    have e : a.reverse.dropWhile lowC = a.reverse := drop_none (fun c hc => hl c (List.mem_reverse.1 hc))
    split
    · rename_i hh
      rw [List.isEmpty_iff] at hh
      rw [e, hh]
      simp
    · simp
  refine ⟨((b.reverse.dropWhile lowC).reverse).filter (fun c => !brkC c), ?_⟩
  unfold cleanL
  rw [h2, List.filter_append]
  congr 1
  rw [List.filter_eq_self]
  intro c hc
  have := plain_bd (ha c hc)
  unfold brkC
  have q : ∀ k : UInt8, k.toNat < 33 → (c == k) = false := fun k hk => by rw [beq_eq_false_iff_ne]; rintro rfl; omega
  rw [q 9 (by decide), q 10 (by decide), q 13 (by decide)]
  rfl

theorem valid_front {a : List UInt8} (ha : plainL a) (b : List UInt8) : Lib.validD (a ++ b) = Lib.validD b := by
  induction a with
  | nil => rfl
  | cons c t ih =>
    have := plain_bd (ha c (by simp))
    rw [List.cons_append, Lib.validD_cons c _ (by omega)]
    exact ih (fun x hx => ha x (by simp [hx]))

theorem org_more {u : UrlM} {n : Nat} (h : OShape u n) (hn : n ≤ 60000) (t : List UInt8) (ht : t.length ≤ 3000) (hv : Lib.validD t = true) : ∃ v, urlP (textS u ++ 47 :: t) = some v ∧ ofU v = ofU u := by
  obtain ⟨p1, p2, _⟩ := textS_plain h
  have p3 : plainL (textS u ++ [47]) := plain_app p1 (by unfold plainL; decide)
  obtain ⟨b, hb⟩ := clean_front p3 (by simp) t
  have e : textS u ++ 47 :: t = (textS u ++ [47]) ++ t := by simp
  refine ⟨tailP u.sch ⟨[], [], u.hos, u.prt⟩ (47 :: b), ?_, rfl⟩
  unfold urlP
  rw [e, valid_front p3, hb, if_pos ⟨by rw [List.length_append, List.length_append, List.length_cons, List.length_nil]; omega, hv⟩, List.append_assoc]
  exact org_body h (47 :: b) (.inr ⟨b, rfl⟩)

theorem org_bad (u : List UInt8) (hu : plainL u) (t : List UInt8) (hv : Lib.validD t = false) : urlP (u ++ t) = none := by
  unfold urlP
  rw [if_neg]
  rintro ⟨_, h⟩
  rw [valid_front hu, hv] at h
  exact absurd h (by decide)

def orgE (o : Option OrgM) : Int := if o.isSome then 0 else 8

def orgR (o : Option OrgM) : Value := .tuple #[orgV (o.getD orgZ), .int .i64 (orgE o)]

theorem url_short {s : List UInt8} {u : UrlM} (h : urlP s = some u) : s.length ≤ 65536 := by
  unfold urlP at h
  split at h
  · rename_i hc
    exact hc.1
  · exact absurd h (by simp)

set_option maxHeartbeats 2000000 in
theorem oparse_any (s : ByteArray) (hs : s.size ≤ 1073741824) (w : World) (hE : Env11 w) :
    Calls Tryz.prog 10 #[.string s] w fun e w' => e = .returned (orgR (parseO s.data.toList)) ∧ Below w.heap.size w w' := by
  have hz := zero_cells Tryz.infoOrg
  obtain ⟨R, hR⟩ : ∃ R, R = parseO s.data.toList := ⟨_, rfl⟩
  rw [← hR]
  have HB0 := Lib.hid (below_more (Below.refl _ w) (.cells #[.string ⟨#[]⟩, .string ⟨#[]⟩, .int .i64 0] 24))
  have HZ0 : Hid (Rw (w.alloc (.cells #[.string ⟨#[]⟩, .string ⟨#[]⟩, .int .i64 0] 24)) 0 w.heap.size 24 [.string ⟨#[]⟩, .string ⟨#[]⟩, .int .i64 0]) := Lib.hid (Rw.alloc w _ _ (Nat.zero_le _))
  have HE := Lib.hid hE
  by_cases hn : s.data.toList = nullL
  · have HRN : Hid (R = some orgZ) := Lib.hid (by rw [hR]; unfold parseO; rw [if_pos hn])
    have q : (s.toList == [110, 117, 108, 108]) = true := lit_yes hn
    clear hR hn hE
    go_enter Tryz.func10, Tryz.ntmps10
    go_wp2_with fail
    refine bodyPost_ret (v := .tuple #[orgV orgZ, .int .i64 0]) ?_ rfl ?_
    case refine_2 => rw [HRN.out]; exact ⟨rfl, HB0.out⟩
    exact results_row_tmp rfl _ _ w.heap.size 0 24 [.string ⟨#[]⟩, .string ⟨#[]⟩, .int .i64 0] _ rfl HZ0.out Tryz.underlying24 rfl Tryz.sizeOrg (.int .i64 0) rfl
  have q : (s.toList == [110, 117, 108, 108]) = false := lit_no hn
  have HP := Lib.hid (uparse_any s hs _ (env_below hE HB0.out))
  obtain ⟨o, ho⟩ : ∃ o, o = urlP s.data.toList := ⟨_, rfl⟩
  rw [← ho] at HP
  cases o with
  | none =>
    have HRN : Hid (R = none) := Lib.hid (by rw [hR]; unfold parseO; rw [if_neg hn, ← ho]; rfl)
    have HP2 : Hid (Calls Tryz.prog 18 #[.string s] (w.alloc (.cells #[.string ⟨#[]⟩, .string ⟨#[]⟩, .int .i64 0] 24)) fun e w' => e = .returned (.tuple #[.agg #[.string ⟨#[]⟩, .string ⟨#[]⟩, .string ⟨#[]⟩, .string ⟨#[]⟩, .int .i64 0, .string ⟨#[]⟩, .bool false, .string ⟨#[]⟩, .bool false, .string ⟨#[]⟩], .int .i64 8]) ∧ Below (w.alloc (.cells #[.string ⟨#[]⟩, .string ⟨#[]⟩, .int .i64 0] 24)).heap.size (w.alloc (.cells #[.string ⟨#[]⟩, .string ⟨#[]⟩, .int .i64 0] 24)) w') := HP
    clear hR hn hE HP ho
    go_enter Tryz.func10, Tryz.ntmps10
    go_wp2_with fail
    refine HP2.out.mono ?_
    rintro e w1 ⟨rfl, hb1⟩
    have HB1 := Lib.hid (below_more (below_then HB0.out hb1) (.cells #[.string ⟨#[]⟩, .string ⟨#[]⟩, .string ⟨#[]⟩, .string ⟨#[]⟩, .int .i64 0, .string ⟨#[]⟩, .bool false, .string ⟨#[]⟩, .bool false, .string ⟨#[]⟩] 32))
    have HZ1 := Lib.hid (Rw.more (Rw.below HZ0.out hb1) (.cells #[.string ⟨#[]⟩, .string ⟨#[]⟩, .string ⟨#[]⟩, .string ⟨#[]⟩, .int .i64 0, .string ⟨#[]⟩, .bool false, .string ⟨#[]⟩, .bool false, .string ⟨#[]⟩] 32))
    clear hb1
    have c0 := Rw.cell HZ1.out (j := 0) rfl
    have c1 := Rw.cell HZ1.out (j := 1) rfl
    have c2 := Rw.cell HZ1.out (j := 2) rfl
    have f0 := Rw.free HZ1.out 0
    have f1 := Rw.free HZ1.out 1
    have f2 := Rw.free HZ1.out 2
    go_wp2_with fail
    have HW := Rw.storedAll HZ1.out [.string ⟨#[]⟩, .string ⟨#[]⟩, .int .i64 0] rfl
    refine bodyPost_ret (v := .tuple #[.agg ([.string ⟨#[]⟩, .string ⟨#[]⟩, .int .i64 0] : List Value).toArray, .int .i64 8]) ?_ rfl ?_
    case refine_2 => rw [HRN.out]; exact ⟨rfl, below_stores HB1.out (Nat.le_refl _) [.string ⟨#[]⟩, .string ⟨#[]⟩, .int .i64 0]⟩
    exact results_row_tmp rfl _ _ w.heap.size 0 24 [.string ⟨#[]⟩, .string ⟨#[]⟩, .int .i64 0] _ rfl HW Tryz.underlying24 rfl Tryz.sizeOrg (.int .i64 8) rfl
  | some u =>
    have hsh := org_shape ho.symm
    have hsl : s.data.toList.length ≤ 1073741824 := by rw [size_data]; exact hs
    have HP2 : Hid (Calls Tryz.prog 18 #[.string s] (w.alloc (.cells #[.string ⟨#[]⟩, .string ⟨#[]⟩, .int .i64 0] 24)) fun e w' => e = .returned (parsedV u 0) ∧ Below (w.alloc (.cells #[.string ⟨#[]⟩, .string ⟨#[]⟩, .int .i64 0] 24)).heap.size (w.alloc (.cells #[.string ⟨#[]⟩, .string ⟨#[]⟩, .int .i64 0] 24)) w') := HP
    have hR2 : R = if textO (ofU u) = s.data.toList then some (ofU u) else none := by rw [hR]; unfold parseO; rw [if_neg hn, ← ho]; rfl
    have hofs : ofU u = ⟨u.sch, u.hos, pU u.sch u.prt⟩ := rfl
    have hpb : -9223372036854775808 ≤ pU u.sch u.prt ∧ pU u.sch u.prt ≤ 9223372036854775807 := by
      have := def_bd u.sch
      unfold pU
      rcases hsh.oprt with hp | ⟨h1, h2, _⟩
      · rw [if_pos hp]; omega
      · rw [if_neg (by omega)]; omega
    have hsz : u.sch.length ≤ 1073741824 ∧ u.hos.length ≤ 1073741824 + 16 := by
      obtain ⟨_, _, _, s4⟩ := scheme_fact hsh.osch
      have := hsh.ohos.2.2.2.2
      omega
    have hsz2 : u.hos.length ≤ 65552 := by
      have h1 := hsh.ohos.2.2.2.2
      have h2 := url_short ho.symm
      omega
    obtain ⟨pt, hpt⟩ : ∃ pt, pt = u.prt := ⟨_, rfl⟩
    obtain ⟨hq, hhq⟩ : ∃ hq, hq = u.hq := ⟨_, rfl⟩
    obtain ⟨hf, hhf⟩ : ∃ hf, hf = u.hf := ⟨_, rfl⟩
    obtain ⟨S, hS⟩ : ∃ S : ByteArray, S = ⟨u.sch.toArray⟩ := ⟨_, rfl⟩
    obtain ⟨U, hU⟩ : ∃ U : ByteArray, U = ⟨u.usr.toArray⟩ := ⟨_, rfl⟩
    obtain ⟨P, hP⟩ : ∃ P : ByteArray, P = ⟨u.pas.toArray⟩ := ⟨_, rfl⟩
    obtain ⟨H, hH⟩ : ∃ H : ByteArray, H = ⟨u.hos.toArray⟩ := ⟨_, rfl⟩
    obtain ⟨T, hT⟩ : ∃ T : ByteArray, T = ⟨u.pth.toArray⟩ := ⟨_, rfl⟩
    obtain ⟨Q, hQ⟩ : ∃ Q : ByteArray, Q = ⟨u.qry.toArray⟩ := ⟨_, rfl⟩
    obtain ⟨F, hF⟩ : ∃ F : ByteArray, F = ⟨u.frg.toArray⟩ := ⟨_, rfl⟩
    have HO : Hid (∀ W, Calls Tryz.prog 16 #[.agg #[.string S, .string U, .string P, .string H, .int .i64 pt, .string T, .bool hq, .string Q, .bool hf, .string F]] W fun e w' => e = .returned (.agg #[.string S, .string H, .int .i64 (pU S.data.toList pt)]) ∧ Below W.heap.size W w') := Lib.hid (fun W => oOf_any S U P H T Q F pt hq hf W)
    obtain ⟨p, hp⟩ : ∃ p, p = pU S.data.toList pt := ⟨_, rfl⟩
    rw [← hp] at HO
    have hp2 : p = pU u.sch u.prt := by rw [hp, hS, hpt]
    obtain ⟨X, hX⟩ : ∃ X : ByteArray, X = ⟨(textO (ofU u)).toArray⟩ := ⟨_, rfl⟩
    have HTX : Hid (∀ W, Env11 W → Calls Tryz.prog 14 #[.agg #[.string S, .string H, .int .i64 p]] W fun e w' => e = .returned (.string X) ∧ Below W.heap.size W w') := Lib.hid (by
      intro W hW
      rw [hX, hofs, hp2, hS, hH]
      exact otext_any ⟨u.sch.toArray⟩ ⟨u.hos.toArray⟩ (pU u.sch u.prt) hsz.1 (by rw [mk_size]; omega) hpb W hW.2.1)
    obtain ⟨b, hb⟩ : ∃ b, b = decide (textO (ofU u) = s.data.toList) := ⟨_, rfl⟩
    have qx : (X.toList == s.toList) = b := by
      rw [hb, ByteArray.toList_eq, ByteArray.toList_eq, hX, Bool.eq_iff_iff]
      simp
    have HRb : Hid ((b = true → R = some ⟨S.data.toList, H.data.toList, p⟩) ∧ (b = false → R = none)) := Lib.hid (by
      rw [hR2, hb]
      refine ⟨fun h => ?_, fun h => ?_⟩
      · rw [if_pos (of_decide_eq_true h), hofs, hS, hH, hp2]
      · rw [if_neg (of_decide_eq_false h)])
    unfold parsedV at HP2
    rw [← hS, ← hU, ← hP, ← hH, ← hT, ← hQ, ← hF, ← hpt, ← hhq, ← hhf] at HP2
    clear hpt hhq hhf hS hU hP hH hT hQ hF hp hp2 hX hb hR hR2 hofs hpb hsz hsz2 hsl hsh ho hn hE HP
    cases b
    all_goals
      go_enter Tryz.func10, Tryz.ntmps10
      go_wp2_with fail
      refine HP2.out.mono ?_
      rintro e w1 ⟨rfl, hb1⟩
      have HB1 := Lib.hid (below_more (below_then HB0.out hb1) (.cells #[.string S, .string U, .string P, .string H, .int .i64 pt, .string T, .bool hq, .string Q, .bool hf, .string F] 32))
      have HZ1 := Lib.hid (Rw.more (Rw.below HZ0.out hb1) (.cells #[.string S, .string U, .string P, .string H, .int .i64 pt, .string T, .bool hq, .string Q, .bool hf, .string F] 32))
      have HU1 : Hid (Rw (w1.alloc (.cells #[.string S, .string U, .string P, .string H, .int .i64 pt, .string T, .bool hq, .string Q, .bool hf, .string F] 32)) 0 w1.heap.size 32 [.string S, .string U, .string P, .string H, .int .i64 pt, .string T, .bool hq, .string Q, .bool hf, .string F]) := Lib.hid (Rw.alloc w1 _ _ (Nat.zero_le _))
      clear hb1
      have k0 := Rw.cell HU1.out (j := 0) rfl
      have k1 := Rw.cell HU1.out (j := 1) rfl
      have k2 := Rw.cell HU1.out (j := 2) rfl
      have k3 := Rw.cell HU1.out (j := 3) rfl
      have k4 := Rw.cell HU1.out (j := 4) rfl
      have k5 := Rw.cell HU1.out (j := 5) rfl
      have k6 := Rw.cell HU1.out (j := 6) rfl
      have k7 := Rw.cell HU1.out (j := 7) rfl
      have k8 := Rw.cell HU1.out (j := 8) rfl
      have k9 := Rw.cell HU1.out (j := 9) rfl
      go_wp2_with fail
      refine (HO.out _).mono ?_
      rintro e w2 ⟨rfl, hb2⟩
      have HB2 := Lib.hid (below_more (below_then HB1.out hb2) (.cells #[.string S, .string H, .int .i64 p] 24))
      have HZ2 := Lib.hid (Rw.more (Rw.below HZ1.out hb2) (.cells #[.string S, .string H, .int .i64 p] 24))
      have HO2 : Hid (Rw (w2.alloc (.cells #[.string S, .string H, .int .i64 p] 24)) 0 w2.heap.size 24 [.string S, .string H, .int .i64 p]) := Lib.hid (Rw.alloc w2 _ _ (Nat.zero_le _))
      clear hb2 k0 k1 k2 k3 k4 k5 k6 k7 k8 k9
      have k0 := Rw.cell HO2.out (j := 0) rfl
      have k1 := Rw.cell HO2.out (j := 1) rfl
      have k2 := Rw.cell HO2.out (j := 2) rfl
      go_wp2_with fail
      refine (HTX.out _ (env_below HE.out HB2.out)).mono ?_
      rintro e w3 ⟨rfl, hb3⟩
      have HB3 := Lib.hid (below_then HB2.out hb3)
      have HZ3 := Lib.hid (Rw.below HZ2.out hb3)
      have HO3 := Lib.hid (Rw.below HO2.out hb3)
      clear hb3 k0 k1 k2
      have k0 := Rw.cell HO3.out (j := 0) rfl
      have k1 := Rw.cell HO3.out (j := 1) rfl
      have k2 := Rw.cell HO3.out (j := 2) rfl
      have c0 := Rw.cell HZ3.out (j := 0) rfl
      have c1 := Rw.cell HZ3.out (j := 1) rfl
      have c2 := Rw.cell HZ3.out (j := 2) rfl
      have f0 := Rw.free HZ3.out 0
      have f1 := Rw.free HZ3.out 1
      have f2 := Rw.free HZ3.out 2
      go_wp2_with fail
      first
      | (have HW := Rw.storedAll HZ3.out [.string ⟨#[]⟩, .string ⟨#[]⟩, .int .i64 0] rfl
         refine bodyPost_ret (v := .tuple #[.agg ([.string ⟨#[]⟩, .string ⟨#[]⟩, .int .i64 0] : List Value).toArray, .int .i64 8]) ?_ rfl ?_
         case refine_2 => rw [HRb.out.2 (by simp)]; exact ⟨rfl, below_stores HB3.out (Nat.le_refl _) [.string ⟨#[]⟩, .string ⟨#[]⟩, .int .i64 0]⟩
         exact results_row_tmp rfl _ _ w.heap.size 0 24 [.string ⟨#[]⟩, .string ⟨#[]⟩, .int .i64 0] _ rfl HW Tryz.underlying24 rfl Tryz.sizeOrg (.int .i64 8) rfl)
      | (have HW := Rw.storedAll HZ3.out [.string S, .string H, .int .i64 p] rfl
         refine bodyPost_ret (v := .tuple #[.agg ([.string S, .string H, .int .i64 p] : List Value).toArray, .int .i64 0]) ?_ rfl ?_
         case refine_2 => rw [HRb.out.1 (by simp)]; exact ⟨rfl, below_stores HB3.out (Nat.le_refl _) [.string S, .string H, .int .i64 p]⟩
         exact results_row_tmp rfl _ _ w.heap.size 0 24 [.string S, .string H, .int .i64 p] _ rfl HW Tryz.underlying24 rfl Tryz.sizeOrg (.int .i64 0) rfl)

def oofR (o : Option UrlM) : Value := .tuple #[orgV ((o.map ofU).getD orgZ), .bool o.isSome]

set_option maxHeartbeats 2000000 in
theorem oof_any (s : ByteArray) (hs : s.size ≤ 1073741824) (w : World) (hE : Env11 w) :
    Calls Tryz.prog 26 #[.string s] w fun e w' => e = .returned (oofR (urlP s.data.toList)) ∧ Below w.heap.size w w' := by
  have hz := zero_cells Tryz.infoOrg
  obtain ⟨o, ho⟩ : ∃ o, o = urlP s.data.toList := ⟨_, rfl⟩
  have HB0 := Lib.hid (below_more (Below.refl _ w) (.cells #[.string ⟨#[]⟩, .string ⟨#[]⟩, .int .i64 0] 24))
  have HZ0 : Hid (Rw (w.alloc (.cells #[.string ⟨#[]⟩, .string ⟨#[]⟩, .int .i64 0] 24)) 0 w.heap.size 24 [.string ⟨#[]⟩, .string ⟨#[]⟩, .int .i64 0]) := Lib.hid (Rw.alloc w _ _ (Nat.zero_le _))
  have HP := uparse_any s hs _ (env_below hE HB0.out)
  rw [parsed_eq, ← ho] at HP
  rw [← ho]
  obtain ⟨u, hu⟩ : ∃ u, u = o.getD urlZ := ⟨_, rfl⟩
  have hR : oofR o = .tuple #[.agg #[strL u.sch, strL u.hos, .int .i64 (pU u.sch u.prt)], .bool (urlE o == 0)] := by
    rw [hu]
    cases o <;> rfl
  rw [hR]
  rw [← hu] at HP
  obtain ⟨n, hn⟩ : ∃ n, n = urlE o := ⟨_, rfl⟩
  rw [← hn] at HP ⊢
  clear hu hn hR ho
  obtain ⟨pt, hpt⟩ : ∃ pt, pt = u.prt := ⟨_, rfl⟩
  obtain ⟨hq, hhq⟩ : ∃ hq, hq = u.hq := ⟨_, rfl⟩
  obtain ⟨hf, hhf⟩ : ∃ hf, hf = u.hf := ⟨_, rfl⟩
  obtain ⟨S, hS⟩ : ∃ S : ByteArray, S = ⟨u.sch.toArray⟩ := ⟨_, rfl⟩
  obtain ⟨U, hU⟩ : ∃ U : ByteArray, U = ⟨u.usr.toArray⟩ := ⟨_, rfl⟩
  obtain ⟨P, hP⟩ : ∃ P : ByteArray, P = ⟨u.pas.toArray⟩ := ⟨_, rfl⟩
  obtain ⟨H, hH⟩ : ∃ H : ByteArray, H = ⟨u.hos.toArray⟩ := ⟨_, rfl⟩
  obtain ⟨T, hT⟩ : ∃ T : ByteArray, T = ⟨u.pth.toArray⟩ := ⟨_, rfl⟩
  obtain ⟨Q, hQ⟩ : ∃ Q : ByteArray, Q = ⟨u.qry.toArray⟩ := ⟨_, rfl⟩
  obtain ⟨F, hF⟩ : ∃ F : ByteArray, F = ⟨u.frg.toArray⟩ := ⟨_, rfl⟩
  unfold parsedV at HP
  rw [← hS, ← hU, ← hP, ← hH, ← hT, ← hQ, ← hF, ← hpt, ← hhq, ← hhf] at HP
  have HO : Hid (∀ W, Calls Tryz.prog 16 #[.agg #[.string S, .string U, .string P, .string H, .int .i64 pt, .string T, .bool hq, .string Q, .bool hf, .string F]] W fun e w' => e = .returned (.agg #[.string S, .string H, .int .i64 (pU S.data.toList pt)]) ∧ Below W.heap.size W w') := Lib.hid (fun W => oOf_any S U P H T Q F pt hq hf W)
  obtain ⟨p, hp⟩ : ∃ p, p = pU S.data.toList pt := ⟨_, rfl⟩
  rw [← hp] at HO
  have hV : Value.agg #[strL u.sch, strL u.hos, .int .i64 (pU u.sch u.prt)] = .agg ([.string S, .string H, .int .i64 p] : List Value).toArray := by rw [hp, hS, hH, hpt]; rfl
  have HV := Lib.hid hV
  have HP2 := Lib.hid HP
  clear hpt hhq hhf hS hU hP hH hT hQ hF hp hV hE HP
  go_enter Tryz.func26, Tryz.ntmps26
  go_wp2_with fail
  refine HP2.out.mono ?_
  rintro e w1 ⟨rfl, hb1⟩
  have HB1 := Lib.hid (below_more (below_then HB0.out hb1) (.cells #[.string S, .string U, .string P, .string H, .int .i64 pt, .string T, .bool hq, .string Q, .bool hf, .string F] 32))
  have HZ1 := Lib.hid (Rw.more (Rw.below HZ0.out hb1) (.cells #[.string S, .string U, .string P, .string H, .int .i64 pt, .string T, .bool hq, .string Q, .bool hf, .string F] 32))
  have HU1 : Hid (Rw (w1.alloc (.cells #[.string S, .string U, .string P, .string H, .int .i64 pt, .string T, .bool hq, .string Q, .bool hf, .string F] 32)) 0 w1.heap.size 32 [.string S, .string U, .string P, .string H, .int .i64 pt, .string T, .bool hq, .string Q, .bool hf, .string F]) := Lib.hid (Rw.alloc w1 _ _ (Nat.zero_le _))
  clear hb1
  have k0 := Rw.cell HU1.out (j := 0) rfl
  have k1 := Rw.cell HU1.out (j := 1) rfl
  have k2 := Rw.cell HU1.out (j := 2) rfl
  have k3 := Rw.cell HU1.out (j := 3) rfl
  have k4 := Rw.cell HU1.out (j := 4) rfl
  have k5 := Rw.cell HU1.out (j := 5) rfl
  have k6 := Rw.cell HU1.out (j := 6) rfl
  have k7 := Rw.cell HU1.out (j := 7) rfl
  have k8 := Rw.cell HU1.out (j := 8) rfl
  have k9 := Rw.cell HU1.out (j := 9) rfl
  go_wp2_with fail
  refine (HO.out _).mono ?_
  rintro e w2 ⟨rfl, hb2⟩
  have HB2 := Lib.hid (below_then HB1.out hb2)
  have HZ2 := Lib.hid (Rw.below HZ1.out hb2)
  clear hb2
  have c0 := Rw.cell HZ2.out (j := 0) rfl
  have c1 := Rw.cell HZ2.out (j := 1) rfl
  have c2 := Rw.cell HZ2.out (j := 2) rfl
  have f0 := Rw.free HZ2.out 0
  have f1 := Rw.free HZ2.out 1
  have f2 := Rw.free HZ2.out 2
  go_wp2_with fail
  have HW := Rw.storedAll HZ2.out [.string S, .string H, .int .i64 p] rfl
  refine bodyPost_ret (v := .tuple #[.agg ([.string S, .string H, .int .i64 p] : List Value).toArray, .bool (n == 0)]) ?_ rfl ?_
  case refine_2 => rw [HV.out]; exact ⟨rfl, below_stores HB2.out (Nat.le_refl _) [.string S, .string H, .int .i64 p]⟩
  exact results_row_tmp rfl _ _ w.heap.size 0 24 [.string S, .string H, .int .i64 p] _ rfl HW Tryz.underlying24 rfl Tryz.sizeOrg (.bool (n == 0)) rfl

def oaA : List UInt8 := [104, 116, 116, 112, 115, 58, 47, 47, 97, 58, 52, 52, 51, 47, 120]

def oaB : List UInt8 := [104, 116, 116, 112, 58, 47, 47, 49, 50, 55, 46, 57, 46, 57, 46, 57]

theorem oa_a : (bodyP oaA).map ofU = some ⟨[104, 116, 116, 112, 115], [97], 443⟩ := by kernel_rfl

theorem oa_b : (bodyP oaB).map ofU = some ⟨[104, 116, 116, 112], [49, 50, 55, 46, 57, 46, 57, 46, 57], 80⟩ := by kernel_rfl

theorem oa_t : textO ⟨[104, 116, 116, 112, 115], [97], 443⟩ = [104, 116, 116, 112, 115, 58, 47, 47, 97] := by kernel_rfl

theorem oa_n : textO ⟨[], [], 0⟩ = nullL := by kernel_rfl

theorem oa_r : trustO ⟨[104, 116, 116, 112], [49, 50, 55, 46, 57, 46, 57, 46, 57], 80⟩ = true := by kernel_rfl

set_option maxHeartbeats 2000000 in
theorem oawake_any (w : World) (hE : Env11 w) : Calls Tryz.prog 9 #[] w fun e w' => e = .returned (.bool true) ∧ Below w.heap.size w w' := by
  have HA : Hid (∀ W, Env11 W → Calls Tryz.prog 26 #[.string ⟨#[104, 116, 116, 112, 115, 58, 47, 47, 97, 58, 52, 52, 51, 47, 120]⟩] W fun e w' => e = .returned (.tuple #[.agg #[.string ⟨#[104, 116, 116, 112, 115]⟩, .string ⟨#[97]⟩, .int .i64 443], .bool true]) ∧ Below W.heap.size W w') := Lib.hid (by
    intro W hW
    refine (oof_any ⟨oaA.toArray⟩ (by decide) W hW).mono ?_
    rintro e w' ⟨rfl, hb⟩
    refine ⟨?_, hb⟩
    have e1 : (urlP (⟨oaA.toArray⟩ : ByteArray).data.toList).map ofU = some ⟨[104, 116, 116, 112, 115], [97], 443⟩ := by
      show (urlP oaA).map ofU = _
      rw [url_plain (by unfold plainL; decide) (by decide), oa_a]
    unfold oofR
    rw [← Option.isSome_map (f := ofU), e1]
    rfl)
  have HB : Hid (∀ W, Env11 W → Calls Tryz.prog 26 #[.string ⟨#[104, 116, 116, 112, 58, 47, 47, 49, 50, 55, 46, 57, 46, 57, 46, 57]⟩] W fun e w' => e = .returned (.tuple #[.agg #[.string ⟨#[104, 116, 116, 112]⟩, .string ⟨#[49, 50, 55, 46, 57, 46, 57, 46, 57]⟩, .int .i64 80], .bool true]) ∧ Below W.heap.size W w') := Lib.hid (by
    intro W hW
    refine (oof_any ⟨oaB.toArray⟩ (by decide) W hW).mono ?_
    rintro e w' ⟨rfl, hb⟩
    refine ⟨?_, hb⟩
    have e1 : (urlP (⟨oaB.toArray⟩ : ByteArray).data.toList).map ofU = some ⟨[104, 116, 116, 112], [49, 50, 55, 46, 57, 46, 57, 46, 57], 80⟩ := by
      show (urlP oaB).map ofU = _
      rw [url_plain (by unfold plainL; decide) (by decide), oa_b]
    unfold oofR
    rw [← Option.isSome_map (f := ofU), e1]
    rfl)
  have HT1 : Hid (∀ W, Env11 W → Calls Tryz.prog 14 #[.agg #[.string ⟨#[104, 116, 116, 112, 115]⟩, .string ⟨#[97]⟩, .int .i64 443]] W fun e w' => e = .returned (.string ⟨#[104, 116, 116, 112, 115, 58, 47, 47, 97]⟩) ∧ Below W.heap.size W w') := Lib.hid (by
    intro W hW
    refine (otext_any ⟨#[104, 116, 116, 112, 115]⟩ ⟨#[97]⟩ 443 (by decide) (by decide) (by decide) W hW.2.1).mono ?_
    rintro e w' ⟨rfl, hb⟩
    refine ⟨?_, hb⟩
    show Ending.returned (strL (textO ⟨[104, 116, 116, 112, 115], [97], 443⟩)) = _
    rw [oa_t]
    rfl)
  have HT2 : Hid (∀ W, Env11 W → Calls Tryz.prog 14 #[.agg #[.string ⟨#[]⟩, .string ⟨#[]⟩, .int .i64 0]] W fun e w' => e = .returned (.string ⟨#[110, 117, 108, 108]⟩) ∧ Below W.heap.size W w') := Lib.hid (by
    intro W hW
    refine (otext_any ⟨#[]⟩ ⟨#[]⟩ 0 (by decide) (by decide) (by decide) W hW.2.1).mono ?_
    rintro e w' ⟨rfl, hb⟩
    refine ⟨?_, hb⟩
    show Ending.returned (strL (textO ⟨[], [], 0⟩)) = _
    rw [oa_n]
    rfl)
  have HTR : Hid (∀ W, Env11 W → Calls Tryz.prog 22 #[.agg #[.string ⟨#[104, 116, 116, 112]⟩, .string ⟨#[49, 50, 55, 46, 57, 46, 57, 46, 57]⟩, .int .i64 80]] W fun e w' => e = .returned (.bool true) ∧ Below W.heap.size W w') := Lib.hid (by
    intro W hW
    refine (otrusted_any ⟨#[104, 116, 116, 112]⟩ ⟨#[49, 50, 55, 46, 57, 46, 57, 46, 57]⟩ 80 (by decide) W hW.2.1).mono ?_
    rintro e w' ⟨rfl, hb⟩
    refine ⟨?_, hb⟩
    show Ending.returned (Value.bool (trustO ⟨[104, 116, 116, 112], [49, 50, 55, 46, 57, 46, 57, 46, 57], 80⟩)) = _
    rw [oa_r])
  have HE := Lib.hid hE
  clear hE
  go_enter Tryz.func9, Tryz.ntmps9
  go_wp2_with fail
  refine (HA.out w HE.out).mono ?_
  rintro e w1 ⟨rfl, hb1⟩
  have HB1 := Lib.hid (below_more hb1 (.cells #[.string ⟨#[104, 116, 116, 112, 115]⟩, .string ⟨#[97]⟩, .int .i64 443] 24))
  have HR1 : Hid (Rw (w1.alloc (.cells #[.string ⟨#[104, 116, 116, 112, 115]⟩, .string ⟨#[97]⟩, .int .i64 443] 24)) 0 w1.heap.size 24 [.string ⟨#[104, 116, 116, 112, 115]⟩, .string ⟨#[97]⟩, .int .i64 443]) := Lib.hid (Rw.alloc w1 _ _ (Nat.zero_le _))
  clear hb1
  go_wp2_with fail
  refine (HB.out _ (env_below HE.out HB1.out)).mono ?_
  rintro e w2 ⟨rfl, hb2⟩
  have HB2 := Lib.hid (below_more (below_then HB1.out hb2) (.cells #[.string ⟨#[104, 116, 116, 112]⟩, .string ⟨#[49, 50, 55, 46, 57, 46, 57, 46, 57]⟩, .int .i64 80] 24))
  have HR2 := Lib.hid (Rw.more (Rw.below HR1.out hb2) (.cells #[.string ⟨#[104, 116, 116, 112]⟩, .string ⟨#[49, 50, 55, 46, 57, 46, 57, 46, 57]⟩, .int .i64 80] 24))
  have HQ2 : Hid (Rw (w2.alloc (.cells #[.string ⟨#[104, 116, 116, 112]⟩, .string ⟨#[49, 50, 55, 46, 57, 46, 57, 46, 57]⟩, .int .i64 80] 24)) 0 w2.heap.size 24 [.string ⟨#[104, 116, 116, 112]⟩, .string ⟨#[49, 50, 55, 46, 57, 46, 57, 46, 57]⟩, .int .i64 80]) := Lib.hid (Rw.alloc w2 _ _ (Nat.zero_le _))
  clear hb2
  have ka0 := Rw.cell HR2.out (j := 0) rfl
  have ka1 := Rw.cell HR2.out (j := 1) rfl
  have ka2 := Rw.cell HR2.out (j := 2) rfl
  have kb0 := Rw.cell HQ2.out (j := 0) rfl
  have kb1 := Rw.cell HQ2.out (j := 1) rfl
  have kb2 := Rw.cell HQ2.out (j := 2) rfl
  go_wp2_with fail
  refine (HT1.out _ (env_below HE.out HB2.out)).mono ?_
  rintro e w3 ⟨rfl, hb3⟩
  have HB3 := Lib.hid (below_then HB2.out hb3)
  have HQ3 := Lib.hid (Rw.below HQ2.out hb3)
  clear hb3 ka0 ka1 ka2 kb0 kb1 kb2
  have kc0 := Rw.cell HQ3.out (j := 0) rfl
  have kc1 := Rw.cell HQ3.out (j := 1) rfl
  have kc2 := Rw.cell HQ3.out (j := 2) rfl
  go_wp2_with fail
  refine (HTR.out _ (env_below HE.out HB3.out)).mono ?_
  rintro e w4 ⟨rfl, hb4⟩
  have HB4 := Lib.hid (below_then HB3.out hb4)
  clear hb4 kc0 kc1 kc2
  go_wp2_with fail
  refine (HT2.out _ (env_below HE.out HB4.out)).mono ?_
  rintro e w5 ⟨rfl, hb5⟩
  have HB5 := Lib.hid (below_then HB4.out hb5)
  clear hb5
  go_wp2_with fail
  go_ret
  exact ⟨rfl, HB5.out⟩

end Go.Proofs.YtaopofjcbpefoaaGreatDoor
