/- Contracts: msg: Decode. -/
import Derived.BigRegion
import Derived.Deep.RegionHeld3
import Derived.Test.YtpbdilbimpnmjaaProg
import Derived.Test.YtpbdilbimpnmjaaKit
import Derived.Test.YtpbdilbimpnmjaaRow
import Derived.Test.YtpbdilbimpnmjaaCod7
import Derived.Test.YtpbdilbimpnmjaaCod9
import Derived.Test.YtpbdilbimpnmjaaTxt2
import Derived.Test.YtpbdilbimpnmjaaFrm6
import Derived.Test.YtpbdilbimpnmjaaFp
import Derived.Test.YtpbdilbimpnmjaaKp0
import Derived.Test.YtpbdilbimpnmjaaMg0
import Derived.Test.YtpbdilbimpnmjaaMg5
import Derived.Test.YtpbdilbimpnmjaaMd1
import Derived.Test.YtpbdilbimpnmjaaMd6
import Derived.Test.YtpbdilbimpnmjaaMd7
namespace Go.Proofs.Ytpbdilbimpnmjaa
open Go.RowKit Go.Proofs

set_option maxRecDepth 100000 in
set_option maxHeartbeats 8000000 in
theorem decode_any {w : World} {v : Value} {l : List UInt8} (h : ByteSl w w.heap.size v l) :
    Calls Try.prog 12 #[v] w fun e w' => DecV w w' e l := by
  have hz := zero_cells Try.infoMsg
  obtain ⟨ba, bc, rfl, _⟩ := byteSl_len h
  obtain ⟨LB, hLB⟩ : ∃ LB, LB = l.length := ⟨_, rfl⟩
  rw [← hLB] at h ⊢
  have hb1 := below_more (Below.refl _ w) (.cells #[.int .i64 0, .int .i64 0, .int .i64 0, .int .i64 0, .int .i64 0, .int .i64 0, .int .i64 0, .bool false, .slice none 0 0, .int .i64 0, .int .i64 0, .slice none 0 0, .string ⟨#[]⟩] 27)
  have hb2 := below_more hb1 (.cells #[.slice ba LB bc, .bool false] 59)
  have hrR : Rw ((w.alloc (.cells #[.int .i64 0, .int .i64 0, .int .i64 0, .int .i64 0, .int .i64 0, .int .i64 0, .int .i64 0, .bool false, .slice none 0 0, .int .i64 0, .int .i64 0, .slice none 0 0, .string ⟨#[]⟩] 27)).alloc (.cells #[.slice ba LB bc, .bool false] 59)) 0 w.heap.size 27 [.int .i64 0, .int .i64 0, .int .i64 0, .int .i64 0, .int .i64 0, .int .i64 0, .int .i64 0, .bool false, .slice none 0 0, .int .i64 0, .int .i64 0, .slice none 0 0, .string ⟨#[]⟩] := Rw.more (Rw.alloc w _ _ (Nat.zero_le _)) _
  have hrd : RdAt ((w.alloc (.cells #[.int .i64 0, .int .i64 0, .int .i64 0, .int .i64 0, .int .i64 0, .int .i64 0, .int .i64 0, .bool false, .slice none 0 0, .int .i64 0, .int .i64 0, .slice none 0 0, .string ⟨#[]⟩] 27)).alloc (.cells #[.slice ba LB bc, .bool false] 59)) w.heap.size (w.heap.size + 1) (l, false) := by
    refine ⟨by omega, .slice ba LB bc, ?_, bySl_below (bySl_of h) hb2⟩
    have := Rw.alloc (w.alloc (.cells #[.int .i64 0, .int .i64 0, .int .i64 0, .int .i64 0, .int .i64 0, .int .i64 0, .int .i64 0, .bool false, .slice none 0 0, .int .i64 0, .int .i64 0, .slice none 0 0, .string ⟨#[]⟩] 27)) 59 #[.slice ba LB bc, .bool false] (Nat.zero_le _)
    simpa using this
  have HMS := Lib.hid (rmessage_any hrd)
  have HRR := Lib.hid hrR
  have HB2 := Lib.hid hb2
  have HNO : Hid (∀ w', (msgR (l, false)).2.2 = true ∨ 0 < (msgR (l, false)).2.1.length ∨ okMB (msgR (l, false)).1 = false → Below w.heap.size w w' → DecV w w' (.returned (.tuple #[.agg #[.int .i64 0, .int .i64 0, .int .i64 0, .int .i64 0, .int .i64 0, .int .i64 0, .int .i64 0, .bool false, .slice none 0 0, .int .i64 0, .int .i64 0, .slice none 0 0, .string ⟨#[]⟩], .int .i64 7])) l) := Lib.hid (fun w' h1 h2 => decV_no (goodR_not h1) h2)
  have HYE : Hid (∀ w' ev mv, (msgR (l, false)).2.2 = false → (msgR (l, false)).2.1.length = 0 → okMB (msgR (l, false)).1 = true → MsgOwn w' ev mv (msgR (l, false)).1 → Below w.heap.size w w' → DecV w w' (.returned (.tuple #[msgV (msgR (l, false)).1 ev mv, .int .i64 0])) l) := Lib.hid (fun w' ev mv h1 h2 h3 h4 h5 => by
    obtain ⟨_, e2, e3⟩ := goodR_yes h1 h2 h3
    exact ⟨ev, mv, by rw [e2, e3], by rw [e2]; exact h4, h5⟩)
  obtain ⟨q, hq⟩ : ∃ q, q = msgR (l, false) := ⟨_, rfl⟩
  rw [← hq] at HMS HNO HYE
  obtain ⟨m, rl, rbad⟩ := q
  dsimp only at HMS HNO HYE
  clear h hLB hb1 hb2 hrR hrd hq
  go_enter Try.func12, Try.ntmps12
  go_wp2_with (first | (refine wpList_alloc_z rfl 27 rfl #[.int .i64 0, .int .i64 0, .int .i64 0, .int .i64 0, .int .i64 0, .int .i64 0, .int .i64 0, .bool false, .slice none 0 0, .int .i64 0, .int .i64 0, .slice none 0 0, .string ⟨#[]⟩] hz ?_) | fail)
  refine (HMS.out).mono ?_
  rintro e w3 ⟨ev, mv, rfl, hown, hrd3, hk3⟩
  dsimp only at hown hrd3 ⊢
  obtain ⟨ea, ec, rfl, _⟩ := id (msgOwn_at hown).1
  obtain ⟨ma, mc, rfl⟩ := intsAt_len (msgOwn_at hown).2.2
  obtain ⟨n, hn⟩ : ∃ n, n = m.es.length := ⟨_, rfl⟩
  obtain ⟨M, hM⟩ : ∃ M, M = m.sn.ms.length := ⟨_, rfl⟩
  rw [← hn, ← hM] at hown ⊢
  have hrr3 := rw_kept HRR.out hk3 (by omega)
  have hb3 : Below w.heap.size w w3 := below_kept (kept_then (kept_below HB2.out) hk3 (fun x hx => .inr (by omega)))
  obtain ⟨_, rv, hrr, hbs⟩ := hrd3
  obtain ⟨ra, rc, rfl, _⟩ := id hbs
  obtain ⟨RL, hRL⟩ : ∃ RL, RL = rl.length := ⟨_, rfl⟩
  dsimp only at hrr
  rw [← hRL] at hrr
  have hb4 := below_more (Below.refl _ w3) (.cells #[.int .i64 m.kd, .int .i64 m.fr, .int .i64 m.to, .int .i64 m.tm, .int .i64 m.ix, .int .i64 m.lt, .int .i64 m.cm, .bool m.yes, .slice ea n ec, .int .i64 m.sn.ix, .int .i64 m.sn.tm, .slice ma M mc, .string m.sn.d] 27)
  have hr4 := Rw.below hrr hb4
  have x0 := Rw.cell hr4 (j := 0) (v := .slice ra RL rc) rfl
  have x1 := Rw.cell hr4 (j := 1) (v := .bool rbad) rfl
  have HO3 := Lib.hid hown
  have HRL := Lib.hid hRL
  have HB4 := Lib.hid (hb3.trans (Below.mono hb4 hb3.size))
  have HR4 := Lib.hid (Rw.below hrr3 hb4)
  have HO4 := Lib.hid (msgOwn_below hown hb4)
  have HEN := Lib.hid (encodable_any (msgOwn_at (msgOwn_below hown hb4)))
  have HM4 : Hid (Rw (w3.alloc (.cells #[.int .i64 m.kd, .int .i64 m.fr, .int .i64 m.to, .int .i64 m.tm, .int .i64 m.ix, .int .i64 m.lt, .int .i64 m.cm, .bool m.yes, .slice ea n ec, .int .i64 m.sn.ix, .int .i64 m.sn.tm, .slice ma M mc, .string m.sn.d] 27)) 0 w3.heap.size 27 [.int .i64 m.kd, .int .i64 m.fr, .int .i64 m.to, .int .i64 m.tm, .int .i64 m.ix, .int .i64 m.lt, .int .i64 m.cm, .bool m.yes, .slice ea n ec, .int .i64 m.sn.ix, .int .i64 m.sn.tm, .slice ma M mc, .string m.sn.d]) := Lib.hid (Rw.alloc w3 _ _ (Nat.zero_le _))
  unfold msgV at HEN ⊢
  clear hown hn hM hrr3 hb3 hrr hbs hRL hb4 hr4 hk3 HMS
  cases rbad with
  | true =>
    have HNO2 := Lib.hid (fun w' (hb : Below w.heap.size w w') => HNO.out w' (.inl rfl) hb)
    clear HNO HYE
    go_wp2_with (first | (refine wpList_alloc_z rfl 27 rfl #[.int .i64 0, .int .i64 0, .int .i64 0, .int .i64 0, .int .i64 0, .int .i64 0, .int .i64 0, .bool false, .slice none 0 0, .int .i64 0, .int .i64 0, .slice none 0 0, .string ⟨#[]⟩] hz ?_) | (refine wpList_store_mid rfl 27 _ _ rfl w.heap.size 0 #[.int .i64 0, .int .i64 0, .int .i64 0, .int .i64 0, .int .i64 0, .int .i64 0, .int .i64 0, .bool false, .slice none 0 0, .int .i64 0, .int .i64 0, .slice none 0 0, .string ⟨#[]⟩] rfl rfl (Rw.there HR4.out 0 _ (by simp)) Try.sizeMsg (msg_one _ _ _ _ _ _ _ _ _ _ _ _ _ _ _ _ _) ?_) | fail)
    have HEND := Lib.hid (Rw.storedAll HR4.out [.int .i64 0, .int .i64 0, .int .i64 0, .int .i64 0, .int .i64 0, .int .i64 0, .int .i64 0, .bool false, .slice none 0 0, .int .i64 0, .int .i64 0, .slice none 0 0, .string ⟨#[]⟩] rfl)
    refine bodyPost_ret (v := .tuple #[.agg #[.int .i64 0, .int .i64 0, .int .i64 0, .int .i64 0, .int .i64 0, .int .i64 0, .int .i64 0, .bool false, .slice none 0 0, .int .i64 0, .int .i64 0, .slice none 0 0, .string ⟨#[]⟩], .int .i64 7]) ?_ rfl ?_
    case refine_2 => exact HNO2.out _ (below_stores HB4.out (Nat.le_refl _) _)
    exact results_row_tmp rfl _ _ w.heap.size 0 27 [.int .i64 0, .int .i64 0, .int .i64 0, .int .i64 0, .int .i64 0, .int .i64 0, .int .i64 0, .bool false, .slice none 0 0, .int .i64 0, .int .i64 0, .slice none 0 0, .string ⟨#[]⟩] _ rfl HEND.out Try.underlying27 rfl Try.sizeMsg (.int .i64 7) rfl
  | false =>
    by_cases hrl : (0 : Int) < (RL : Int)
    · have HNO2 := Lib.hid (fun w' (hb : Below w.heap.size w w') => HNO.out w' (.inr (.inl (by rw [← HRL.out]; omega))) hb)
      have q0 : decide ((0 : Int) < (RL : Int)) = true := decide_eq_true hrl
      have q1 : 0 < RL := by omega
      have q2 : decide (0 < RL) = true := decide_eq_true q1
      clear HNO HYE
      go_wp2_with (first | (refine wpList_alloc_z rfl 27 rfl #[.int .i64 0, .int .i64 0, .int .i64 0, .int .i64 0, .int .i64 0, .int .i64 0, .int .i64 0, .bool false, .slice none 0 0, .int .i64 0, .int .i64 0, .slice none 0 0, .string ⟨#[]⟩] hz ?_) | (refine wpList_store_mid rfl 27 _ _ rfl w.heap.size 0 #[.int .i64 0, .int .i64 0, .int .i64 0, .int .i64 0, .int .i64 0, .int .i64 0, .int .i64 0, .bool false, .slice none 0 0, .int .i64 0, .int .i64 0, .slice none 0 0, .string ⟨#[]⟩] rfl rfl (Rw.there HR4.out 0 _ (by simp)) Try.sizeMsg (msg_one _ _ _ _ _ _ _ _ _ _ _ _ _ _ _ _ _) ?_) | fail)
      have HEND := Lib.hid (Rw.storedAll HR4.out [.int .i64 0, .int .i64 0, .int .i64 0, .int .i64 0, .int .i64 0, .int .i64 0, .int .i64 0, .bool false, .slice none 0 0, .int .i64 0, .int .i64 0, .slice none 0 0, .string ⟨#[]⟩] rfl)
      refine bodyPost_ret (v := .tuple #[.agg #[.int .i64 0, .int .i64 0, .int .i64 0, .int .i64 0, .int .i64 0, .int .i64 0, .int .i64 0, .bool false, .slice none 0 0, .int .i64 0, .int .i64 0, .slice none 0 0, .string ⟨#[]⟩], .int .i64 7]) ?_ rfl ?_
      case refine_2 => exact HNO2.out _ (below_stores HB4.out (Nat.le_refl _) _)
      exact results_row_tmp rfl _ _ w.heap.size 0 27 [.int .i64 0, .int .i64 0, .int .i64 0, .int .i64 0, .int .i64 0, .int .i64 0, .int .i64 0, .bool false, .slice none 0 0, .int .i64 0, .int .i64 0, .slice none 0 0, .string ⟨#[]⟩] _ rfl HEND.out Try.underlying27 rfl Try.sizeMsg (.int .i64 7) rfl
    · have HRL0 : Hid (rl.length = 0) := Lib.hid (by rw [← HRL.out]; omega)
      have hrl0 : RL = 0 := by omega
      subst hrl0
      obtain ⟨ok, hok⟩ : ∃ ok, ok = okMB m := ⟨_, rfl⟩
      rw [← hok] at HEN HNO HYE
      have HNO2 : Hid (ok = false → ∀ w', Below w.heap.size w w' → DecV w w' (.returned (.tuple #[.agg #[.int .i64 0, .int .i64 0, .int .i64 0, .int .i64 0, .int .i64 0, .int .i64 0, .int .i64 0, .bool false, .slice none 0 0, .int .i64 0, .int .i64 0, .slice none 0 0, .string ⟨#[]⟩], .int .i64 7])) l) := Lib.hid (fun he w' hb => HNO.out w' (.inr (.inr he)) hb)
      have HYE2 : Hid (ok = true → ∀ w' ev mv, MsgOwn w' ev mv m → Below w.heap.size w w' → DecV w w' (.returned (.tuple #[msgV m ev mv, .int .i64 0])) l) := Lib.hid (fun he w' ev mv h4 hb => HYE.out w' ev mv rfl HRL0.out he h4 hb)
      clear HNO HYE
      clear hrl hok HRL
      go_wp2_with (first | (refine wpList_alloc_z rfl 27 rfl #[.int .i64 0, .int .i64 0, .int .i64 0, .int .i64 0, .int .i64 0, .int .i64 0, .int .i64 0, .bool false, .slice none 0 0, .int .i64 0, .int .i64 0, .slice none 0 0, .string ⟨#[]⟩] hz ?_) | fail)
      refine (HEN.out).mono ?_
      rintro e w6 ⟨rfl, hb6⟩
      have HB6 := Lib.hid (HB4.out.trans (Below.mono hb6 HB4.out.size))
      have HR6 := Lib.hid (Rw.below HR4.out hb6)
      have HM6 := Lib.hid (Rw.below HM4.out hb6)
      have HO6 := Lib.hid (msgOwn_below HO4.out hb6)
      clear hb6 HEN x0 x1
      cases ok with
      | false =>
        have HNA := Lib.hid (HNO2.out rfl)
        clear HYE2 HNO2
        go_wp2_with (first | (refine wpList_alloc_z rfl 27 rfl #[.int .i64 0, .int .i64 0, .int .i64 0, .int .i64 0, .int .i64 0, .int .i64 0, .int .i64 0, .bool false, .slice none 0 0, .int .i64 0, .int .i64 0, .slice none 0 0, .string ⟨#[]⟩] hz ?_) | (refine wpList_store_mid rfl 27 _ _ rfl w.heap.size 0 #[.int .i64 0, .int .i64 0, .int .i64 0, .int .i64 0, .int .i64 0, .int .i64 0, .int .i64 0, .bool false, .slice none 0 0, .int .i64 0, .int .i64 0, .slice none 0 0, .string ⟨#[]⟩] rfl rfl (Rw.there HR6.out 0 _ (by simp)) Try.sizeMsg (msg_one _ _ _ _ _ _ _ _ _ _ _ _ _ _ _ _ _) ?_) | fail)
        have HEND := Lib.hid (Rw.storedAll HR6.out [.int .i64 0, .int .i64 0, .int .i64 0, .int .i64 0, .int .i64 0, .int .i64 0, .int .i64 0, .bool false, .slice none 0 0, .int .i64 0, .int .i64 0, .slice none 0 0, .string ⟨#[]⟩] rfl)
        refine bodyPost_ret (v := .tuple #[.agg #[.int .i64 0, .int .i64 0, .int .i64 0, .int .i64 0, .int .i64 0, .int .i64 0, .int .i64 0, .bool false, .slice none 0 0, .int .i64 0, .int .i64 0, .slice none 0 0, .string ⟨#[]⟩], .int .i64 7]) ?_ rfl ?_
        case refine_2 => exact HNA.out _ (below_stores HB6.out (Nat.le_refl _) _)
        exact results_row_tmp rfl _ _ w.heap.size 0 27 [.int .i64 0, .int .i64 0, .int .i64 0, .int .i64 0, .int .i64 0, .int .i64 0, .int .i64 0, .bool false, .slice none 0 0, .int .i64 0, .int .i64 0, .slice none 0 0, .string ⟨#[]⟩] _ rfl HEND.out Try.underlying27 rfl Try.sizeMsg (.int .i64 7) rfl
      | true =>
        have HYA := Lib.hid (HYE2.out rfl)
        clear HNO2 HYE2
        go_wp2_with (first | (refine wpList_load_mid rfl 27 _ rfl w3.heap.size 0 rfl [.int .i64 m.kd, .int .i64 m.fr, .int .i64 m.to, .int .i64 m.tm, .int .i64 m.ix, .int .i64 m.lt, .int .i64 m.cm, .bool m.yes, .slice ea n ec, .int .i64 m.sn.ix, .int .i64 m.sn.tm, .slice ma M mc, .string m.sn.d] _ (Rw.whole HM6.out) Try.underlying27 rfl Try.sizeMsg ?_) | (refine wpList_store_mid rfl 27 _ _ rfl w.heap.size 0 #[.int .i64 m.kd, .int .i64 m.fr, .int .i64 m.to, .int .i64 m.tm, .int .i64 m.ix, .int .i64 m.lt, .int .i64 m.cm, .bool m.yes, .slice ea n ec, .int .i64 m.sn.ix, .int .i64 m.sn.tm, .slice ma M mc, .string m.sn.d] rfl rfl (Rw.there HR6.out 0 _ (by simp)) Try.sizeMsg (msg_one _ _ _ _ _ _ _ _ _ _ _ _ _ _ _ _ _) ?_) | fail)
        have HEND := Lib.hid (Rw.storedAll HR6.out [.int .i64 m.kd, .int .i64 m.fr, .int .i64 m.to, .int .i64 m.tm, .int .i64 m.ix, .int .i64 m.lt, .int .i64 m.cm, .bool m.yes, .slice ea n ec, .int .i64 m.sn.ix, .int .i64 m.sn.tm, .slice ma M mc, .string m.sn.d] rfl)
        refine bodyPost_ret (v := .tuple #[.agg #[.int .i64 m.kd, .int .i64 m.fr, .int .i64 m.to, .int .i64 m.tm, .int .i64 m.ix, .int .i64 m.lt, .int .i64 m.cm, .bool m.yes, .slice ea n ec, .int .i64 m.sn.ix, .int .i64 m.sn.tm, .slice ma M mc, .string m.sn.d], .int .i64 0]) ?_ rfl ?_
        case refine_2 => exact HYA.out _ _ _ (msgOwn_stores HO6.out HR6.out _) (below_stores HB6.out (Nat.le_refl _) _)
        exact results_row_tmp rfl _ _ w.heap.size 0 27 [.int .i64 m.kd, .int .i64 m.fr, .int .i64 m.to, .int .i64 m.tm, .int .i64 m.ix, .int .i64 m.lt, .int .i64 m.cm, .bool m.yes, .slice ea n ec, .int .i64 m.sn.ix, .int .i64 m.sn.tm, .slice ma M mc, .string m.sn.d] _ rfl HEND.out Try.underlying27 rfl Try.sizeMsg (.int .i64 0) rfl

end Go.Proofs.Ytpbdilbimpnmjaa
