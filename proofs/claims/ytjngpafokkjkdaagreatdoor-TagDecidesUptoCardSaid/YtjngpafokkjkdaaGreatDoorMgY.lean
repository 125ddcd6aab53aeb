/- Several texts as one. -/
import Derived.Test.YtjngpafokkjkdaaGreatDoorMgX
import Derived.Test.YtjngpafokkjkdaaGreatDoorMgJ
import Derived.Test.YtjngpafokkjkdaaGreatDoorMgP
/-
  check, PrintLine, Print; the document's.
-/
set_option linter.unusedVariables false
set_option linter.unusedSimpArgs false
namespace Go.Proofs.YtjngpafokkjkdaaGreatDoor
open Go.RowKit Go.Shelf
namespace Fd
open Oc Tg

/-- What is not right of a field. -/
def chkZ (p : Fl) : Int := if isName p.1 then if isValue p.2 then 0 else 61 else 60
def lineP (p : Fl) : List UInt8 := if p.2 = [] then p.1 ++ [58] else p.1 ++ [58] ++ [32] ++ p.2
def printL (p : Fl) : List UInt8 × Int := if chkZ p = 0 then (lineP p, 0) else ([], chkZ p)
def printG : List Fl → List UInt8 → List UInt8 × Int
  | [], acc => (acc, 0)
  | p :: t, acc => if chkZ p = 0 then printG t (acc ++ lineP p ++ [13, 10]) else ([], chkZ p)
def printT (t : List Fl) : List UInt8 × Int := if 100 < t.length then ([], 65) else printG t []
theorem chk_cases (p : Fl) : (chkZ p = 0 ∧ isName p.1 = true ∧ isValue p.2 = true) ∨ (chkZ p = 61 ∧ isName p.1 = true ∧ isValue p.2 = false) ∨ (chkZ p = 60 ∧ isName p.1 = false) := by
  unfold chkZ
  cases h1 : isName p.1 with
  | false => exact .inr (.inr ⟨rfl, rfl⟩)
  | true =>
    cases h2 : isValue p.2 with
    | false => exact .inr (.inl ⟨rfl, rfl, rfl⟩)
    | true => exact .inl ⟨rfl, rfl, rfl⟩
theorem drop_nth (t : List Fl) (k : Nat) (h : k < t.length) : t.drop k = nth t k :: t.drop (k + 1) := by
  rw [List.drop_eq_getElem_cons h]
  unfold nth
  rw [List.getD_eq_getElem?_getD, List.getElem?_eq_getElem h]
  rfl
theorem lineP_len (p : Fl) : (lineP p).length ≤ szF p := by
  unfold lineP szF
  split
  · simp; omega
  · simp; omega
theorem str_app (a b : List UInt8) : str a ++ str b = str (a ++ b) := by
  apply eq_list
  rw [ByteArray.data_append, Array.toList_append, str_list, str_list, str_list]
theorem join_str (a b : ByteArray) : (a ++ b) = str (a.data.toList ++ b.data.toList) := by
  conv => lhs; rw [← str_self a, ← str_self b]
  rw [str_app]

end Fd
end Go.Proofs.YtjngpafokkjkdaaGreatDoor

/-
  The document's All, Joined, List, Tokens, In, Has.
-/
set_option linter.unusedVariables false
set_option linter.unusedSimpArgs false
namespace Go.Proofs.YtjngpafokkjkdaaGreatDoor
open Go.RowKit Go.Shelf
namespace Fd
open Oc Tg

theorem vals_take (s : List UInt8) (t : List Fl) (k : Nat) (h : k < t.length) : vals s (t.take (k + 1)) = if alike s (nth t k) then vals s (t.take k) ++ [(nth t k).2] else vals s (t.take k) := by
  unfold vals
  rw [filter_take (alike s) t k h]
  split
  · rw [List.map_append]; rfl
  · rfl
theorem vals_len (s : List UInt8) (t : List Fl) : (vals s t).length ≤ t.length := by unfold vals; rw [List.length_map]; exact List.length_filter_le _ _

set_option maxRecDepth 100000 in
set_option maxHeartbeats 2000000 in
theorem rAll_any (v : Value) (t : List Fl) (s : List UInt8) (hs : s.length ≤ 1048576) (hM : Each 1048576 t) (hl : t.length ≤ 16777216) (w : World) (hrd : RdF v t w) :
    Calls Tryz.prog 22 #[v, .string (str s)] w fun e w' => ∃ u, e = .returned u ∧ OwnS w.heap.size u (vals s t) w' ∧ Below w.heap.size w w' := by
  have HR : Hid (RdF v t w) := hrd
  have HM : Hid (Each 1048576 t) := hM
  have HAk : Hid (∀ (p : Fl) w, p.1.length ≤ 1048576 → Calls Tryz.prog 39 #[.string (str p.1), .string (str s)] w fun e w' => e = .returned (.bool (alike s p)) ∧ Below w.heap.size w w') := fun p w h => by
    have h := rAlike_any (str p.1) (str s) (by rw [str_size]; unfold maxLen; omega) (by rw [str_size]; unfold maxLen; omega) w
    rw [low_alike] at h
    exact h
  obtain ⟨a, c, rfl, _⟩ := hrd
  clear hM hs
  generalize hS : str s = S at *
  clear hS
  go_enter Tryz.func22, Tryz.ntmps22
  go_wp2
  go_loopw [5, 10] (fun ov i wr => ∃ k : Nat, k ≤ t.length ∧ i = .int .i64 k ∧ Hid (OwnS w.heap.size ov (vals s (t.take k)) wr) ∧ Hid (Below w.heap.size w wr)) (fun _ i _ => t.length - (intOf i).toNat)
  case atStart => exact ⟨0, Nat.zero_le _, rfl, ownS_nil _ _, Below.refl _ _⟩
  case round =>
    obtain ⟨k, hk, rfl, hown, hbl⟩ := hrel
    by_cases hlt : k < t.length
    · obtain ⟨a', c', e', hcs⟩ := HR.out.below hbl.out
      injection e' with e1 _ e2
      subst e1 e2
      rcases hcs with h | ⟨g, o, rfl, hlc, hcell⟩
      · rw [h] at hlt; simp at hlt
      obtain ⟨p0, p1⟩ := hcell k hlt
      have hEk := HM.out.at k hlt
      have hvt := vals_take s t k hlt
      have TT : alike s (nth t k) = true → Hid (vals s (t.take (k + 1)) = vals s (t.take k) ++ [(nth t k).2]) := fun h => by
        have := hvt
        rw [if_pos h] at this
        exact this
      have FF : alike s (nth t k) = false → Hid (vals s (t.take (k + 1)) = vals s (t.take k)) := fun h => by
        have := hvt
        rw [if_neg (by rw [h]; simp)] at this
        exact this
      have HC : Hid (∀ w, Calls Tryz.prog 39 #[.string (str (nth t k).1), .string S] w fun e w' => e = .returned (.bool (alike s (nth t k))) ∧ Below w.heap.size w w') := fun w => HAk.out _ w hEk.1
      have hlk : (vals s (t.take k)).length + 1 ≤ 4294967296 := by
        have := vals_len s (t.take k)
        rw [List.length_take] at this
        omega
      clear hcell hEk hvt
      generalize alike s (nth t k) = b at HC TT FF
      generalize nth t k = p at *
      obtain ⟨pn, pv⟩ := p
      dsimp only at p0 p1 HC TT
      generalize hn : str pn = N at *
      clear hn
      have hb1 : Below wr.heap.size wr (wr.alloc (.cells #[.string N, .string (str pv)] 56)) := (Below.refl _ wr).alloc (Nat.le_refl _) _
      have HB1 : Hid (Below w.heap.size w (wr.alloc (.cells #[.string N, .string (str pv)] 56))) := bel_trans hbl.out hb1
      have HO1 : Hid (OwnS w.heap.size _ (vals s (t.take k)) (wr.alloc (.cells #[.string N, .string (str pv)] 56))) := hown.out.below hb1
      clear hb1
      cases b with
      | true =>
        have tt := TT rfl
        clear TT FF
        go_wp2_with fail
        refine (HC.out _).mono ?_
        rintro e w2 ⟨rfl, hb2⟩
        have c1 : w2.cell? ⟨wr.heap.size, 1, none⟩ = some (.string (str pv)) := by rw [hb2.cell (by simp)]; simp
        have HB2 : Hid (Below w.heap.size w w2) := bel_trans HB1.out hb2
        have HO2 : Hid (OwnS w.heap.size _ (vals s (t.take k)) w2) := HO1.out.below hb2
        have hs2 : w.heap.size ≤ w2.heap.size := HB2.out.size
        clear hb2
        go_wp2_with (at_builtin; go_must (refine wp_appS rfl (.tmp 18) (.tmp 21) rfl w.heap.size _ (vals s (t.take k)) _ pv rfl HO2.out rfl hlk hs2 ?_); intro v6 w6 hown6 hb6)
        have HO6 : Hid (OwnS w.heap.size v6 (vals s (t.take (k + 1))) w6) := (by rw [tt.out]; exact hown6 : OwnS _ v6 _ w6)
        have HB6 : Hid (Below w.heap.size w w6) := HB2.out.trans hb6
        clear hown6 hb6
        go_roundw
        case rel => exact ⟨k + 1, by omega, by go_num, HO6, HB6⟩
        case measure => simp [intOf]; omega
      | false =>
        have ff := FF rfl
        clear TT FF
        go_wp2_with fail
        refine (HC.out _).mono ?_
        rintro e w2 ⟨rfl, hb2⟩
        have HB2 : Hid (Below w.heap.size w w2) := bel_trans HB1.out hb2
        have HO2 : Hid (OwnS w.heap.size _ (vals s (t.take (k + 1))) w2) := (by rw [ff.out]; exact HO1.out.below hb2 : OwnS _ _ _ w2)
        clear hb2
        go_wp2
        go_roundw
        case rel => exact ⟨k + 1, by omega, by go_num, HO2, HB2⟩
        case measure => simp [intOf]; omega
    · obtain rfl : k = t.length := by omega
      rw [List.take_length] at hown
      go_wp2
      go_ret
      exact ⟨_, rfl, hown.out, hbl.out⟩

set_option maxRecDepth 100000 in
set_option maxHeartbeats 2000000 in
theorem rJoined_any (v : Value) (t : List Fl) (s : List UInt8) (hs : s.length ≤ 1048576) (hS : sumF t ≤ 1048576) (w : World) (hrd : RdF v t w) :
    Calls Tryz.prog 14 #[v, .string (str s)] w fun e w' => e = .returned (.tuple #[.string (str (joinF (vals s t))), .bool (decide (0 < (vals s t).length))]) ∧ Below w.heap.size w w' := by
  have hlen := len_sumF t
  have HA : Hid (Calls _ _ _ _ _) := rAll_any v t s hs ((each_sumF t).mono hS) (by omega) w hrd
  have hv := sumV_filter s t
  have hv2 := sumL_V (vals s t)
  have HLe : Hid (∀ k, (jp (vals s t) k).length ≤ 4000000) := fun k => by have := jp_len (vals s t) k; omega
  have HSh : Hid (∀ x ∈ vals s t, x.length ≤ 1048576) := vals_short ((each_sumF t).mono hS) s
  have hvl : (vals s t).length ≤ 1048576 := by omega
  obtain ⟨a, c, rfl, _⟩ := hrd
  clear hv hv2 hs
  generalize vals s t = T at *
  generalize str s = S at *
  go_enter Tryz.func14, Tryz.ntmps14
  go_wp2_with fail
  refine HA.out.mono ?_
  rintro e w1 ⟨u, rfl, ho, hb1⟩
  have HR : Hid (RdS u T w1) := ho.rd
  have HB1 : Hid (Below w.heap.size w w1) := hb1
  obtain ⟨a1, c1, rfl⟩ := ho.form
  clear ho hb1
  go_wp2
  go_loop [7, 15] (fun ov i => ∃ k : Nat, k ≤ T.length ∧ i = .int .i64 k ∧ ov = .string (str (jp T k))) (fun _ i => T.length - (intOf i).toNat)
  case atStart => exact ⟨0, Nat.zero_le _, rfl, rfl⟩
  case round =>
    obtain ⟨k, hk, rfl, rfl⟩ := hrel
    by_cases hlt : k < T.length
    · obtain ⟨a', c', e', hcs⟩ := HR.out
      injection e' with e1 _ e2
      subst e1 e2
      rcases hcs with h | ⟨g, o, rfl, hlc, hcell⟩
      · rw [h] at hlt; simp at hlt
      have p0 := hcell k hlt
      have hx := getD_short HSh.out k hlt
      have hj := HLe.out k
      have hjs : (str (jp T k)).size ≤ 4000000 := by rw [str_size]; exact hj
      have hxs : (str (T.getD k [])).size ≤ 1048576 := by rw [str_size]; exact hx
      by_cases h0 : 0 < k
      · have HEQ : Hid (str (jp T k) ++ ⟨#[44, 32]⟩ ++ str (T.getD k []) = str (jp T (k + 1))) := by
          show _ = _
          rw [jp_succ T k hlt h0, ← str_app, ← str_app]
          rfl
        clear hcell hx hj
        generalize hJ : str (jp T k) = J at *
        generalize hX : str (T.getD k []) = X at *
        clear hJ hX
        go_wp2
        go_round
        case rel => exact ⟨k + 1, by omega, by go_num, by rw [HEQ.out]⟩
        case measure => simp [intOf]; omega
      · obtain rfl : k = 0 := by omega
        rw [Nat.add_zero] at p0
        have HEQ : Hid (str (jp T 0) ++ str (T.getD 0 []) = str (jp T 1)) := by
          show _ = _
          rw [jp_one T hlt, str_app]
          rfl
        clear hcell hx hj
        generalize hJ : str (jp T 0) = J at *
        generalize hX : str (T.getD 0 []) = X at *
        clear hJ hX
        go_wp2
        go_round
        case rel => exact ⟨1, by omega, by go_num, by rw [HEQ.out]⟩
        case measure => simp [intOf]; omega
    · obtain rfl : k = T.length := by omega
      rw [jp_all]
      go_wp2
      go_ret2
      exact ⟨by simp, HB1.out⟩

/-- Is one of them that text? -/
def inL (L : List (List UInt8)) (x : List UInt8) : Bool := L.contains x

end Fd
end Go.Proofs.YtjngpafokkjkdaaGreatDoor

/-
  The calendar, plain: 400 years, the day behind a day, the order of moments.
-/
set_option linter.unusedVariables false
set_option linter.unusedSimpArgs false
namespace Go.Proofs.YtjngpafokkjkdaaGreatDoor
namespace Bs

theorem leap_400 (y : Int) : leap (y + 400) = leap y := by
  have a := leap_iff (y + 400)
  have b := leap_iff y
  have : leap (y + 400) = true ↔ leap y = true := by
    rw [a, b]
    omega
  cases h : leap y <;> cases h' : leap (y + 400) <;> simp_all
theorem feb_400 (y : Int) : feb (y + 400) = feb y := by unfold feb; rw [leap_400]
theorem md_400 (y m : Int) : md (y + 400) m = md y m := by unfold md; rw [feb_400]
theorem cum_400 (y m : Int) : cum (y + 400) m = cum y m := by unfold cum; rw [feb_400]
theorem jan_400 (y : Int) : jan (y + 400) = jan y + 146097 := by unfold jan; omega
theorem dn_400 (y m d : Int) : dn (y + 400) m d = dn y m d + 146097 := by unfold dn; rw [jan_400, cum_400]; omega
theorem ymd_400 {D : Int} (h1 : -719162 ≤ D) (h2 : D ≤ 2932896 - 146097) : ymd (D + 146097) = ((ymd D).1 + 400, (ymd D).2.1, (ymd D).2.2) := by
  obtain ⟨a, b⟩ := ymd_is h1 (by omega)
  have hm := a.m
  have hd := md_le (ymd D).1 (ymd D).2.1
  obtain ⟨y1, y2, d1, d2⟩ := a
  have hy : (ymd D).1 + 400 ≤ 9999 := by
    by_cases h : (ymd D).1 + 400 ≤ 9999
    · exact h
    · have a' : IsD (ymd D).1 (ymd D).2.1 (ymd D).2.2 := ⟨y1, y2, d1, d2⟩
      have := a'.lo
      have := jan_mono (a := 9600) (b := (ymd D).1) (by omega)
      have e : jan 9600 = 2786800 := by decide
      omega
  refine ymd_eq ⟨by omega, hy, d1, by rw [md_400]; exact d2⟩ ?_
  rw [dn_400, b]
theorem wday_400 (D : Int) : wday (D + 146097) = wday D := by unfold wday; omega

/- The day behind a day. -/
def nxt (y m d : Int) : Int × Int × Int := if d < md y m then (y, m, d + 1) else if m < 12 then (y, m + 1, 1) else (y + 1, 1, 1)
theorem nxt_dn {y m d : Int} (h : IsD y m d) : dn (nxt y m d).1 (nxt y m d).2.1 (nxt y m d).2.2 = dn y m d + 1 := by
  obtain ⟨m1, m2⟩ := h.m
  obtain ⟨_, _, h3, h4⟩ := h
  unfold nxt
  split
  · show dn y m (d + 1) = _
    unfold dn
    omega
  · obtain rfl : d = md y m := by omega
    split
    · show dn y (m + 1) 1 = _
      unfold dn
      rw [cum_succ y m m1 m2]
      omega
    · obtain rfl : m = 12 := by omega
      show dn (y + 1) 1 1 = _
      unfold dn
      have c := cum_succ y 12 (by omega) (by omega)
      rw [show (12 : Int) + 1 = 13 from rfl, cum_13] at c
      rw [jan_succ, cum_one]
      omega
theorem nxt_is {y m d : Int} (h : IsD y m d) (hy : (nxt y m d).1 ≤ 9999) : IsD (nxt y m d).1 (nxt y m d).2.1 (nxt y m d).2.2 := by
  obtain ⟨m1, m2⟩ := h.m
  obtain ⟨h1, h2, h3, h4⟩ := h
  unfold nxt at hy ⊢
  split at hy
  · rename_i hd
    rw [if_pos hd]
    exact ⟨h1, h2, by show 1 ≤ d + 1; omega, by show d + 1 ≤ md y m; omega⟩
  · rename_i hd
    rw [if_neg hd]
    split at hy
    · rename_i hm
      rw [if_pos hm]
      have := md_ge (y := y) (m := m + 1) (by omega) (by omega)
      exact ⟨h1, h2, by show (1 : Int) ≤ 1; omega, by show 1 ≤ md y (m + 1); omega⟩
    · rename_i hm
      rw [if_neg hm]
      have := md_ge (y := y + 1) (m := 1) (by omega) (by omega)
      exact ⟨by show 1 ≤ y + 1; omega, hy, by show (1 : Int) ≤ 1; omega, by show 1 ≤ md (y + 1) 1; omega⟩
theorem nxt_last {y m d : Int} (h : IsD y m d) (hy : 9999 < (nxt y m d).1) : dn y m d = 2932896 := by
  have a := nxt_dn h
  obtain ⟨m1, m2⟩ := h.m
  obtain ⟨h1, h2, h3, h4⟩ := h
  unfold nxt at hy a
  split at hy
  · dsimp only at hy
    omega
  · rename_i hd
    rw [if_neg hd] at a
    split at hy
    · dsimp only at hy
      omega
    · rename_i hm
      rw [if_neg hm] at a
      dsimp only at hy a
      obtain rfl : y = 9999 := by omega
      have e : dn (9999 + 1) 1 1 = 2932897 := by decide
      omega
theorem day_of {n k : Int} (h0 : 0 ≤ k) (h1 : k < 86400) : (n * 86400 + k) / 86400 = n ∧ (n * 86400 + k) % 86400 = k := by omega

/- The order of moments. -/
def Lt6 (y m d h i s y' m' d' h' i' s' : Int) : Prop := y < y' ∨ (y = y' ∧ (m < m' ∨ (m = m' ∧ (d < d' ∨ (d = d' ∧ (h < h' ∨ (h = h' ∧ (i < i' ∨ (i = i' ∧ s < s')))))))))
theorem moments_lt {a b : Int} (ha : isM a) (hb : isM b) (h : Lt6 (ymd (a / 86400)).1 (ymd (a / 86400)).2.1 (ymd (a / 86400)).2.2 (a % 86400 / 3600) (a % 86400 % 3600 / 60) (a % 86400 % 60) (ymd (b / 86400)).1 (ymd (b / 86400)).2.1 (ymd (b / 86400)).2.2 (b % 86400 / 3600) (b % 86400 % 3600 / 60) (b % 86400 % 60)) : a < b := by
  obtain ⟨a1, a2⟩ := ha
  obtain ⟨b1, b2⟩ := hb
  obtain ⟨ia, ea⟩ := ymd_is (D := a / 86400) (by omega) (by omega)
  obtain ⟨ib, eb⟩ := ymd_is (D := b / 86400) (by omega) (by omega)
  have hl := dn_lt ia ib
  rw [ea, eb] at hl
  unfold Lt6 at h
  rcases (by omega : ((ymd (a / 86400)).1 < (ymd (b / 86400)).1 ∨ ((ymd (a / 86400)).1 = (ymd (b / 86400)).1 ∧ ((ymd (a / 86400)).2.1 < (ymd (b / 86400)).2.1 ∨ ((ymd (a / 86400)).2.1 = (ymd (b / 86400)).2.1 ∧ (ymd (a / 86400)).2.2 < (ymd (b / 86400)).2.2)))) ∨ ((ymd (a / 86400)).1 = (ymd (b / 86400)).1 ∧ (ymd (a / 86400)).2.1 = (ymd (b / 86400)).2.1 ∧ (ymd (a / 86400)).2.2 = (ymd (b / 86400)).2.2 ∧ (a % 86400 / 3600 < b % 86400 / 3600 ∨ (a % 86400 / 3600 = b % 86400 / 3600 ∧ (a % 86400 % 3600 / 60 < b % 86400 % 3600 / 60 ∨ (a % 86400 % 3600 / 60 = b % 86400 % 3600 / 60 ∧ a % 86400 % 60 < b % 86400 % 60)))))) with k | ⟨k1, k2, k3, k4⟩
  · have := hl k
    omega
  · have e : a / 86400 = b / 86400 := by rw [← ea, ← eb, k1, k2, k3]
    omega
theorem moments_lt_iff {a b : Int} (ha : isM a) (hb : isM b) : Lt6 (ymd (a / 86400)).1 (ymd (a / 86400)).2.1 (ymd (a / 86400)).2.2 (a % 86400 / 3600) (a % 86400 % 3600 / 60) (a % 86400 % 60) (ymd (b / 86400)).1 (ymd (b / 86400)).2.1 (ymd (b / 86400)).2.2 (b % 86400 / 3600) (b % 86400 % 3600 / 60) (b % 86400 % 60) ↔ a < b := by
  refine ⟨moments_lt ha hb, fun h => ?_⟩
  have h2 := moments_lt hb ha
  have a1 := ha.1
  have a2 := ha.2
  have b1 := hb.1
  have b2 := hb.2
  have ea := (ymd_is (D := a / 86400) (by omega) (by omega)).2
  have eb := (ymd_is (D := b / 86400) (by omega) (by omega)).2
  have h3 : ¬ Lt6 (ymd (b / 86400)).1 (ymd (b / 86400)).2.1 (ymd (b / 86400)).2.2 (b % 86400 / 3600) (b % 86400 % 3600 / 60) (b % 86400 % 60) (ymd (a / 86400)).1 (ymd (a / 86400)).2.1 (ymd (a / 86400)).2.2 (a % 86400 / 3600) (a % 86400 % 3600 / 60) (a % 86400 % 60) := fun k => by have := h2 k; omega
  have h4 : ¬ ((ymd (a / 86400)).1 = (ymd (b / 86400)).1 ∧ (ymd (a / 86400)).2.1 = (ymd (b / 86400)).2.1 ∧ (ymd (a / 86400)).2.2 = (ymd (b / 86400)).2.2 ∧ a % 86400 / 3600 = b % 86400 / 3600 ∧ a % 86400 % 3600 / 60 = b % 86400 % 3600 / 60 ∧ a % 86400 % 60 = b % 86400 % 60) := fun ⟨k1, k2, k3, k4, k5, k6⟩ => by
    have e : a / 86400 = b / 86400 := by rw [← ea, ← eb, k1, k2, k3]
    omega
  unfold Lt6 at h3 ⊢
  generalize (ymd (a / 86400)).1 = A1 at *
  generalize (ymd (a / 86400)).2.1 = A2 at *
  generalize (ymd (a / 86400)).2.2 = A3 at *
  generalize (ymd (b / 86400)).1 = B1 at *
  generalize (ymd (b / 86400)).2.1 = B2 at *
  generalize (ymd (b / 86400)).2.2 = B3 at *
  generalize a % 86400 / 3600 = A4 at *
  generalize a % 86400 % 3600 / 60 = A5 at *
  generalize a % 86400 % 60 = A6 at *
  generalize b % 86400 / 3600 = B4 at *
  generalize b % 86400 % 3600 / 60 = B5 at *
  generalize b % 86400 % 60 = B6 at *
  clear h2 ea eb
  by_cases c1 : A1 = B1
  · by_cases c2 : A2 = B2
    · by_cases c3 : A3 = B3
      · by_cases c4 : A4 = B4
        · by_cases c5 : A5 = B5
          · omega
          · omega
        · omega
      · omega
    · omega
  · omega

end Bs
end Go.Proofs.YtjngpafokkjkdaaGreatDoor
