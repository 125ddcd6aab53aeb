/- Several texts as one. -/
import Derived.Test.YtfpncbgedhodaaaDoorMgH
import Derived.Test.YtfpncbgedhodaaaDoorMgC
/-
  The law's own plain, handed, whole.
-/
set_option linter.unusedVariables false
set_option linter.unusedSimpArgs false
namespace Go.Proofs.YtfpncbgedhodaaaDoor
open Go.RowKit Go.Shelf
namespace Fd
open Oc Tg

set_option maxRecDepth 100000 in
set_option maxHeartbeats 2000000 in
theorem plain_any (v : Value) (t : List Fl) (w : World) (h : RdF v t w) (hl : t.length ≤ 16777216) :
    Calls Tryd.prog 9 #[v] w fun e w' => ∃ u, e = .returned u ∧ OwnF 67 w.heap.size u t w' ∧ Below w.heap.size w w' := by
  have HR : Hid (RdF v t w) := h
  obtain ⟨a, c, rfl, _⟩ := h
  go_enter Tryd.func9, Tryd.ntmps9
  go_wp2
  go_loopw [3, 8] (fun ov i wr => ∃ k : Nat, k ≤ t.length ∧ i = .int .i64 k ∧ Hid (OwnF 67 w.heap.size ov (t.take k) wr) ∧ Hid (Below w.heap.size w wr)) (fun _ i _ => t.length - (intOf i).toNat)
  case atStart => exact ⟨0, Nat.zero_le _, rfl, ownF_nil _ _ _, Below.refl _ _⟩
  case round =>
    obtain ⟨k, hk, rfl, hown, hbl⟩ := hrel
    have hsz := hbl.out.size
    by_cases hlt : k < t.length
    · obtain ⟨a', c', e', hcs⟩ := HR.out.below hbl.out
      injection e' with e1 _ e2
      subst e1 e2
      rcases hcs with h | ⟨g, o, rfl, hlc, hcell⟩
      · rw [h] at hlt; simp at hlt
      obtain ⟨p0, p1⟩ := hcell k hlt
      have HTk : Hid (t.take (k + 1) = t.take k ++ [nth t k]) := take_nth t k hlt
      have hlk : (t.take k).length + 1 ≤ 2147483648 := by rw [List.length_take]; omega
      generalize nth t k = p at *
      obtain ⟨pn, pv⟩ := p
      dsimp only at p0 p1
      generalize hn : str pn = N at p0
      generalize hv : str pv = V at p1
      have HN : Hid (N = str pn) := hn.symm
      have HV : Hid (V = str pv) := hv.symm
      have hb1 : Below wr.heap.size wr (wr.alloc (.cells #[.string N, .string V] 52)) := (Below.refl _ wr).alloc (Nat.le_refl _) _
      have HO1 : Hid (OwnF 67 w.heap.size _ (t.take k) (wr.alloc (.cells #[.string N, .string V] 52))) := hown.out.below hb1
      have HB1 : Hid (Below w.heap.size w (wr.alloc (.cells #[.string N, .string V] 52))) := bel_trans hbl.out hb1
      have hs1 : w.heap.size ≤ (wr.alloc (.cells #[.string N, .string V] 52)).heap.size := HB1.out.size
      clear hcell hn hv hb1
      go_wp2_with (at_builtin; go_must (refine wp_appF 67 26 infoF2 Tryd.underlying26 rfl (.tmp 12) (.tmp 18) rfl w.heap.size _ (t.take k) _ (pn, pv) _ _ HN.out HV.out rfl HO1.out _ rfl (by simp) hlk hs1 ?_); intro v6 w6 hown6 hb6)
      have HO6 : Hid (OwnF 67 w.heap.size v6 (t.take (k + 1)) w6) := (by rw [HTk.out]; exact hown6 : OwnF _ _ v6 (t.take (k + 1)) w6)
      have HB6 : Hid (Below w.heap.size w w6) := HB1.out.trans hb6
      clear hown6 hb6
      go_roundw
      case rel => exact ⟨k + 1, by omega, by go_num, HO6, HB6⟩
      case measure => simp [intOf]; omega
    · obtain rfl : k = t.length := by omega
      rw [List.take_length] at hown
      go_wp2
      go_ret
      exact ⟨_, rfl, hown.out, hbl.out⟩

/-- The two fields of spare room. -/
def spareF : List Fl := [([115, 112, 97, 114, 101], []), ([114, 111, 111, 109], [])]
theorem rd_two (w : World) (T : Nat) : InF (.slice (some ⟨w.heap.size, 0, none⟩) 2 2) spareF (w.alloc (.cells #[.string ⟨#[115, 112, 97, 114, 101]⟩, .string ⟨#[]⟩, .string ⟨#[114, 111, 111, 109]⟩, .string ⟨#[]⟩] T)) := by
  refine ⟨⟨_, _, rfl, .inr ⟨w.heap.size, 0, rfl, by simp [spareF], fun j hj => ?_⟩⟩, fun e => by cases e⟩
  have hj2 : j < 2 := by simpa [spareF] using hj
  match j, hj2 with
  | 0, _ => exact ⟨by simp [nth, spareF, str], by simp [nth, spareF, str]⟩
  | 1, _ => exact ⟨by simp [nth, spareF, str], by simp [nth, spareF, str]⟩
theorem RdF.front {a : Option Addr} {n c : Nat} {t u : List Fl} {w : World} (h : RdF (.slice a n c) (t ++ u) w) : RdF (.slice a t.length c) t w := by
  obtain ⟨a', c', e, h⟩ := h
  injection e with e1 e2 e3
  subst e1 e3
  refine ⟨a, c, rfl, ?_⟩
  rcases h with h | ⟨g, o, rfl, hc, hcell⟩
  · exact .inl (List.append_eq_nil_iff.1 h).1
  · refine .inr ⟨g, o, rfl, by rw [List.length_append] at hc; omega, fun j hj => ?_⟩
    have := hcell j (by rw [List.length_append]; omega)
    rw [show nth (t ++ u) j = nth t j by unfold nth; rw [List.getD_eq_getElem?_getD, List.getD_eq_getElem?_getD, List.getElem?_append_left hj]] at this
    exact this

theorem RdF.cap {a : Option Addr} {n c : Nat} {t : List Fl} {w : World} (h : RdF (.slice a n c) t w) : t.length ≤ c := by
  obtain ⟨a', c', e, h⟩ := h
  injection e with e1 e2 e3
  subst e3
  rcases h with h | ⟨g, o, _, hc, _⟩
  · rw [h]; exact Nat.zero_le _
  · exact hc
theorem RdF.some {a : Option Addr} {n c : Nat} {t : List Fl} {w : World} (h : RdF (.slice a n c) t w) (ht : t ≠ []) : ∃ g, a = .some g := by
  obtain ⟨a', c', e, h⟩ := h
  injection e with e1 e2 e3
  subst e1
  rcases h with h | ⟨g, o, e, _, _⟩
  · exact absurd h ht
  · exact ⟨_, e⟩

set_option maxRecDepth 100000 in
set_option maxHeartbeats 2000000 in
theorem handed_any (v : Value) (t : List Fl) (w : World) (h : InF v t w) (hl : t.length ≤ 16777216) :
    Calls Tryd.prog 8 #[v] w fun e w' => ∃ u f, e = .returned (.tuple #[u, f]) ∧ InF u t w' ∧ RdF f (t ++ spareF) w' ∧ Below w.heap.size w w' := by
  have HW : Hid (Calls _ _ _ _ _) := wide_any v t w h hl
  obtain ⟨⟨a, c, rfl, _⟩, _⟩ := h
  go_enter Tryd.func8, Tryd.ntmps8
  go_wp2_with fail
  refine HW.out.mono ?_
  rintro e w1 ⟨u, rfl, ho1, hb1⟩
  have HI : Hid (_) := rd_two w1 52
  have hb2 : Below w1.heap.size w1 (w1.alloc (.cells #[.string ⟨#[115, 112, 97, 114, 101]⟩, .string ⟨#[]⟩, .string ⟨#[114, 111, 111, 109]⟩, .string ⟨#[]⟩] 52)) := (Below.refl _ w1).alloc (Nat.le_refl _) _
  have HO : Hid (OwnF 52 w.heap.size u t (w1.alloc (.cells #[.string ⟨#[115, 112, 97, 114, 101]⟩, .string ⟨#[]⟩, .string ⟨#[114, 111, 111, 109]⟩, .string ⟨#[]⟩] 52))) := ho1.below hb2
  have HB : Hid (Below w.heap.size w (w1.alloc (.cells #[.string ⟨#[115, 112, 97, 114, 101]⟩, .string ⟨#[]⟩, .string ⟨#[114, 111, 111, 109]⟩, .string ⟨#[]⟩] 52))) := bel_trans hb1 hb2
  have hs : w.heap.size ≤ (w1.alloc (.cells #[.string ⟨#[115, 112, 97, 114, 101]⟩, .string ⟨#[]⟩, .string ⟨#[114, 111, 111, 109]⟩, .string ⟨#[]⟩] 52)).heap.size := HB.out.size
  clear ho1 hb1 hb2
  go_wp2_with (at_builtin; go_must (refine wp_appFs 52 22 infoF Tryd.underlying22 rfl (.tmp 6) (.tmp 9) rfl w.heap.size _ _ t spareF rfl HO.out rfl HI.out (by simp [spareF]; omega) hs ?_); intro v5 w5 o5 b5; obtain ⟨fa, fc, rfl⟩ := o5.form; have HO5 : Hid (OwnF _ _ _ _ _) := o5; have HB5 : Hid (Below w.heap.size w w5) := HB.out.trans b5; clear o5 b5; have hcap : t.length ≤ fc := by {have := HO5.out.rd.cap; rw [List.length_append] at this; omega}; rw [List.length_append, show spareF.length = 2 from rfl] at *)
  go_ret2
  refine ⟨_, _, rfl, ⟨HO5.out.rd.front, fun e => ?_⟩, HO5.out.rd, HB5.out⟩
  obtain ⟨g, rfl⟩ := HO5.out.rd.some (by simp [spareF])
  exact .inr ⟨g, fc, by rw [e]; rfl⟩

set_option maxRecDepth 100000 in
set_option maxHeartbeats 2000000 in
theorem whole_any (f v : Value) (t : List Fl) (w : World) (hf : RdF f (t ++ spareF) w) (h : RdF v t w) (hl : t.length ≤ 16777216) :
    Calls Tryd.prog 13 #[f, v] w fun e w' => e = .returned (.bool true) ∧ Below w.heap.size w w' := by
  have HP : Hid (Calls _ _ _ _ _) := plain_any v t w h hl
  have HF : Hid (RdF f (t ++ spareF) w) := hf
  obtain ⟨a, c, rfl, _⟩ := h
  obtain ⟨a', c', rfl, _⟩ := hf
  have hsp : (t ++ spareF).length ≤ 4294967296 := by rw [List.length_append, show spareF.length = 2 from rfl]; omega
  generalize hn : (t ++ spareF).length = n at *
  clear hn
  go_enter Tryd.func13, Tryd.ntmps13
  go_wp2_with fail
  refine HP.out.mono ?_
  rintro e w1 ⟨u, rfl, ho1, hb1⟩
  have HI : Hid (_) := rd_two w1 67
  have hb2 : Below w1.heap.size w1 (w1.alloc (.cells #[.string ⟨#[115, 112, 97, 114, 101]⟩, .string ⟨#[]⟩, .string ⟨#[114, 111, 111, 109]⟩, .string ⟨#[]⟩] 67)) := (Below.refl _ w1).alloc (Nat.le_refl _) _
  have HO : Hid (OwnF 67 w.heap.size u t (w1.alloc (.cells #[.string ⟨#[115, 112, 97, 114, 101]⟩, .string ⟨#[]⟩, .string ⟨#[114, 111, 111, 109]⟩, .string ⟨#[]⟩] 67))) := ho1.below hb2
  have HB : Hid (Below w.heap.size w (w1.alloc (.cells #[.string ⟨#[115, 112, 97, 114, 101]⟩, .string ⟨#[]⟩, .string ⟨#[114, 111, 111, 109]⟩, .string ⟨#[]⟩] 67))) := bel_trans hb1 hb2
  have hs : w.heap.size ≤ (w1.alloc (.cells #[.string ⟨#[115, 112, 97, 114, 101]⟩, .string ⟨#[]⟩, .string ⟨#[114, 111, 111, 109]⟩, .string ⟨#[]⟩] 67)).heap.size := HB.out.size
  clear ho1 hb1 hb2
  go_wp2_with (at_builtin; go_must (refine wp_appFs 67 26 infoF2 Tryd.underlying26 rfl (.tmp 7) (.tmp 10) rfl w.heap.size _ _ t spareF rfl HO.out rfl HI.out (by simp [spareF]; omega) hs ?_); intro v5 w5 o5 b5)
  have HB5 : Hid (Below w.heap.size w w5) := HB.out.trans b5
  have HS : Hid (Calls _ _ _ _ _) := same_any (.slice a' n c') v5 (t ++ spareF) w5 (HF.out.below HB5.out) o5.rd (by rw [List.length_append, show spareF.length = 2 from rfl]; omega)
  clear o5 b5
  go_wp2_with fail
  refine HS.out.mono ?_
  rintro e w6 ⟨rfl, hb6⟩
  have HB6 : Hid (Below w.heap.size w w6) := bel_trans HB5.out hb6
  clear hb6
  go_wp2
  go_ret
  exact ⟨rfl, HB6.out⟩

end Fd
end Go.Proofs.YtfpncbgedhodaaaDoor

/-
  Quoted texts, plainly: over lists of bytes.
-/
set_option linter.unusedVariables false
set_option linter.unusedSimpArgs false
namespace Go.Proofs.YtfpncbgedhodaaaDoor
namespace Oc

def qByte (c : UInt8) : List UInt8 := if c = 34 ∨ c = 92 then [92, c] else [c]
def qBody (l : List UInt8) : List UInt8 := l.flatMap qByte
def qText (l : List UInt8) : List UInt8 := 34 :: (qBody l ++ [34])
def quoteR (l : List UInt8) : List UInt8 × Int := if isFld l then (qText l, 0) else ([], 13)

theorem qBody_snoc (l : List UInt8) (c : UInt8) : qBody (l ++ [c]) = qBody l ++ qByte c := by unfold qBody; rw [List.flatMap_append]; simp
theorem qByte_le (c : UInt8) : (qByte c).length ≤ 2 := by unfold qByte; split <;> simp
theorem qBody_le : ∀ l : List UInt8, (qBody l).length ≤ 2 * l.length
  | [] => by simp [qBody]
  | c :: l => by
    have := qBody_le l
    have h := qByte_le c
    unfold qBody at *
    rw [List.flatMap_cons, List.length_append, List.length_cons]
    omega

/-- The rest of a quoted text behind its first sign: how many bytes up to its end. -/
def qscan : Bool → List UInt8 → Option Nat
  | _, [] => none
  | e, c :: l => if fieldB c = false then none else if e then (qscan false l).map (· + 1) else if c = 92 then (qscan true l).map (· + 1) else if c = 34 then some 1 else (qscan false l).map (· + 1)
def plusOne : Option Nat → Nat
  | some k => k + 1
  | none => 0
def qlen : List UInt8 → Nat
  | [] => 0
  | c :: l => if c = 34 then plusOne (qscan false l) else 0
theorem qlen_cons (c : UInt8) (l : List UInt8) : qlen (c :: l) = if c = 34 then plusOne (qscan false l) else 0 := rfl
/-- What parts say. -/
def psay : Bool → List UInt8 → List UInt8
  | _, [] => []
  | e, c :: l => if c = 92 ∧ e = false then psay true l else c :: psay false l
/-- The document's way: what it says, and how many bytes. -/
def ru : Bool → List UInt8 → Option (List UInt8 × Nat)
  | _, [] => none
  | true, c :: l => if fieldB c then (ru false l).map (fun x => (c :: x.1, x.2 + 1)) else none
  | false, c :: l => if c = 34 then some ([], 1) else if c = 92 then (ru true l).map (fun x => (x.1, x.2 + 1)) else if fieldB c then (ru false l).map (fun x => (c :: x.1, x.2 + 1)) else none

theorem field34 : fieldB 34 = true := by decide
theorem field92 : fieldB 92 = true := by decide

theorem qscan_pos : ∀ (l : List UInt8) (e : Bool) (k : Nat), qscan e l = some k → 1 ≤ k ∧ k ≤ l.length
  | [], e, k, h => by simp [qscan] at h
  | c :: l, e, k, h => by
    unfold qscan at h
    split at h
    · cases h
    · split at h
      · obtain ⟨j, hj, rfl⟩ := Option.map_eq_some_iff.1 h
        have := qscan_pos l _ j hj
        simp; omega
      · split at h
        · obtain ⟨j, hj, rfl⟩ := Option.map_eq_some_iff.1 h
          have := qscan_pos l _ j hj
          simp; omega
        · split at h
          · cases h; simp
          · obtain ⟨j, hj, rfl⟩ := Option.map_eq_some_iff.1 h
            have := qscan_pos l _ j hj
            simp; omega

theorem ru_eq : ∀ (l : List UInt8) (e : Bool), ru e l = (qscan e l).map (fun k => (psay e (l.take (k - 1)), k))
  | [], e => by cases e <;> rfl
  | c :: l, true => by
    unfold ru qscan
    cases hf : fieldB c with
    | false => simp
    | true =>
      simp only [if_true, Bool.true_eq_false, if_false]
      rw [ru_eq l false]
      cases hq : qscan false l with
      | none => rfl
      | some k =>
        have hk := qscan_pos l false k hq
        simp only [Option.map_some, Option.some.injEq, Prod.mk.injEq, and_true]
        rw [show k + 1 - 1 = (k - 1) + 1 by omega, List.take_succ_cons, psay]
        simp
  | c :: l, false => by
    unfold ru qscan
    by_cases h34 : c = 34
    · subst h34
      simp [field34, psay]
    · rw [if_neg h34]
      by_cases h92 : c = 92
      · subst h92
        simp only [field92, if_true, Bool.true_eq_false, if_false, Bool.false_eq_true]
        rw [ru_eq l true]
        cases hq : qscan true l with
        | none => rfl
        | some k =>
          have hk := qscan_pos l true k hq
          simp only [Option.map_some, Option.some.injEq, Prod.mk.injEq, and_true]
          rw [show k + 1 - 1 = (k - 1) + 1 by omega, List.take_succ_cons, psay]
          simp
      · rw [if_neg h92]
        cases hf : fieldB c with
        | false => simp
        | true =>
          simp only [if_true, Bool.true_eq_false, if_false, Bool.false_eq_true, if_neg h92, if_neg h34]
          rw [ru_eq l false]
          cases hq : qscan false l with
          | none => rfl
          | some k =>
            have hk := qscan_pos l false k hq
            simp only [Option.map_some, Option.some.injEq, Prod.mk.injEq, and_true]
            rw [show k + 1 - 1 = (k - 1) + 1 by omega, List.take_succ_cons, psay]
            simp [h92]

/-- What Unquote answers. -/
def unqR (l : List UInt8) : List UInt8 × Int × Int :=
  if qlen l = 0 then ([], 0, 13) else (psay false ((l.drop 1).take (qlen l - 2)), (qlen l : Int), 0)

theorem qlen_bd (l : List UInt8) : qlen l ≤ l.length ∧ (qlen l ≠ 0 → 2 ≤ qlen l) := by
  cases l with
  | nil => simp [qlen]
  | cons c l =>
    by_cases hc : c = 34
    · cases hq : qscan false l with
      | none => simp [qlen, plusOne, hc, hq]
      | some k =>
        have := qscan_pos l false k hq
        have e : qlen (c :: l) = k + 1 := by simp [qlen, plusOne, hc, hq]
        rw [e]
        simp
        omega
    · simp [qlen, hc]
theorem psay_le : ∀ (l : List UInt8) (e : Bool), (psay e l).length ≤ l.length
  | [], e => by simp [psay]
  | c :: l, e => by
    unfold psay
    split
    · have := psay_le l true
      simp; omega
    · have := psay_le l false
      simp; omega

/-- By the document's way. -/
theorem unqR_none (l : List UInt8) (h : ru false l = none) : unqR (34 :: l) = ([], 0, 13) := by
  rw [ru_eq] at h
  cases hq : qscan false l with
  | none => simp [unqR, qlen, plusOne, hq]
  | some k => rw [hq] at h; cases h
theorem unqR_some (l : List UInt8) (x : List UInt8 × Nat) (h : ru false l = some x) : unqR (34 :: l) = (x.1, (x.2 : Int) + 1, 0) := by
  rw [ru_eq] at h
  cases hq : qscan false l with
  | none => rw [hq] at h; cases h
  | some k =>
    rw [hq] at h
    simp only [Option.map_some, Option.some.injEq] at h
    have e : qlen (34 :: l) = k + 1 := by simp [qlen, plusOne, hq]
    unfold unqR
    rw [e, if_neg (by omega), ← h]
    simp

/-- What was quoted is read back, whatever stands behind. -/
theorem ru_body : ∀ (l : List UInt8) (r : List UInt8), isFld l = true → ru false (qBody l ++ 34 :: r) = some (l, (qBody l).length + 1)
  | [], r, _ => by simp [qBody, ru]
  | c :: l, r, h => by
    have hc : fieldB c = true ∧ isFld l = true := by simpa [isFld] using h
    have ih := ru_body l r hc.2
    have e : qBody (c :: l) = qByte c ++ qBody l := by unfold qBody; rw [List.flatMap_cons]
    rw [e, List.append_assoc]
    unfold qByte
    by_cases hq : c = 34 ∨ c = 92
    · rw [if_pos hq]
      show ru false (92 :: c :: (qBody l ++ 34 :: r)) = _
      rw [ru, if_neg (by decide), if_pos rfl, ru, if_pos hc.1, ih]
      simp
    · rw [if_neg hq]
      show ru false (c :: (qBody l ++ 34 :: r)) = _
      rw [ru, if_neg (fun h => hq (.inl h)), if_neg (fun h => hq (.inr h)), if_pos hc.1, ih]
      simp
theorem unqR_back (l r : List UInt8) (h : isFld l = true) : unqR (qText l ++ r) = (l, ((qText l).length : Int), 0) := by
  have e : qText l ++ r = 34 :: (qBody l ++ 34 :: r) := by unfold qText; simp
  rw [e, unqR_some _ _ (ru_body l r h)]
  unfold qText
  simp

end Oc
end Go.Proofs.YtfpncbgedhodaaaDoor

/-
  Lists, plainly: over lists of bytes.
-/
set_option linter.unusedVariables false
set_option linter.unusedSimpArgs false
namespace Go.Proofs.YtfpncbgedhodaaaDoor
namespace Oc

/-- An element that is not empty comes ahead. -/
def addEl (x : List UInt8) (t : List (List UInt8)) : List (List UInt8) := if x = [] then t else x :: t
/-- The elements: what stands since the last comma, and what is left; by fuel. -/
def lgo : Nat → List UInt8 → List UInt8 → Option (List (List UInt8))
  | 0, _, _ => none
  | f + 1, cur, [] => some (addEl (trim cur) [])
  | f + 1, cur, c :: r =>
    if c = 44 then (lgo f [] r).map (addEl (trim cur))
    else if c = 34 then (if qlen (c :: r) = 0 then none else lgo f (cur ++ (c :: r).take (qlen (c :: r))) ((c :: r).drop (qlen (c :: r))))
    else lgo f (cur ++ [c]) r
def lst (cur r : List UInt8) : Option (List (List UInt8)) := lgo (r.length + 1) cur r

theorem lgo_fuel : ∀ (n : Nat) (r : List UInt8) (f : Nat) (cur : List UInt8), r.length ≤ n → r.length < f → lgo f cur r = lst cur r
  | n, [], 0, cur, _, h => by simp at h
  | n, [], f + 1, cur, _, _ => rfl
  | 0, c :: r, f, cur, h, _ => by simp at h
  | n + 1, c :: r, 0, cur, _, h => by simp at h
  | n + 1, c :: r, f + 1, cur, hn, hf => by
    have hl : r.length ≤ n := by simpa using hn
    have hf' : r.length < f := by simpa using hf
    unfold lst
    show lgo (f + 1) cur (c :: r) = lgo (r.length + 1 + 1) cur (c :: r)
    rw [lgo, lgo]
    by_cases h44 : c = 44
    · rw [if_pos h44, if_pos h44, lgo_fuel n r f [] hl hf', lgo_fuel n r (r.length + 1) [] hl (by omega)]
    · rw [if_neg h44, if_neg h44]
      by_cases h34 : c = 34
      · rw [if_pos h34, if_pos h34]
        by_cases hq : qlen (c :: r) = 0
        · rw [if_pos hq, if_pos hq]
        · rw [if_neg hq, if_neg hq]
          have hd : ((c :: r).drop (qlen (c :: r))).length ≤ r.length := by
            rw [List.length_drop]
            simp
            omega
          rw [lgo_fuel n _ f _ (by omega) (by omega), lgo_fuel n _ (r.length + 1) _ (by omega) (by omega)]
      · rw [if_neg h34, if_neg h34, lgo_fuel n r f _ hl hf', lgo_fuel n r (r.length + 1) _ hl (by omega)]

theorem lst_nil (cur : List UInt8) : lst cur [] = some (addEl (trim cur) []) := rfl
theorem lst_comma (cur r : List UInt8) (c : UInt8) (h : c = 44) : lst cur (c :: r) = (lst [] r).map (addEl (trim cur)) := by
  unfold lst
  show lgo (r.length + 1 + 1) cur (c :: r) = _
  rw [lgo, if_pos h]
theorem lst_bad (cur r : List UInt8) (c : UInt8) (h : c = 34) (hq : qlen (c :: r) = 0) : lst cur (c :: r) = none := by
  unfold lst
  show lgo (r.length + 1 + 1) cur (c :: r) = _
  rw [lgo, if_neg (by rw [h]; decide), if_pos h, if_pos hq]
theorem lst_quote (cur r : List UInt8) (c : UInt8) (h : c = 34) (hq : ¬ qlen (c :: r) = 0) : lst cur (c :: r) = lst (cur ++ (c :: r).take (qlen (c :: r))) ((c :: r).drop (qlen (c :: r))) := by
  have hd : ((c :: r).drop (qlen (c :: r))).length ≤ r.length := by
    rw [List.length_drop]
    simp
    omega
  rw [← lgo_fuel ((c :: r).drop (qlen (c :: r))).length _ (r.length + 1) _ (Nat.le_refl _) (by omega)]
  unfold lst
  show lgo (r.length + 1 + 1) cur (c :: r) = _
  rw [lgo, if_neg (by rw [h]; decide), if_pos h, if_neg hq]
theorem lst_on (cur r : List UInt8) (c : UInt8) (h : c ≠ 44) (h2 : c ≠ 34) : lst cur (c :: r) = lst (cur ++ [c]) r := by
  unfold lst
  show lgo (r.length + 1 + 1) cur (c :: r) = _
  rw [lgo, if_neg h, if_neg h2]

/-- What List answers. -/
def listR (l : List UInt8) : List (List UInt8) × Int := match lst [] l with | some t => (t, 0) | none => ([], 14)
theorem listR_some {l : List UInt8} {t : List (List UInt8)} (h : lst [] l = some t) : listR l = (t, 0) := by unfold listR; rw [h]
theorem listR_none {l : List UInt8} (h : lst [] l = none) : listR l = ([], 14) := by unfold listR; rw [h]
theorem addEl_none {x : List UInt8} (h : x = []) (t : List (List UInt8)) : addEl x t = t := by unfold addEl; rw [if_pos h]
theorem addEl_some {x : List UInt8} (h : x ≠ []) (t : List (List UInt8)) : addEl x t = x :: t := by unfold addEl; rw [if_neg h]
theorem addEl_app (x : List UInt8) (t : List (List UInt8)) : addEl x t = addEl x [] ++ t := by unfold addEl; split <;> simp

/-! What follows -/
theorem scan_append : ∀ (l x : List UInt8) (e : Bool) (k : Nat), qscan e l = some k → qscan e (l ++ x) = some k
  | [], x, e, k, h => by simp [qscan] at h
  | c :: l, x, e, k, h => by
    rw [List.cons_append]
    rw [qscan] at h ⊢
    split at h
    · cases h
    · rename_i hf
      rw [if_neg hf]
      split at h
      · rename_i he
        rw [if_pos he]
        obtain ⟨j, hj, rfl⟩ := Option.map_eq_some_iff.1 h
        rw [scan_append l x _ j hj]
        rfl
      · rename_i he
        rw [if_neg he]
        split at h
        · rename_i h92
          rw [if_pos h92]
          obtain ⟨j, hj, rfl⟩ := Option.map_eq_some_iff.1 h
          rw [scan_append l x _ j hj]
          rfl
        · rename_i h92
          rw [if_neg h92]
          split at h
          · rename_i h34
            rw [if_pos h34]
            exact h
          · rename_i h34
            rw [if_neg h34]
            obtain ⟨j, hj, rfl⟩ := Option.map_eq_some_iff.1 h
            rw [scan_append l x _ j hj]
            rfl
theorem qlen_append (l x : List UInt8) (h : ¬ qlen l = 0) : qlen (l ++ x) = qlen l := by
  cases l with
  | nil => exact absurd rfl h
  | cons c l =>
    rw [List.cons_append, qlen_cons, qlen_cons]
    rw [qlen_cons] at h
    by_cases hc : c = 34
    · rw [if_pos hc] at h ⊢
      rw [if_pos hc]
      cases hq : qscan false l with
      | none => rw [hq] at h; exact absurd rfl h
      | some k => rw [scan_append l x false k hq]
    · rw [if_neg hc] at h; exact absurd rfl h

theorem lst_split : ∀ (n : Nat) (a : List UInt8) (cur b : List UInt8) (t : List (List UInt8)), a.length ≤ n → lst cur a = some t → lst cur (a ++ 44 :: b) = (lst [] b).map (t ++ ·)
  | n, [], cur, b, t, _, h => by
    rw [lst_nil] at h
    cases h
    rw [List.nil_append, lst_comma _ _ _ rfl]
    congr 1
    funext x
    exact addEl_app _ x
  | 0, c :: a, cur, b, t, hn, _ => by simp at hn
  | n + 1, c :: a, cur, b, t, hn, h => by
    have hl : a.length ≤ n := by simpa using hn
    rw [List.cons_append]
    by_cases h44 : c = 44
    · rw [lst_comma _ _ _ h44] at h ⊢
      obtain ⟨u, hu, rfl⟩ := Option.map_eq_some_iff.1 h
      rw [lst_split n a [] b u hl hu, Option.map_map]
      congr 1
      funext x
      show addEl _ (u ++ x) = addEl _ u ++ x
      unfold addEl
      split <;> rfl
    · by_cases h34 : c = 34
      · by_cases hq : qlen (c :: a) = 0
        · rw [lst_bad _ _ _ h34 hq] at h; cases h
        · rw [lst_quote _ _ _ h34 hq] at h
          have e := qlen_append (c :: a) (44 :: b) hq
          rw [List.cons_append] at e
          rw [lst_quote _ _ _ h34 (by rw [e]; exact hq), e]
          have hb := qlen_bd (c :: a)
          have e1 : (c :: (a ++ 44 :: b)).take (qlen (c :: a)) = (c :: a).take (qlen (c :: a)) := by
            rw [← List.cons_append, List.take_append_of_le_length hb.1]
          have e2 : (c :: (a ++ 44 :: b)).drop (qlen (c :: a)) = (c :: a).drop (qlen (c :: a)) ++ 44 :: b := by
            rw [← List.cons_append, List.drop_append_of_le_length hb.1]
          rw [e1, e2]
          exact lst_split n _ _ b t (by rw [List.length_drop]; simp; omega) h
      · rw [lst_on _ _ _ h44 h34] at h ⊢
        exact lst_split n a _ b t hl h

theorem trim_blank (l : List UInt8) : trim (32 :: l) = trim l := by
  unfold trim
  rw [trimL_cons, if_pos (by decide)]
theorem lst_blank : ∀ (n : Nat) (r cur : List UInt8), r.length ≤ n → lst (32 :: cur) r = lst cur r
  | n, [], cur, _ => by rw [lst_nil, lst_nil, trim_blank]
  | 0, c :: r, cur, h => by simp at h
  | n + 1, c :: r, cur, h => by
    have hl : r.length ≤ n := by simpa using h
    by_cases h44 : c = 44
    · rw [lst_comma _ _ _ h44, lst_comma _ _ _ h44, trim_blank]
    · by_cases h34 : c = 34
      · by_cases hq : qlen (c :: r) = 0
        · rw [lst_bad _ _ _ h34 hq, lst_bad _ _ _ h34 hq]
        · rw [lst_quote _ _ _ h34 hq, lst_quote _ _ _ h34 hq, List.cons_append]
          exact lst_blank n _ _ (by rw [List.length_drop]; simp; omega)
      · rw [lst_on _ _ _ h44 h34, lst_on _ _ _ h44 h34, List.cons_append]
        exact lst_blank n r _ hl

end Oc
end Go.Proofs.YtfpncbgedhodaaaDoor
