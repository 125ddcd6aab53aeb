/-
  tag: tags, List.
-/
import Derived.Test.YtjngpafokkjkdaaGreatDoorTGa
set_option linter.unusedVariables false
set_option linter.unusedSimpArgs false
namespace Go.Proofs.YtjngpafokkjkdaaGreatDoor
open Go.RowKit Go.Shelf
namespace Tt
open Oc Tg

/-- The tags of a list from a place on: the tags, the place where it ends or goes wrong, whether it is one. -/
def tagsR (L : List UInt8) : Nat → Nat → Bool → List Tg1 → List Tg1 × Nat × Bool
  | 0, k, _, acc => (acc, k, false)
  | f + 1, k, fl, acc =>
    if k < L.length then
      if blankB (L.getD k 0) = true then tagsR L f (k + 1) fl acc
      else if L.getD k 0 = 44 then tagsR L f (k + 1) false acc
      else if fl = true then ([], k, false)
      else if (frontR (L.drop k)).2.2 = true then tagsR L f (k + (frontR (L.drop k)).2.1) true (acc ++ [(frontR (L.drop k)).1])
      else ([], k + (frontR (L.drop k)).2.1, false)
    else (acc, k, !acc.isEmpty)
def tagsL (L : List UInt8) : List Tg1 × Nat × Bool := tagsR L (L.length + 1) 0 false []
/-- What a text says as a condition of tags. -/
def listT (l : List UInt8) : List Tg1 × Bool × Nat × Int :=
  if trim l = [42] then ([], true, 0, 0)
  else if (tagsL (trim l)).2.2 = true then ((tagsL (trim l)).1, false, 0, 0)
  else if (tagsL (trim l)).2.1 = (trim l).length then ([], false, l.length, 81)
  else ([], false, Fd.lead l + (tagsL (trim l)).2.1, 81)
/-- On the way: these tags so far. -/
def MidT (L : List UInt8) (k : Nat) (fl : Bool) (acc : List Tg1) : Prop := k ≤ L.length ∧ acc.length * 2 ≤ k ∧ ∃ f, L.length < k + f ∧ tagsL L = tagsR L f k fl acc
theorem MidT.start (L : List UInt8) : MidT L 0 false [] := ⟨by omega, by simp, L.length + 1, by omega, rfl⟩
theorem MidT.blank {L : List UInt8} {k : Nat} {fl : Bool} {acc : List Tg1} (h : MidT L k fl acc) (hk : k < L.length) (hb : blankB (L.getD k 0) = true) : MidT L (k + 1) fl acc := by
  obtain ⟨h1, h2, f, h3, h4⟩ := h
  obtain ⟨g, rfl⟩ : ∃ g, f = g + 1 := ⟨f - 1, by omega⟩
  refine ⟨hk, by omega, g, by omega, ?_⟩
  rw [h4, tagsR, if_pos hk, if_pos hb]
theorem MidT.comma {L : List UInt8} {k : Nat} {fl : Bool} {acc : List Tg1} (h : MidT L k fl acc) (hk : k < L.length) (hb : blankB (L.getD k 0) = false) (hc : L.getD k 0 = 44) : MidT L (k + 1) false acc := by
  obtain ⟨h1, h2, f, h3, h4⟩ := h
  obtain ⟨g, rfl⟩ : ∃ g, f = g + 1 := ⟨f - 1, by omega⟩
  refine ⟨hk, by omega, g, by omega, ?_⟩
  rw [h4, tagsR, if_pos hk, if_neg (by rw [hb]; simp), if_pos hc]
theorem MidT.full {L : List UInt8} {k : Nat} {acc : List Tg1} (h : MidT L k true acc) (hk : k < L.length) (hb : blankB (L.getD k 0) = false) (hc : L.getD k 0 ≠ 44) : tagsL L = ([], k, false) := by
  obtain ⟨h1, h2, f, h3, h4⟩ := h
  obtain ⟨g, rfl⟩ : ∃ g, f = g + 1 := ⟨f - 1, by omega⟩
  rw [h4, tagsR, if_pos hk, if_neg (by rw [hb]; simp), if_neg hc, if_pos rfl]
theorem MidT.tag {L : List UInt8} {k : Nat} {acc : List Tg1} (h : MidT L k false acc) (hk : k < L.length) (hb : blankB (L.getD k 0) = false) (hc : L.getD k 0 ≠ 44) (hf : (frontR (L.drop k)).2.2 = true) : MidT L (k + (frontR (L.drop k)).2.1) true (acc ++ [(frontR (L.drop k)).1]) := by
  obtain ⟨h1, h2, f, h3, h4⟩ := h
  obtain ⟨g, rfl⟩ : ∃ g, f = g + 1 := ⟨f - 1, by omega⟩
  have hp := (frontR_pos _ hf).1
  have hl := frontR_le (L.drop k)
  rw [List.length_drop] at hl
  refine ⟨by omega, by simp; omega, g, by omega, ?_⟩
  rw [h4, tagsR, if_pos hk, if_neg (by rw [hb]; simp), if_neg hc, if_neg (by simp), if_pos hf]
theorem MidT.bad {L : List UInt8} {k : Nat} {acc : List Tg1} (h : MidT L k false acc) (hk : k < L.length) (hb : blankB (L.getD k 0) = false) (hc : L.getD k 0 ≠ 44) (hf : (frontR (L.drop k)).2.2 = false) : tagsL L = ([], k + (frontR (L.drop k)).2.1, false) := by
  obtain ⟨h1, h2, f, h3, h4⟩ := h
  obtain ⟨g, rfl⟩ : ∃ g, f = g + 1 := ⟨f - 1, by omega⟩
  rw [h4, tagsR, if_pos hk, if_neg (by rw [hb]; simp), if_neg hc, if_neg (by simp), if_neg (by rw [hf]; simp)]
theorem MidT.last {L : List UInt8} {k : Nat} {fl : Bool} {acc : List Tg1} (h : MidT L k fl acc) (hk : ¬ k < L.length) : tagsL L = (acc, k, !acc.isEmpty) := by
  obtain ⟨h1, h2, f, h3, h4⟩ := h
  obtain ⟨g, rfl⟩ : ∃ g, f = g + 1 := ⟨f - 1, by omega⟩
  rw [h4, tagsR, if_neg hk]

theorem frontR_any (s : ByteArray) (L : List UInt8) (hL : s.data.toList = L) (hs : s.size ≤ 4000000000) (w : World) :
    Calls Tryz.prog 26 #[.string s] w fun e w' => ∃ t : Tg1, e = .returned (.tuple #[.agg #[.bool t.1, .string (str t.2)], .int .i64 ((frontR L).2.1 : Nat), .bool (frontR L).2.2]) ∧ ((frontR L).2.2 = true → t = (frontR L).1) ∧ Below w.heap.size w w' := by
  subst hL
  refine (front_any s hs w).mono ?_
  rintro e w' ⟨rfl, hb⟩
  obtain ⟨e1, e2⟩ := front_eq s.data.toList
  exact ⟨_, by rw [e1], fun h => e2 (by rw [e1]; exact h), hb⟩

theorem OwnT.lower {T B B' : Nat} {v : Value} {t : List Tg1} {w : World} (h : OwnT T B v t w) (hB : B' ≤ B) : OwnT T B' v t w := by
  refine ⟨h.1, ?_⟩
  rcases h.2 with hn | ⟨g, cap, cur, hv, hb, rest⟩
  · exact .inl hn
  · exact .inr ⟨g, cap, cur, hv, Nat.le_trans hB hb, rest⟩
theorem OwnT.form {T B : Nat} {v : Value} {t : List Tg1} {w : World} (h : OwnT T B v t w) : ∃ a c, v = .slice a t.length c := by
  rcases h.2 with ⟨rfl, h0⟩ | ⟨g, cap, cur, rfl, _⟩
  · exact ⟨none, 0, by rw [h0]⟩
  · exact ⟨_, _, rfl⟩

set_option maxRecDepth 100000 in
set_option maxHeartbeats 2000000 in
theorem tags_any (s : ByteArray) (hs : s.size ≤ 2000000000) (w : World) :
    Calls Tryz.prog 96 #[.string s] w fun e w' => ∃ v, e = .returned (.tuple #[v, .int .i64 ((tagsL s.data.toList).2.1 : Nat), .bool (tagsL s.data.toList).2.2]) ∧ OwnT 26 w.heap.size v (tagsL s.data.toList).1 w' ∧ Below w.heap.size w w' := by
  have hlen : s.data.toList.length = s.size := size_list s
  have HAT : Hid (∀ k (h : k < s.size), ((s[k].toNat : Nat) : Int) = ((s.data.toList.getD k 0).toNat : Int)) := fun k h => byt_at s k h
  have HX : Hid (∀ k, (s.extract k s.size).data.toList = s.data.toList.drop k) := fun k => by
    rw [Lib.extract_data, List.take_of_length_le]
    rw [List.length_drop, size_list]
    omega
  generalize s.data.toList = L at *
  go_enter Tryz.func96, Tryz.ntmps96
  go_wp2
  go_loopw [5, 6, 7] (fun v i fl wr => ∃ (k : Nat) (f : Bool) (acc : List Tg1), k ≤ s.size ∧ i = .int .i64 k ∧ fl = .bool f ∧ Hid (MidT L k f acc) ∧ Hid (OwnT 26 w.heap.size v acc wr) ∧ Hid (Below w.heap.size w wr)) (fun _ i _ _ => s.size - (intOf i).toNat)
  case atStart => exact ⟨0, false, [], Nat.zero_le _, rfl, rfl, MidT.start L, ownT_nil _ _ _, Below.refl _ _⟩
  case round =>
    obtain ⟨k, f, acc, hk, rfl, rfl, hm, ho, hb⟩ := hrel
    obtain ⟨va, vc, hv⟩ := ho.out.form
    subst hv
    have hacc := hm.out.2.1
    by_cases hlt : k < s.size
    · have hkL : k < L.length := by rw [hlen]; exact hlt
      have hby := HAT.out k hlt
      have hcb := (L.getD k 0).toNat_lt
      have HBL : Hid (blankB (L.getD k 0) = blankI ((L.getD k 0).toNat : Int)) := (rfl : _ = _)
      generalize hci : ((L.getD k 0).toNat : Int) = ci at hby HBL
      have HCI : Hid (((L.getD k 0).toNat : Int) = ci) := hci
      have h0 : 0 ≤ ci := by omega
      have h1 : ci ≤ 255 := by omega
      clear hci hcb
      by_cases hbl : ci = 32 ∨ ci = 9
      · have HN : Hid (MidT L (k + 1) f acc) := hm.out.blank hkL (HBL.out.trans (blankI_t hbl))
        clear HBL HCI
        rcases hbl with rfl | rfl
        · go_wp2
          go_roundw
          case rel => exact ⟨k + 1, f, acc, by omega, by go_num, rfl, HN, ho, hb⟩
          case measure => simp [intOf]; omega
        · go_wp2
          go_roundw
          case rel => exact ⟨k + 1, f, acc, by omega, by go_num, rfl, HN, ho, hb⟩
          case measure => simp [intOf]; omega
      · have hbf := HBL.out.trans (blankI_f hbl)
        have q1 : (ci == 32) = false := by simp; omega
        have q2 : (ci == 9) = false := by simp; omega
        by_cases h44 : ci = 44
        · have HN : Hid (MidT L (k + 1) false acc) := hm.out.comma hkL hbf (byte_eq (n := 44) (by omega) (by rw [HCI.out, h44]; rfl))
          subst h44
          clear HBL HCI hbf
          go_wp2
          go_roundw
          case rel => exact ⟨k + 1, false, acc, by omega, by go_num, rfl, HN, ho, hb⟩
          case measure => simp [intOf]; omega
        · have n44 : L.getD k 0 ≠ 44 := byte_ne (n := 44) (by omega) (by rw [HCI.out]; exact_mod_cast h44)
          have q3 : (ci == 44) = false := by simp; omega
          cases f with
          | true =>
            have HE : Hid (tagsL L = ([], k, false)) := hm.out.full hkL hbf n44
            clear HBL HCI hbf n44 hm
            go_wp2
            go_ret3
            rw [HE.out]
            exact ⟨_, rfl, ownT_nil _ _ _, hb.out⟩
          | false =>
            have HF : Hid (∀ w, Calls Tryz.prog 26 #[.string (s.extract k s.size)] w fun e w' => ∃ t : Tg1, e = .returned (.tuple #[.agg #[.bool t.1, .string (str t.2)], .int .i64 ((frontR (L.drop k)).2.1 : Nat), .bool (frontR (L.drop k)).2.2]) ∧ ((frontR (L.drop k)).2.2 = true → t = (frontR (L.drop k)).1) ∧ Below w.heap.size w w') := fun w => frontR_any _ _ (HX.out k) (by simp; omega) w
            have hfl := frontR_le (L.drop k)
            rw [List.length_drop, hlen] at hfl
            have HT : (frontR (L.drop k)).2.2 = true → Hid (MidT L (k + (frontR (L.drop k)).2.1) true (acc ++ [(frontR (L.drop k)).1])) := fun h => hm.out.tag hkL hbf n44 h
            have HG : (frontR (L.drop k)).2.2 = false → Hid (tagsL L = ([], k + (frontR (L.drop k)).2.1, false)) := fun h => hm.out.bad hkL hbf n44 h
            have HPO : (frontR (L.drop k)).2.2 = true → 2 ≤ (frontR (L.drop k)).2.1 := fun h => (frontR_pos _ h).1
            clear HBL HCI hbf n44 hm HAT HX
            generalize frontR (L.drop k) = F at *
            obtain ⟨Ft, Fn, Fo⟩ := F
            dsimp only at *
            cases Fo with
            | true =>
              have HN := HT rfl
              have hpo := HPO rfl
              clear HT HG HPO
              go_wp2_with fail
              refine (HF.out _).mono ?_
              rintro e w2 ⟨t, rfl, ht, hb2⟩
              obtain rfl := ht trivial
              clear ht
              obtain ⟨tb, tl⟩ := t
              dsimp only at *
              generalize hq : str tl = Q at *
              have HQ : Hid (Q = str tl) := hq.symm
              clear hq
              have HO2 : Hid (OwnT 26 w.heap.size (.slice va acc.length vc) acc (w2.alloc (.cells #[.bool tb, .string Q] 26))) := ((ho.out.below hb2).below ((Below.refl _ w2).alloc (Nat.le_refl _) _) : OwnT _ _ _ _ _)
              have HB2 : Hid (Below w.heap.size w (w2.alloc (.cells #[.bool tb, .string Q] 26))) := (bel_trans hb.out hb2).alloc (bel_trans hb.out hb2).size _
              have hs2 : w.heap.size ≤ (w2.alloc (.cells #[.bool tb, .string Q] 26)).heap.size := HB2.out.size
              have hlk : acc.length + 1 ≤ 2147483648 := by omega
              clear hb2
              go_wp2_with (at_builtin; go_must (refine wp_appT 26 116 infoT Tryz.underlying116 rfl (.tmp 33) (.tmp 35) rfl w.heap.size _ acc _ (tb, tl) _ _ rfl HQ.out rfl HO2.out _ rfl (by simp) hlk hs2 ?_); intro v6 w6 hown6 hb6)
              have HO6 : Hid (OwnT 26 w.heap.size v6 (acc ++ [(tb, tl)]) w6) := hown6
              have HB6 : Hid (Below w.heap.size w w6) := HB2.out.trans hb6
              clear hown6 hb6
              go_roundw
              case rel => exact ⟨k + Fn, true, acc ++ [(tb, tl)], by omega, by go_num, rfl, HN, HO6, HB6⟩
              case measure => simp [intOf]; omega
            | false =>
              have HE := HG rfl
              clear HT HG HPO
              go_wp2_with fail
              refine (HF.out _).mono ?_
              rintro e w2 ⟨t, rfl, ht, hb2⟩
              have HB2 : Hid (Below w.heap.size w w2) := bel_trans hb.out hb2
              clear ht hb2
              go_wp2
              go_ret3
              rw [HE.out]
              exact ⟨_, by go_num, ownT_nil _ _ _, HB2.out.alloc HB2.out.size _⟩
    · have HE : Hid (tagsL L = (acc, k, !acc.isEmpty)) := hm.out.last (by rw [hlen]; exact hlt)
      have HD : Hid (decide (0 < acc.length) = !acc.isEmpty) := by
        show _ = _
        cases acc with
        | nil => simp
        | cons a r => simp
      clear hm
      go_wp2
      go_ret3
      rw [HE.out, ← HD.out]
      exact ⟨_, rfl, ho.out, hb.out⟩

end Tt
end Go.Proofs.YtjngpafokkjkdaaGreatDoor
