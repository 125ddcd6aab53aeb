/- Several texts as one. -/
import Derived.Test.YtjngpafokkjkdaaGreatDoorMgE
import Derived.Test.YtjngpafokkjkdaaGreatDoorMgG
import Derived.Deep.QuietTactic
import Derived.Maps.AppendAt
/-
  Slices of tags: of the call's own, read.
-/
set_option linter.unusedVariables false
set_option linter.unusedSimpArgs false
namespace Go.Proofs.YtjngpafokkjkdaaGreatDoor
open Go.RowKit Go.Shelf
namespace Tt
open Oc Tg

abbrev Fl := Tg1
def encT1 (p : Fl) : List Value := [.bool p.1, .string (str p.2)]
def encT (ps : List Fl) : List Value := ps.flatMap encT1
theorem encT_snoc (ps : List Fl) (p : Fl) : encT (ps ++ [p]) = encT ps ++ encT1 p := by unfold encT; rw [List.flatMap_append]; simp
theorem encT_len : ∀ ps : List Fl, (encT ps).length = ps.length * 2
  | [] => rfl
  | p :: ps => by
    have := encT_len ps
    unfold encT at *
    rw [List.flatMap_cons, List.length_append, this, List.length_cons]
    show 2 + _ = _
    omega
/-- A slice of parameters (of the type T) of the call's own. -/
def OwnT (T B : Nat) (v : Value) (ps : List Fl) (w : World) : Prop := w.ownsRow B T 2 v ps.length (encT ps)
theorem ownT_nil (T B : Nat) (w : World) : OwnT T B (.slice none 0 0) [] w := World.ownsRow_nil w B T 2
theorem ownT_empty {B : Nat} (T : Nat) (w : World) (hB : B ≤ w.heap.size) : OwnT T B (.slice (some ⟨w.heap.size, 0, none⟩) 0 0) [] (w.alloc (.cells #[] T)) :=
  ⟨by simp [encT], .inr ⟨w.heap.size, 0, #[], rfl, hB, heap_alloc_new w _, by simp, by decide, by simp, by simp [encT]⟩⟩
theorem OwnT.below {T B : Nat} {v : Value} {t : List Fl} {w w' : World} (h : OwnT T B v t w) (b : Below w.heap.size w w') : OwnT T B v t w' := by
  refine ⟨h.1, ?_⟩
  rcases h.2 with hn | ⟨g, cap, cur, rfl, hb, hg, rest⟩
  · exact .inl hn
  · refine .inr ⟨g, cap, cur, rfl, hb, ?_, rest⟩
    have hlt : g < w.heap.size := by
      rcases Nat.lt_or_ge g w.heap.size with h | h
      · exact h
      · simp [Array.getElem?_eq_none h] at hg
    rw [b.block g hlt]
    exact hg

/-- A parameter appended to a slice of the call's own. -/
theorem wp_appT {ops : Array Oper} {rest : List Oper} {o : Oper} {a : Act} {Q : Exit → Act → World → Prop} (T S : Nat) (hinfo : (Tryz.prog.info? T).map (fun i => (i.zero, i.size, i.bytes)) = some (some (.agg #[.bool false, .string ⟨#[]⟩]), 2, 24))
    (hund : Tryz.prog.underlying S = some (.slice T)) (hgd : o.guard = none) (s x : Operand)
    (ho : o.op = .call { callee := .builtin .append, args := #[s, x], argTypes := #[S, S] }) (B : Nat) (v : Value) (t : List Fl) (W : World) (p : Fl) (n1 : Bool) (n2 : ByteArray) (h1 : n1 = p.1) (h2 : n2 = str p.2)
    (hs : a.eval s = v) (hown : OwnT T B v t W) (g : Nat) (hx : a.eval x = .slice (some ⟨g, 0, none⟩) 1 1) (hg : g = W.heap.size) (hlen : t.length + 1 ≤ 2147483648) (hB : B ≤ W.heap.size)
    (h : ∀ v' w', OwnT T B v' (t ++ [p]) w' → Below B W w' → wpList Tryz.prog ops Q rest (a.put o.dst v') w') : wpList Tryz.prog ops Q (o :: rest) a (W.alloc (.cells #[.bool n1, .string n2] T)) := by
  subst h1 h2 hg
  obtain ⟨i0, hi, hz0, hz1, hz2⟩ := info_parts hinfo
  refine wpList_append_own _ hgd s x S ho B T i0 (.agg #[.bool false, .string ⟨#[]⟩]) 2 24 hund hi hz0 hz1 hz2 rfl (by decide) v t.length _ hs (World.ownsRow.alloc hown _) ⟨W.heap.size, 0, none⟩ 1 1 (encT1 p) hx rfl ?_ ?_ ?_ ?_ ?_ ?_
  · intro j u hj
    unfold encT1 at hj
    match j, hj with
    | 0, hj => simp at hj; subst hj; simp [Addr.add]
    | 1, hj => simp at hj; subst hj; simp [Addr.add]
  · intro u hu
    unfold encT1 at hu
    simp at hu
    rcases hu with rfl | rfl <;> rfl
  · unfold maxLen; omega
  · omega
  · simp; omega
  · intro v' w' h1 h2 _
    refine h v' w' ?_ (((Below.refl B W).alloc hB _).grown h2 (by simp; omega) (fun k hk => (World.ownsRow.lt hown k hk).1))
    unfold OwnT
    rw [encT_snoc, List.length_append]
    exact h1

theorem infoT : (Tryz.prog.info? 26).map (fun i => (i.zero, i.size, i.bytes)) = some (some (.agg #[.bool false, .string ⟨#[]⟩]), 2, 24) := by kernel_rfl

def nth (t : List Fl) (j : Nat) : Fl := t.getD j (false, [])
/-- A slice that reads as these parameters. -/
def RdT (v : Value) (t : List Fl) (w : World) : Prop :=
  ∃ a c, v = .slice a t.length c ∧ (t = [] ∨ ∃ g o, a = some ⟨g, o, none⟩ ∧ t.length ≤ c ∧ ∀ j, j < t.length → w.cell? ⟨g, o + j * 2, none⟩ = some (.bool (nth t j).1) ∧ w.cell? ⟨g, o + j * 2 + 1, none⟩ = some (.string (str (nth t j).2)))
theorem encT_at : ∀ (t : List Fl) (j : Nat), j < t.length → (encT t)[j * 2]? = some (.bool (nth t j).1) ∧ (encT t)[j * 2 + 1]? = some (.string (str (nth t j).2))
  | [], j, h => by simp at h
  | p :: t, 0, _ => ⟨rfl, rfl⟩
  | p :: t, j + 1, h => by
    have ih := encT_at t j (by simpa using h)
    have e : encT (p :: t) = [.bool p.1, .string (str p.2)] ++ encT t := rfl
    rw [e]
    have n : nth (p :: t) (j + 1) = nth t j := by unfold nth; simp
    rw [n, show (j + 1) * 2 = j * 2 + 2 by omega, show j * 2 + 2 + 1 = (j * 2 + 1) + 2 by omega]
    exact ih
theorem OwnT.rd {T B : Nat} {v : Value} {t : List Fl} {w : World} (h : OwnT T B v t w) : RdT v t w := by
  have hall := h
  rcases h.2 with ⟨rfl, h0⟩ | ⟨g, cap, cur, rfl, _, hg, hn, _⟩
  · exact ⟨none, 0, by rw [h0], .inl (List.length_eq_zero_iff.1 h0)⟩
  · refine ⟨_, _, rfl, .inr ⟨g, 0, rfl, by omega, fun j hj => ?_⟩⟩
    obtain ⟨e0, e1⟩ := encT_at t j hj
    have ea : ∀ k, Addr.add ⟨g, 0, none⟩ k = ⟨g, 0 + k, none⟩ := fun k => by unfold Addr.add; split <;> simp_all
    have c0 := World.ownsRow.cells hall (g := g) rfl _ _ e0
    have c1 := World.ownsRow.cells hall (g := g) rfl _ _ e1
    rw [ea] at c0 c1
    exact ⟨c0, c1⟩
theorem RdT.below {v : Value} {t : List Fl} {w w' : World} (h : RdT v t w) (b : Below w.heap.size w w') : RdT v t w' := by
  obtain ⟨a, c, rfl, h⟩ := h
  refine ⟨a, c, rfl, ?_⟩
  rcases h with h | ⟨g, o, e, hc, hcell⟩
  · exact .inl h
  · refine .inr ⟨g, o, e, hc, fun j hj => ?_⟩
    obtain ⟨h1, h2⟩ := hcell j hj
    rw [b.cell (p := ⟨g, o + j * 2, none⟩) (World.block_lt_of_cell? w _ h1), b.cell (p := ⟨g, o + j * 2 + 1, none⟩) (World.block_lt_of_cell? w _ h2)]
    exact ⟨h1, h2⟩

theorem infoT2 : (Tryz.prog.info? 36).map (fun i => (i.zero, i.size, i.bytes)) = some (some (.agg #[.bool false, .string ⟨#[]⟩]), 2, 24) := by kernel_rfl

theorem drawn_again (w : World) (n m : Nat) : Hid (∃ k, w.drewN (n + m) = w.drewN k) := ⟨_, rfl⟩
theorem below_drew (w : World) (n : Nat) : Below w.heap.size w (w.drewN n) := below_drewN (Below.refl _ w) n
theorem RdT.drew {v : Value} {t : List Fl} {w : World} (h : RdT v t w) (n : Nat) : RdT v t (w.drewN n) := h.below (below_drew w n)
theorem take_nth (t : List Fl) (k : Nat) (h : k < t.length) : t.take (k + 1) = t.take k ++ [nth t k] := by
  unfold nth
  rw [List.take_add_one, List.getElem?_eq_getElem h, List.getD_eq_getElem?_getD, List.getElem?_eq_getElem h]; rfl
theorem rd_oneT (w : World) (T : Nat) (p : Fl) : RdT (.slice (some ⟨w.heap.size, 0, none⟩) 1 1) [p] (w.alloc (.cells #[.bool p.1, .string (str p.2)] T)) := by
  refine ⟨_, _, rfl, .inr ⟨w.heap.size, 0, rfl, by simp, fun j hj => ?_⟩⟩
  obtain rfl : j = 0 := by simp at hj; omega
  exact ⟨by simp [nth], by simp [nth]⟩

end Tt
end Go.Proofs.YtjngpafokkjkdaaGreatDoor

/-
  tag: tags, List.
-/
set_option linter.unusedVariables false
set_option linter.unusedSimpArgs false
namespace Go.Proofs.YtjngpafokkjkdaaGreatDoor
open Go.RowKit Go.Shelf
namespace Tt
open Oc Tg

/-- The tags of a list from a place on: the tags, the place where it ends or goes wrong, whether it is one. -/
def tagsR (L : List UInt8) : Nat → Nat → Bool → List Tg1 → List Tg1 × Nat × Bool
  | 0, k, _, acc => (acc, k, false)
  | f + 1, k, fl, acc =>
    if k < L.length then
      if blankB (L.getD k 0) = true then tagsR L f (k + 1) fl acc
      else if L.getD k 0 = 44 then tagsR L f (k + 1) false acc
      else if fl = true then ([], k, false)
      else if (frontR (L.drop k)).2.2 = true then tagsR L f (k + (frontR (L.drop k)).2.1) true (acc ++ [(frontR (L.drop k)).1])
      else ([], k + (frontR (L.drop k)).2.1, false)
    else (acc, k, !acc.isEmpty)
def tagsL (L : List UInt8) : List Tg1 × Nat × Bool := tagsR L (L.length + 1) 0 false []
/-- What a text says as a condition of tags. -/
def listT (l : List UInt8) : List Tg1 × Bool × Nat × Int :=
  if trim l = [42] then ([], true, 0, 0)
  else if (tagsL (trim l)).2.2 = true then ((tagsL (trim l)).1, false, 0, 0)
  else if (tagsL (trim l)).2.1 = (trim l).length then ([], false, l.length, 81)
  else ([], false, Fd.lead l + (tagsL (trim l)).2.1, 81)
/-- On the way: these tags so far. -/
def MidT (L : List UInt8) (k : Nat) (fl : Bool) (acc : List Tg1) : Prop := k ≤ L.length ∧ acc.length * 2 ≤ k ∧ ∃ f, L.length < k + f ∧ tagsL L = tagsR L f k fl acc
theorem MidT.start (L : List UInt8) : MidT L 0 false [] := ⟨by omega, by simp, L.length + 1, by omega, rfl⟩
theorem MidT.blank {L : List UInt8} {k : Nat} {fl : Bool} {acc : List Tg1} (h : MidT L k fl acc) (hk : k < L.length) (hb : blankB (L.getD k 0) = true) : MidT L (k + 1) fl acc := by
  obtain ⟨h1, h2, f, h3, h4⟩ := h
  obtain ⟨g, rfl⟩ : ∃ g, f = g + 1 := ⟨f - 1, by omega⟩
  refine ⟨hk, by omega, g, by omega, ?_⟩
  rw [h4, tagsR, if_pos hk, if_pos hb]
theorem MidT.comma {L : List UInt8} {k : Nat} {fl : Bool} {acc : List Tg1} (h : MidT L k fl acc) (hk : k < L.length) (hb : blankB (L.getD k 0) = false) (hc : L.getD k 0 = 44) : MidT L (k + 1) false acc := by
  obtain ⟨h1, h2, f, h3, h4⟩ := h
  obtain ⟨g, rfl⟩ : ∃ g, f = g + 1 := ⟨f - 1, by omega⟩
  refine ⟨hk, by omega, g, by omega, ?_⟩
  rw [h4, tagsR, if_pos hk, if_neg (by rw [hb]; simp), if_pos hc]
theorem MidT.full {L : List UInt8} {k : Nat} {acc : List Tg1} (h : MidT L k true acc) (hk : k < L.length) (hb : blankB (L.getD k 0) = false) (hc : L.getD k 0 ≠ 44) : tagsL L = ([], k, false) := by
  obtain ⟨h1, h2, f, h3, h4⟩ := h
  obtain ⟨g, rfl⟩ : ∃ g, f = g + 1 := ⟨f - 1, by omega⟩
  rw [h4, tagsR, if_pos hk, if_neg (by rw [hb]; simp), if_neg hc, if_pos rfl]
theorem MidT.tag {L : List UInt8} {k : Nat} {acc : List Tg1} (h : MidT L k false acc) (hk : k < L.length) (hb : blankB (L.getD k 0) = false) (hc : L.getD k 0 ≠ 44) (hf : (frontR (L.drop k)).2.2 = true) : MidT L (k + (frontR (L.drop k)).2.1) true (acc ++ [(frontR (L.drop k)).1]) := by
  obtain ⟨h1, h2, f, h3, h4⟩ := h
  obtain ⟨g, rfl⟩ : ∃ g, f = g + 1 := ⟨f - 1, by omega⟩
  have hp := (frontR_pos _ hf).1
  have hl := frontR_le (L.drop k)
  rw [List.length_drop] at hl
  refine ⟨by omega, by simp; omega, g, by omega, ?_⟩
  rw [h4, tagsR, if_pos hk, if_neg (by rw [hb]; simp), if_neg hc, if_neg (by simp), if_pos hf]
theorem MidT.bad {L : List UInt8} {k : Nat} {acc : List Tg1} (h : MidT L k false acc) (hk : k < L.length) (hb : blankB (L.getD k 0) = false) (hc : L.getD k 0 ≠ 44) (hf : (frontR (L.drop k)).2.2 = false) : tagsL L = ([], k + (frontR (L.drop k)).2.1, false) := by
  obtain ⟨h1, h2, f, h3, h4⟩ := h
  obtain ⟨g, rfl⟩ : ∃ g, f = g + 1 := ⟨f - 1, by omega⟩
  rw [h4, tagsR, if_pos hk, if_neg (by rw [hb]; simp), if_neg hc, if_neg (by simp), if_neg (by rw [hf]; simp)]
theorem MidT.last {L : List UInt8} {k : Nat} {fl : Bool} {acc : List Tg1} (h : MidT L k fl acc) (hk : ¬ k < L.length) : tagsL L = (acc, k, !acc.isEmpty) := by
  obtain ⟨h1, h2, f, h3, h4⟩ := h
  obtain ⟨g, rfl⟩ : ∃ g, f = g + 1 := ⟨f - 1, by omega⟩
  rw [h4, tagsR, if_neg hk]

theorem frontR_any (s : ByteArray) (L : List UInt8) (hL : s.data.toList = L) (hs : s.size ≤ 4000000000) (w : World) :
    Calls Tryz.prog 26 #[.string s] w fun e w' => ∃ t : Tg1, e = .returned (.tuple #[.agg #[.bool t.1, .string (str t.2)], .int .i64 ((frontR L).2.1 : Nat), .bool (frontR L).2.2]) ∧ ((frontR L).2.2 = true → t = (frontR L).1) ∧ Below w.heap.size w w' := by
  subst hL
  refine (front_any s hs w).mono ?_
  rintro e w' ⟨rfl, hb⟩
  obtain ⟨e1, e2⟩ := front_eq s.data.toList
  exact ⟨_, by rw [e1], fun h => e2 (by rw [e1]; exact h), hb⟩

theorem OwnT.lower {T B B' : Nat} {v : Value} {t : List Tg1} {w : World} (h : OwnT T B v t w) (hB : B' ≤ B) : OwnT T B' v t w := by
  refine ⟨h.1, ?_⟩
  rcases h.2 with hn | ⟨g, cap, cur, hv, hb, rest⟩
  · exact .inl hn
  · exact .inr ⟨g, cap, cur, hv, Nat.le_trans hB hb, rest⟩
theorem OwnT.form {T B : Nat} {v : Value} {t : List Tg1} {w : World} (h : OwnT T B v t w) : ∃ a c, v = .slice a t.length c := by
  rcases h.2 with ⟨rfl, h0⟩ | ⟨g, cap, cur, rfl, _⟩
  · exact ⟨none, 0, by rw [h0]⟩
  · exact ⟨_, _, rfl⟩

set_option maxRecDepth 100000 in
set_option maxHeartbeats 2000000 in
theorem tags_any (s : ByteArray) (hs : s.size ≤ 2000000000) (w : World) :
    Calls Tryz.prog 96 #[.string s] w fun e w' => ∃ v, e = .returned (.tuple #[v, .int .i64 ((tagsL s.data.toList).2.1 : Nat), .bool (tagsL s.data.toList).2.2]) ∧ OwnT 26 w.heap.size v (tagsL s.data.toList).1 w' ∧ Below w.heap.size w w' := by
  have hlen : s.data.toList.length = s.size := size_list s
  have HAT : Hid (∀ k (h : k < s.size), ((s[k].toNat : Nat) : Int) = ((s.data.toList.getD k 0).toNat : Int)) := fun k h => byt_at s k h
  have HX : Hid (∀ k, (s.extract k s.size).data.toList = s.data.toList.drop k) := fun k => by
    rw [Lib.extract_data, List.take_of_length_le]
    rw [List.length_drop, size_list]
    omega
  generalize s.data.toList = L at *
  go_enter Tryz.func96, Tryz.ntmps96
  go_wp2
  go_loopw [5, 6, 7] (fun v i fl wr => ∃ (k : Nat) (f : Bool) (acc : List Tg1), k ≤ s.size ∧ i = .int .i64 k ∧ fl = .bool f ∧ Hid (MidT L k f acc) ∧ Hid (OwnT 26 w.heap.size v acc wr) ∧ Hid (Below w.heap.size w wr)) (fun _ i _ _ => s.size - (intOf i).toNat)
  case atStart => exact ⟨0, false, [], Nat.zero_le _, rfl, rfl, MidT.start L, ownT_nil _ _ _, Below.refl _ _⟩
  case round =>
    obtain ⟨k, f, acc, hk, rfl, rfl, hm, ho, hb⟩ := hrel
    obtain ⟨va, vc, hv⟩ := ho.out.form
    subst hv
    have hacc := hm.out.2.1
    by_cases hlt : k < s.size
    · have hkL : k < L.length := by rw [hlen]; exact hlt
      have hby := HAT.out k hlt
      have hcb := (L.getD k 0).toNat_lt
      have HBL : Hid (blankB (L.getD k 0) = blankI ((L.getD k 0).toNat : Int)) := (rfl : _ = _)
      generalize hci : ((L.getD k 0).toNat : Int) = ci at hby HBL
      have HCI : Hid (((L.getD k 0).toNat : Int) = ci) := hci
      have h0 : 0 ≤ ci := by omega
      have h1 : ci ≤ 255 := by omega
      clear hci hcb
      by_cases hbl : ci = 32 ∨ ci = 9
      · have HN : Hid (MidT L (k + 1) f acc) := hm.out.blank hkL (HBL.out.trans (blankI_t hbl))
        clear HBL HCI
        rcases hbl with rfl | rfl
        · go_wp2
          go_roundw
          case rel => exact ⟨k + 1, f, acc, by omega, by go_num, rfl, HN, ho, hb⟩
          case measure => simp [intOf]; omega
        · go_wp2
          go_roundw
          case rel => exact ⟨k + 1, f, acc, by omega, by go_num, rfl, HN, ho, hb⟩
          case measure => simp [intOf]; omega
      · have hbf := HBL.out.trans (blankI_f hbl)
        have q1 : (ci == 32) = false := by simp; omega
        have q2 : (ci == 9) = false := by simp; omega
        by_cases h44 : ci = 44
        · have HN : Hid (MidT L (k + 1) false acc) := hm.out.comma hkL hbf (byte_eq (n := 44) (by omega) (by rw [HCI.out, h44]; rfl))
          subst h44
          clear HBL HCI hbf
          go_wp2
          go_roundw
          case rel => exact ⟨k + 1, false, acc, by omega, by go_num, rfl, HN, ho, hb⟩
          case measure => simp [intOf]; omega
        · have n44 : L.getD k 0 ≠ 44 := byte_ne (n := 44) (by omega) (by rw [HCI.out]; exact_mod_cast h44)
          have q3 : (ci == 44) = false := by simp; omega
          cases f with
          | true =>
            have HE : Hid (tagsL L = ([], k, false)) := hm.out.full hkL hbf n44
            clear HBL HCI hbf n44 hm
            go_wp2
            go_ret3
            rw [HE.out]
            exact ⟨_, rfl, ownT_nil _ _ _, hb.out⟩
          | false =>
            have HF : Hid (∀ w, Calls Tryz.prog 26 #[.string (s.extract k s.size)] w fun e w' => ∃ t : Tg1, e = .returned (.tuple #[.agg #[.bool t.1, .string (str t.2)], .int .i64 ((frontR (L.drop k)).2.1 : Nat), .bool (frontR (L.drop k)).2.2]) ∧ ((frontR (L.drop k)).2.2 = true → t = (frontR (L.drop k)).1) ∧ Below w.heap.size w w') := fun w => frontR_any _ _ (HX.out k) (by simp; omega) w
            have hfl := frontR_le (L.drop k)
            rw [List.length_drop, hlen] at hfl
            have HT : (frontR (L.drop k)).2.2 = true → Hid (MidT L (k + (frontR (L.drop k)).2.1) true (acc ++ [(frontR (L.drop k)).1])) := fun h => hm.out.tag hkL hbf n44 h
            have HG : (frontR (L.drop k)).2.2 = false → Hid (tagsL L = ([], k + (frontR (L.drop k)).2.1, false)) := fun h => hm.out.bad hkL hbf n44 h
            have HPO : (frontR (L.drop k)).2.2 = true → 2 ≤ (frontR (L.drop k)).2.1 := fun h => (frontR_pos _ h).1
            clear HBL HCI hbf n44 hm HAT HX
            generalize frontR (L.drop k) = F at *
            obtain ⟨Ft, Fn, Fo⟩ := F
            dsimp only at *
            cases Fo with
            | true =>
              have HN := HT rfl
              have hpo := HPO rfl
              clear HT HG HPO
              go_wp2_with fail
              refine (HF.out _).mono ?_
              rintro e w2 ⟨t, rfl, ht, hb2⟩
              obtain rfl := ht trivial
              clear ht
              obtain ⟨tb, tl⟩ := t
              dsimp only at *
              generalize hq : str tl = Q at *
              have HQ : Hid (Q = str tl) := hq.symm
              clear hq
              have HO2 : Hid (OwnT 26 w.heap.size (.slice va acc.length vc) acc (w2.alloc (.cells #[.bool tb, .string Q] 26))) := ((ho.out.below hb2).below ((Below.refl _ w2).alloc (Nat.le_refl _) _) : OwnT _ _ _ _ _)
              have HB2 : Hid (Below w.heap.size w (w2.alloc (.cells #[.bool tb, .string Q] 26))) := (bel_trans hb.out hb2).alloc (bel_trans hb.out hb2).size _
              have hs2 : w.heap.size ≤ (w2.alloc (.cells #[.bool tb, .string Q] 26)).heap.size := HB2.out.size
              have hlk : acc.length + 1 ≤ 2147483648 := by omega
              clear hb2
              go_wp2_with (at_builtin; go_must (refine wp_appT 26 116 infoT Tryz.underlying116 rfl (.tmp 33) (.tmp 35) rfl w.heap.size _ acc _ (tb, tl) _ _ rfl HQ.out rfl HO2.out _ rfl (by simp) hlk hs2 ?_); intro v6 w6 hown6 hb6)
              have HO6 : Hid (OwnT 26 w.heap.size v6 (acc ++ [(tb, tl)]) w6) := hown6
              have HB6 : Hid (Below w.heap.size w w6) := HB2.out.trans hb6
              clear hown6 hb6
              go_roundw
              case rel => exact ⟨k + Fn, true, acc ++ [(tb, tl)], by omega, by go_num, rfl, HN, HO6, HB6⟩
              case measure => simp [intOf]; omega
            | false =>
              have HE := HG rfl
              clear HT HG HPO
              go_wp2_with fail
              refine (HF.out _).mono ?_
              rintro e w2 ⟨t, rfl, ht, hb2⟩
              have HB2 : Hid (Below w.heap.size w w2) := bel_trans hb.out hb2
              clear ht hb2
              go_wp2
              go_ret3
              rw [HE.out]
              exact ⟨_, by go_num, ownT_nil _ _ _, HB2.out.alloc HB2.out.size _⟩
    · have HE : Hid (tagsL L = (acc, k, !acc.isEmpty)) := hm.out.last (by rw [hlen]; exact hlt)
      have HD : Hid (decide (0 < acc.length) = !acc.isEmpty) := by
        show _ = _
        cases acc with
        | nil => simp
        | cons a r => simp
      clear hm
      go_wp2
      go_ret3
      rw [HE.out, ← HD.out]
      exact ⟨_, rfl, ho.out, hb.out⟩

end Tt
end Go.Proofs.YtjngpafokkjkdaaGreatDoor

/-
  tag: List; the document's.
-/
set_option linter.unusedVariables false
set_option linter.unusedSimpArgs false
namespace Go.Proofs.YtjngpafokkjkdaaGreatDoor
open Go.RowKit Go.Shelf
namespace Tt
open Oc Tg

theorem tagsR_le (L : List UInt8) : ∀ (f k : Nat) (fl : Bool) (acc : List Tg1), k ≤ L.length → (tagsR L f k fl acc).2.1 ≤ L.length
  | 0, k, fl, acc, h => h
  | f + 1, k, fl, acc, h => by
    have hl := frontR_le (L.drop k)
    rw [List.length_drop] at hl
    unfold tagsR
    split
    · split
      · exact tagsR_le L f _ _ _ (by omega)
      · split
        · exact tagsR_le L f _ _ _ (by omega)
        · split
          · exact h
          · split
            · exact tagsR_le L f _ _ _ (by omega)
            · simp; omega
    · exact h
theorem tagsL_le (L : List UInt8) : (tagsL L).2.1 ≤ L.length := tagsR_le L _ _ _ _ (by omega)
theorem trim_len (L : List UInt8) : (trim L).length ≤ L.length := by
  obtain ⟨b, hb, _⟩ := Fd.trim_split L
  have := congrArg List.length hb
  simp at this
  omega

set_option maxRecDepth 100000 in
set_option maxHeartbeats 2000000 in
theorem List_any (s : ByteArray) (hs : s.size ≤ 2000000000) (w : World) (hw : Fd.ML w) :
    Calls Tryz.prog 69 #[.string s] w fun e w' => ∃ v, e = .returned (.tuple #[v, .bool (listT s.data.toList).2.1, .int .i64 ((listT s.data.toList).2.2.1 : Nat), .int .i64 (listT s.data.toList).2.2.2]) ∧ OwnT 26 w.heap.size v (listT s.data.toList).1 w' ∧ Below w.heap.size w w' := by
  have hlen : s.data.toList.length = s.size := size_list s
  have htl := trim_len s.data.toList
  have htg := tagsL_le (trim s.data.toList)
  have hld := Fd.lead_le s.data.toList
  have HT : Hid (Calls Tryz.prog 19 #[.string s] w fun e w' => e = .returned (.string (str (trim s.data.toList))) ∧ Below w.heap.size w w') := Trim_any s (by unfold maxLen; omega) w
  have HG : Hid (∀ w, Calls Tryz.prog 96 #[.string (str (trim s.data.toList))] w fun e w' => ∃ v, e = .returned (.tuple #[v, .int .i64 ((tagsL (trim s.data.toList)).2.1 : Nat), .bool (tagsL (trim s.data.toList)).2.2]) ∧ OwnT 26 w.heap.size v (tagsL (trim s.data.toList)).1 w' ∧ Below w.heap.size w w') := fun w => by
    have h := tags_any (str (trim s.data.toList)) (by rw [str_size]; omega) w
    rw [str_list] at h
    exact h
  have HI : Hid (trim s.data.toList ≠ [] → ∀ w, Fd.ML w → Calls Tryz.prog 97 #[.string s, .string (str (trim s.data.toList))] w fun e w' => e = .returned (.int .i64 (Fd.lead s.data.toList : Nat)) ∧ Below w.heap.size w w') := fun hne w h => by
    have h := Fd.Index_any s (str (trim s.data.toList)) (by omega) w h
    rw [str_list, Fd.index_trim _ hne] at h
    exact h
  have HW : Hid (Fd.ML w) := hw
  have HSZ : Hid ((str (trim s.data.toList)).size = (trim s.data.toList).length) := str_size _
  have HNE : Hid (trim s.data.toList = [] → (tagsL (trim s.data.toList)).2.2 = false ∧ (tagsL (trim s.data.toList)).2.1 = (trim s.data.toList).length) := fun h => by rw [h]; exact ⟨rfl, rfl⟩
  clear hw
  unfold listT
  rw [hlen] at hld htl ⊢
  generalize Fd.lead s.data.toList = ld at *
  generalize trim s.data.toList = T at *
  by_cases h42 : T = [42]
  · rw [if_pos h42]
    subst h42
    clear HG HI HSZ HNE htg htl hld
    go_enter Tryz.func69, Tryz.ntmps69
    go_wp2_with fail
    refine HT.out.mono ?_
    rintro e w2 ⟨rfl, hb2⟩
    have q : ((str [42]).toList == [42]) = true := by rw [Lib.toList_data, str_list]; rfl
    go_wp2
    refine bodyPost_ret (v := .tuple #[.slice none 0 0, .bool true, .int .i64 0, .int .i64 0]) (by simp [results, Tryz.results69, go_sem]) rfl ?_
    exact ⟨_, rfl, ownT_nil _ _ _, hb2⟩
  · rw [if_neg h42]
    have q : ((str T).toList == [42]) = false := by rw [Lib.toList_data, str_list]; simp [h42]
    clear h42
    generalize hU : str T = U at *
    clear hU
    generalize tagsL T = R at *
    obtain ⟨Rt, Rn, Ro⟩ := R
    dsimp only at *
    cases Ro with
    | true =>
      rw [if_pos rfl]
      clear HI HNE
      go_enter Tryz.func69, Tryz.ntmps69
      go_wp2_with fail
      refine HT.out.mono ?_
      rintro e w2 ⟨rfl, hb2⟩
      have HB2 : Hid (Below w.heap.size w w2) := hb2
      clear hb2
      go_wp2_with fail
      refine (HG.out _).mono ?_
      rintro e w3 ⟨v, rfl, ho, hb3⟩
      have HB3 : Hid (Below w.heap.size w w3) := bel_trans HB2.out hb3
      have HO : Hid (OwnT 26 w.heap.size v Rt w3) := ho.lower HB2.out.size
      obtain ⟨va, vc, rfl⟩ := ho.form
      clear hb3 ho
      go_wp2
      refine bodyPost_ret (v := .tuple #[.slice va Rt.length vc, .bool false, .int .i64 0, .int .i64 0]) (by simp [results, Tryz.results69, go_sem]) rfl ?_
      exact ⟨_, rfl, HO.out, HB3.out⟩
    | false =>
      rw [if_neg (by simp)]
      by_cases hn : Rn = T.length
      · rw [if_pos hn]
        have hn2 : Rn = U.size := hn.trans HSZ.out.symm
        clear HI HNE hn
        subst hn2
        go_enter Tryz.func69, Tryz.ntmps69
        go_wp2_with fail
        refine HT.out.mono ?_
        rintro e w2 ⟨rfl, hb2⟩
        have HB2 : Hid (Below w.heap.size w w2) := hb2
        clear hb2
        go_wp2_with fail
        refine (HG.out _).mono ?_
        rintro e w3 ⟨v, rfl, ho, hb3⟩
        have HB3 : Hid (Below w.heap.size w w3) := bel_trans HB2.out hb3
        obtain ⟨va, vc, rfl⟩ := ho.form
        clear hb3 ho
        go_wp2
        refine bodyPost_ret (v := .tuple #[.slice none 0 0, .bool false, .int .i64 s.size, .int .i64 81]) (by simp [results, Tryz.results69, go_sem]) rfl ?_
        exact ⟨_, rfl, ownT_nil _ _ _, HB3.out⟩
      · rw [if_neg hn]
        have HI2 : Hid (∀ w, Fd.ML w → Calls _ _ _ w _) := HI.out (fun h => hn (HNE.out h).2)
        have hn3 := HSZ.out
        have hn2 : ¬ Rn = U.size := by rw [hn3]; exact hn
        have q2 : ((Rn : Int) == (U.size : Int)) = false := by rw [beq_eq_false_iff_ne]; omega
        clear HI HNE hn
        go_enter Tryz.func69, Tryz.ntmps69
        go_wp2_with fail
        refine HT.out.mono ?_
        rintro e w2 ⟨rfl, hb2⟩
        have HB2 : Hid (Below w.heap.size w w2) := hb2
        clear hb2
        go_wp2_with fail
        refine (HG.out _).mono ?_
        rintro e w3 ⟨v, rfl, ho, hb3⟩
        have HB3 : Hid (Below w.heap.size w w3) := bel_trans HB2.out hb3
        obtain ⟨va, vc, rfl⟩ := ho.form
        clear hb3 ho
        go_wp2_with fail
        refine (HI2.out _ (HW.out.below HB3.out)).mono ?_
        rintro e w4 ⟨rfl, hb4⟩
        have HB4 : Hid (Below w.heap.size w w4) := bel_trans HB3.out hb4
        clear hb4
        go_wp2
        refine bodyPost_ret (v := .tuple #[.slice none 0 0, .bool false, .int .i64 (ld + Rn : Nat), .int .i64 81]) (by simp [results, Tryz.results69, go_sem]) rfl ?_
        exact ⟨_, rfl, ownT_nil _ _ _, HB4.out⟩

theorem lead_at {L : List UInt8} {k : Nat} (hk : k < L.length) (h : ∀ j, j < k → blankB (L.getD j 0) = true) (hf : blankB (L.getD k 0) = false) : Fd.lead L = k := tw_stop blankB 0 L k hk h hf
theorem lead_all {L : List UInt8} (h : ∀ j, j < L.length → blankB (L.getD j 0) = true) : Fd.lead L = L.length := tw_all blankB 0 L h

set_option maxRecDepth 100000 in
set_option maxHeartbeats 4000000 in
theorem rList_any (s : ByteArray) (hs : s.size ≤ 2000000000) (w : World) :
    Calls Tryz.prog 31 #[.string s] w fun e w' => ∃ v, e = .returned (.tuple #[v, .bool (listT s.data.toList).2.1, .int .i64 ((listT s.data.toList).2.2.1 : Nat), .int .i64 (listT s.data.toList).2.2.2]) ∧ OwnT 36 w.heap.size v (listT s.data.toList).1 w' ∧ Below w.heap.size w w' := by
  have hlen : s.data.toList.length = s.size := size_list s
  have htl := trim_len s.data.toList
  have htg := tagsL_le (trim s.data.toList)
  have hld := Fd.lead_le s.data.toList
  have HAT : Hid (∀ k (h : k < s.size), ((s[k].toNat : Nat) : Int) = ((s.data.toList.getD k 0).toNat : Int)) := fun k h => byt_at s k h
  have HT : Hid (Calls Tryz.prog 24 #[.string s] w fun e w' => e = .returned (.string (str (trim s.data.toList))) ∧ w' = w) := Fd.rTrim_any s (by unfold maxLen; omega) w
  have HR : Hid (∀ (k : Nat) (h : k ≤ (str (trim s.data.toList)).size) (w : World), Calls Tryz.prog 40 #[.string (str (trim s.data.toList)), .int .i64 k] w fun e w' => e = .returned (.tuple #[.agg #[.bool (frontR ((trim s.data.toList).drop k)).1.1, .string (str (frontR ((trim s.data.toList).drop k)).1.2)], .int .i64 (k + (frontR ((trim s.data.toList).drop k)).2.1 : Nat), .bool (frontR ((trim s.data.toList).drop k)).2.2]) ∧ Below w.heap.size w w') := fun k h w => by
    have h := rread_any (str (trim s.data.toList)) (by rw [str_size]; omega) k h w
    rw [str_list] at h
    exact h
  have HSZ : Hid ((str (trim s.data.toList)).size = (trim s.data.toList).length) := str_size _
  have HUT : Hid ((str (trim s.data.toList)).data.toList = trim s.data.toList) := str_list _
  have HLI : Hid (listT s.data.toList = if trim s.data.toList = [42] then ([], true, 0, 0) else if (tagsL (trim s.data.toList)).2.2 = true then ((tagsL (trim s.data.toList)).1, false, 0, 0) else if (tagsL (trim s.data.toList)).2.1 = (trim s.data.toList).length then ([], false, s.data.toList.length, 81) else ([], false, Fd.lead s.data.toList + (tagsL (trim s.data.toList)).2.1, 81)) := (rfl : _ = _)
  have HL1 : Hid (∀ k, k < s.size → (∀ j, j < k → blankB (s.data.toList.getD j 0) = true) → blankB (s.data.toList.getD k 0) = false → Fd.lead s.data.toList = k) := fun k hk h hf => lead_at (by rw [size_list]; exact hk) h hf
  have HL2 : Hid ((∀ j, j < s.size → blankB (s.data.toList.getD j 0) = true) → Fd.lead s.data.toList = s.size) := fun h => by rw [lead_all (fun j hj => h j (by rw [size_list] at hj; exact hj)), size_list]
  generalize listT s.data.toList = LT at *
  generalize trim s.data.toList = T at *
  generalize s.data.toList = L at *
  generalize str T = U at *
  rw [hlen] at htl hld
  have SUF : ∀ (k : Nat), Fd.lead L = k → k ≤ s.size → Hid (Fd.lead L = k) := fun k h _ => h
  go_enter Tryz.func31, Tryz.ntmps31
  go_wp2
  go_loopw [6] (fun i wr => ∃ k : Nat, k ≤ s.size ∧ i = .int .i64 k ∧ wr = w ∧ Hid (∀ j, j < k → blankB (L.getD j 0) = true)) (fun i _ => s.size - (intOf i).toNat)
  case atStart => exact ⟨0, Nat.zero_le _, rfl, rfl, (fun j hj => by omega : ∀ j, j < 0 → _)⟩
  case round =>
    obtain ⟨k, hk, rfl, rfl, hall⟩ := hrel
    by_cases hgo : k < s.size ∧ blankB (L.getD k 0) = true
    · obtain ⟨hlt, hbl⟩ := hgo
      have hby := HAT.out k hlt
      have hcb := (L.getD k 0).toNat_lt
      have HN : Hid (∀ j, j < k + 1 → blankB (L.getD j 0) = true) := by
        intro j hj
        by_cases hjk : j = k
        · subst hjk; exact hbl
        · exact hall.out j (by omega)
      have hbi : blankI ((L.getD k 0).toNat : Int) = true := hbl
      clear hbl HT HR HLI HL1 HL2
      generalize ((L.getD k 0).toNat : Int) = ci at hby hbi
      have h0 : 0 ≤ ci := by rw [← hby]; omega
      have h1 : ci ≤ 255 := by rw [← hby]; have := s[k].toNat_lt; omega
      go_wp2_with (go_at_call 41; refine (Fd.rBlank_any _ (by omega) (by omega) _).mono ?_; rintro e w' ⟨rfl, rfl⟩)
      go_roundw
      case rel => exact ⟨k + 1, by omega, by go_num, trivial, HN⟩
      case measure => simp [intOf]; omega
    · have HLD : Hid (Fd.lead L = k) := by
        show _ = _
        by_cases hlt : k < s.size
        · exact HL1.out k hlt hall.out (by simpa using fun h => hgo ⟨hlt, h⟩)
        · have : k = s.size := by omega
          subst this
          exact HL2.out hall.out
      clear HL1 HL2 SUF
      by_cases hlt : k < s.size
      · have hbi : blankI ((L.getD k 0).toNat : Int) = false := by
          have : ¬ blankB (L.getD k 0) = true := fun h => hgo ⟨hlt, h⟩
          exact Bool.eq_false_iff.2 this
        have hby := HAT.out k hlt
        clear hgo hall
        generalize ((L.getD k 0).toNat : Int) = ci at hby hbi
        have h0 : 0 ≤ ci := by rw [← hby]; omega
        have h1 : ci ≤ 255 := by rw [← hby]; have := s[k].toNat_lt; omega
        go_wp2_with (first | (go_at_call 41; refine (Fd.rBlank_any _ (by omega) (by omega) _).mono ?_; rintro e w' ⟨rfl, rfl⟩) | fail)
        refine HT.out.mono ?_
        rintro e w2 ⟨rfl, rfl⟩
        clear HT HAT
        by_cases h42 : T = [42]
        · have q : (U.toList == [42]) = true := by rw [Lib.toList_data, HUT.out]; simp [h42]
          have HE : Hid (LT = ([], true, 0, 0)) := by
            show _ = _
            rw [HLI.out, if_pos h42]
          clear HLI HR HUT h42
          go_wp2
          refine bodyPost_ret (v := .tuple #[.slice none 0 0, .bool true, .int .i64 0, .int .i64 0]) (by simp [results, Tryz.results31, go_sem]) rfl ?_
          rw [HE.out]
          exact ⟨_, rfl, ownT_nil _ _ _, Below.refl _ _⟩
        · have q : (U.toList == [42]) = false := by rw [Lib.toList_data, HUT.out]; simp [h42]
          rw [if_neg h42, HLD.out] at HLI
          have hUs : U.size = T.length := HSZ.out
          have hkT : k + T.length ≤ s.size := by rw [← HLD.out]; exact hld
          have HUA : Hid (∀ j (h : j < U.size), ((U[j].toNat : Nat) : Int) = ((T.getD j 0).toNat : Int)) := fun j h => by
            have := byt_at U j h
            unfold byt at this
            rw [HUT.out] at this
            exact this
          clear h42 HUT hld HSZ
          go_wp2
          go_loopw [8, 9, 10] (fun v i fr wr => ∃ (m : Nat) (f : Bool) (acc : List Tg1), m ≤ U.size ∧ i = .int .i64 m ∧ fr = .bool (!f) ∧ Hid (MidT T m f acc) ∧ Hid (OwnT 36 w2.heap.size v acc wr) ∧ Hid (Below w2.heap.size w2 wr)) (fun _ i _ _ => U.size - (intOf i).toNat)
          case atStart => exact ⟨0, false, [], Nat.zero_le _, rfl, rfl, MidT.start T, ownT_nil _ _ _, Below.refl _ _⟩
          case round =>
            obtain ⟨m, f, acc, hm1, rfl, rfl, hm, ho, hb⟩ := hrel
            obtain ⟨va, vc, hv⟩ := ho.out.form
            subst hv
            have hacc := hm.out.2.1
            by_cases hlt2 : m < U.size
            · have hmT : m < T.length := by rw [← hUs]; exact hlt2
              have hby2 := HUA.out m hlt2
              have hcb2 := (T.getD m 0).toNat_lt
              have HBL : Hid (blankB (T.getD m 0) = blankI ((T.getD m 0).toNat : Int)) := (rfl : _ = _)
              generalize hci : ((T.getD m 0).toNat : Int) = di at hby2 HBL
              have HCI : Hid (((T.getD m 0).toNat : Int) = di) := hci
              have d0 : 0 ≤ di := by omega
              have d1 : di ≤ 255 := by omega
              clear hci hcb2 HUA
              cases hbl2 : blankI di with
              | true =>
                have HN : Hid (MidT T (m + 1) f acc) := hm.out.blank hmT (HBL.out.trans hbl2)
                clear HBL HCI HR HLI
                go_wp2_with (go_at_call 41; refine (Fd.rBlank_any _ (by omega) (by omega) _).mono ?_; rintro e w' ⟨rfl, rfl⟩)
                go_roundw
                case rel => exact ⟨m + 1, f, acc, by omega, by go_num, rfl, HN, ho, hb⟩
                case measure => simp [intOf]; omega
              | false =>
                have hbf := HBL.out.trans hbl2
                by_cases h44 : di = 44
                · have HN : Hid (MidT T (m + 1) false acc) := hm.out.comma hmT hbf (byte_eq (n := 44) (by omega) (by rw [HCI.out, h44]; rfl))
                  subst h44
                  clear HBL HCI hbf HR HLI
                  go_wp2_with (go_at_call 41; refine (Fd.rBlank_any _ (by omega) (by omega) _).mono ?_; rintro e w' ⟨rfl, rfl⟩)
                  go_roundw
                  case rel => exact ⟨m + 1, false, acc, by omega, by go_num, rfl, HN, ho, hb⟩
                  case measure => simp [intOf]; omega
                · have n44 : T.getD m 0 ≠ 44 := byte_ne (n := 44) (by omega) (by rw [HCI.out]; exact_mod_cast h44)
                  have q3 : (di == 44) = false := by simp; omega
                  cases f with
                  | true =>
                    have HE : Hid (LT = ([], false, k + m, 81)) := by
                      show _ = _
                      rw [HLI.out, hm.out.full hmT hbf n44, if_neg (by simp), if_neg (by dsimp only; omega)]
                    clear HBL HCI hbf n44 hm HR HLI
                    go_wp2_with (go_at_call 41; refine (Fd.rBlank_any _ (by omega) (by omega) _).mono ?_; rintro e w' ⟨rfl, rfl⟩)
                    refine bodyPost_ret (v := .tuple #[.slice none 0 0, .bool false, .int .i64 (k + m : Nat), .int .i64 81]) (by simp [results, Tryz.results31, go_sem]) rfl ?_
                    rw [HE.out]
                    exact ⟨_, rfl, ownT_nil _ _ _, hb.out⟩
                  | false =>
                    have HF := HR.out m (by omega)
                    have HFH : Hid (∀ w, Calls _ _ _ w _) := HF
                    clear HF
                    have hfl := frontR_le (T.drop m)
                    rw [List.length_drop, ← hUs] at hfl
                    have HT2 : (frontR (T.drop m)).2.2 = true → Hid (MidT T (m + (frontR (T.drop m)).2.1) true (acc ++ [(frontR (T.drop m)).1])) := fun h => hm.out.tag hmT hbf n44 h
                    have HG1 : (frontR (T.drop m)).2.2 = false → m + (frontR (T.drop m)).2.1 = U.size → Hid (LT = ([], false, s.size, 81)) := fun h e => by
                      show _ = _
                      rw [HLI.out, hm.out.bad hmT hbf n44 h, if_neg (by simp), if_pos (by dsimp only; omega), hlen]
                    have HG2 : (frontR (T.drop m)).2.2 = false → ¬ m + (frontR (T.drop m)).2.1 = U.size → Hid (LT = ([], false, k + (m + (frontR (T.drop m)).2.1), 81)) := fun h e => by
                      show _ = _
                      rw [HLI.out, hm.out.bad hmT hbf n44 h, if_neg (by simp), if_neg (by dsimp only; omega)]
                    have HPO : (frontR (T.drop m)).2.2 = true → 2 ≤ (frontR (T.drop m)).2.1 := fun h => (frontR_pos _ h).1
                    clear HBL HCI hbf n44 hm HR HLI
                    generalize frontR (T.drop m) = F at *
                    obtain ⟨⟨tb, tl⟩, Fn, Fo⟩ := F
                    dsimp only at *
                    generalize hq : str tl = Q at *
                    have HQ : Hid (Q = str tl) := hq.symm
                    clear hq
                    cases Fo with
                    | true =>
                      have HN := HT2 rfl
                      have hpo := HPO rfl
                      clear HT2 HG1 HG2 HPO
                      go_wp2_with (first | (go_at_call 41; refine (Fd.rBlank_any _ (by omega) (by omega) _).mono ?_; rintro e w' ⟨rfl, rfl⟩) | fail)
                      refine (HFH.out _).mono ?_
                      rintro e w3 ⟨rfl, hb3⟩
                      have HO2 : Hid (OwnT 36 w2.heap.size (.slice va acc.length vc) acc (w3.alloc (.cells #[.bool tb, .string Q] 36))) := ((ho.out.below hb3).below ((Below.refl _ w3).alloc (Nat.le_refl _) _) : OwnT _ _ _ _ _)
                      have HB2 : Hid (Below w2.heap.size w2 (w3.alloc (.cells #[.bool tb, .string Q] 36))) := (bel_trans hb.out hb3).alloc (bel_trans hb.out hb3).size _
                      have hs2 : w2.heap.size ≤ (w3.alloc (.cells #[.bool tb, .string Q] 36)).heap.size := HB2.out.size
                      have hlk : acc.length + 1 ≤ 2147483648 := by omega
                      clear hb3
                      go_wp2_with (at_builtin; go_must (refine wp_appT 36 70 infoT2 Tryz.underlying70 rfl (.tmp 69) (.tmp 71) rfl w2.heap.size _ acc _ (tb, tl) _ _ rfl HQ.out rfl HO2.out _ rfl (by simp) hlk hs2 ?_); intro v6 w6 hown6 hb6)
                      have HO6 : Hid (OwnT 36 w2.heap.size v6 (acc ++ [(tb, tl)]) w6) := hown6
                      have HB6 : Hid (Below w2.heap.size w2 w6) := HB2.out.trans hb6
                      clear hown6 hb6
                      go_roundw
                      case rel => exact ⟨m + Fn, true, acc ++ [(tb, tl)], by omega, by go_num, rfl, HN, HO6, HB6⟩
                      case measure => simp [intOf]; omega
                    | false =>
                      by_cases he : m + Fn = U.size
                      · have HE := HG1 rfl he
                        clear HT2 HG1 HG2 HPO
                        have q5 : ((m : Int) + (Fn : Int) == (U.size : Int)) = true := by rw [beq_iff_eq]; omega
                        go_wp2_with (first | (go_at_call 41; refine (Fd.rBlank_any _ (by omega) (by omega) _).mono ?_; rintro e w' ⟨rfl, rfl⟩) | fail)
                        refine (HFH.out _).mono ?_
                        rintro e w3 ⟨rfl, hb3⟩
                        have HB2 : Hid (Below w2.heap.size w2 w3) := bel_trans hb.out hb3
                        clear hb3
                        go_wp2
                        refine bodyPost_ret (v := .tuple #[.slice none 0 0, .bool false, .int .i64 s.size, .int .i64 81]) (by simp [results, Tryz.results31, go_sem]) rfl ?_
                        rw [HE.out]
                        exact ⟨_, rfl, ownT_nil _ _ _, HB2.out.alloc HB2.out.size _⟩
                      · have HE := HG2 rfl he
                        clear HT2 HG1 HG2 HPO
                        have q5 : ((m : Int) + (Fn : Int) == (U.size : Int)) = false := by rw [beq_eq_false_iff_ne]; omega
                        go_wp2_with (first | (go_at_call 41; refine (Fd.rBlank_any _ (by omega) (by omega) _).mono ?_; rintro e w' ⟨rfl, rfl⟩) | fail)
                        refine (HFH.out _).mono ?_
                        rintro e w3 ⟨rfl, hb3⟩
                        have HB2 : Hid (Below w2.heap.size w2 w3) := bel_trans hb.out hb3
                        clear hb3
                        go_wp2
                        refine bodyPost_ret (v := .tuple #[.slice none 0 0, .bool false, .int .i64 (k + (m + Fn) : Nat), .int .i64 81]) (by simp [results, Tryz.results31, go_sem]) rfl ?_
                        rw [HE.out]
                        exact ⟨_, rfl, ownT_nil _ _ _, HB2.out.alloc HB2.out.size _⟩
            · have hlast := hm.out.last (by rw [← hUs]; exact hlt2)
              have hmU : m = T.length := by have := hm.out.1; omega
              by_cases hac : acc = []
              · subst hac
                have HE : Hid (LT = ([], false, s.size, 81)) := by
                  show _ = _
                  rw [HLI.out, hlast, if_neg (by simp), if_pos hmU, hlen]
                clear hlast hm HLI HR HUA
                go_wp2
                refine bodyPost_ret (v := .tuple #[.slice none 0 0, .bool false, .int .i64 s.size, .int .i64 81]) (by simp [results, Tryz.results31, go_sem]) rfl ?_
                rw [HE.out]
                exact ⟨_, rfl, ownT_nil _ _ _, hb.out⟩
              · have HE : Hid (LT = (acc, false, 0, 0)) := by
                  show _ = _
                  rw [HLI.out, hlast, if_pos (by simpa using hac)]
                have hpos : 0 < acc.length := List.length_pos_iff.2 hac
                have q6 : ((acc.length : Int) == 0) = false := by rw [beq_eq_false_iff_ne]; omega
                clear hlast hm HLI HR HUA
                go_wp2
                refine bodyPost_ret (v := .tuple #[.slice va acc.length vc, .bool false, .int .i64 0, .int .i64 0]) (by simp [results, Tryz.results31, go_sem]) rfl ?_
                rw [HE.out]
                exact ⟨_, rfl, ho.out, hb.out⟩
      · clear hgo hall
        go_wp2_with fail
        refine HT.out.mono ?_
        rintro e w2 ⟨rfl, rfl⟩
        clear HT HAT
        by_cases h42 : T = [42]
        · have q : (U.toList == [42]) = true := by rw [Lib.toList_data, HUT.out]; simp [h42]
          have HE : Hid (LT = ([], true, 0, 0)) := by
            show _ = _
            rw [HLI.out, if_pos h42]
          clear HLI HR HUT h42
          go_wp2
          refine bodyPost_ret (v := .tuple #[.slice none 0 0, .bool true, .int .i64 0, .int .i64 0]) (by simp [results, Tryz.results31, go_sem]) rfl ?_
          rw [HE.out]
          exact ⟨_, rfl, ownT_nil _ _ _, Below.refl _ _⟩
        · have q : (U.toList == [42]) = false := by rw [Lib.toList_data, HUT.out]; simp [h42]
          rw [if_neg h42, HLD.out] at HLI
          have hUs : U.size = T.length := HSZ.out
          have hkT : k + T.length ≤ s.size := by rw [← HLD.out]; exact hld
          have HUA : Hid (∀ j (h : j < U.size), ((U[j].toNat : Nat) : Int) = ((T.getD j 0).toNat : Int)) := fun j h => by
            have := byt_at U j h
            unfold byt at this
            rw [HUT.out] at this
            exact this
          clear h42 HUT hld HSZ
          go_wp2
          go_loopw [8, 9, 10] (fun v i fr wr => ∃ (m : Nat) (f : Bool) (acc : List Tg1), m ≤ U.size ∧ i = .int .i64 m ∧ fr = .bool (!f) ∧ Hid (MidT T m f acc) ∧ Hid (OwnT 36 w2.heap.size v acc wr) ∧ Hid (Below w2.heap.size w2 wr)) (fun _ i _ _ => U.size - (intOf i).toNat)
          case atStart => exact ⟨0, false, [], Nat.zero_le _, rfl, rfl, MidT.start T, ownT_nil _ _ _, Below.refl _ _⟩
          case round =>
            obtain ⟨m, f, acc, hm1, rfl, rfl, hm, ho, hb⟩ := hrel
            obtain ⟨va, vc, hv⟩ := ho.out.form
            subst hv
            have hacc := hm.out.2.1
            by_cases hlt2 : m < U.size
            · exact absurd hlt2 (by omega)
            · have hlast := hm.out.last (by rw [← hUs]; exact hlt2)
              have hmU : m = T.length := by have := hm.out.1; omega
              by_cases hac : acc = []
              · subst hac
                have HE : Hid (LT = ([], false, s.size, 81)) := by
                  show _ = _
                  rw [HLI.out, hlast, if_neg (by simp), if_pos hmU, hlen]
                clear hlast hm HLI HR HUA
                go_wp2
                refine bodyPost_ret (v := .tuple #[.slice none 0 0, .bool false, .int .i64 s.size, .int .i64 81]) (by simp [results, Tryz.results31, go_sem]) rfl ?_
                rw [HE.out]
                exact ⟨_, rfl, ownT_nil _ _ _, hb.out⟩
              · have HE : Hid (LT = (acc, false, 0, 0)) := by
                  show _ = _
                  rw [HLI.out, hlast, if_pos (by simpa using hac)]
                have hpos : 0 < acc.length := List.length_pos_iff.2 hac
                have q6 : ((acc.length : Int) == 0) = false := by rw [beq_eq_false_iff_ne]; omega
                clear hlast hm HLI HR HUA
                go_wp2
                refine bodyPost_ret (v := .tuple #[.slice va acc.length vc, .bool false, .int .i64 0, .int .i64 0]) (by simp [results, Tryz.results31, go_sem]) rfl ?_
                rw [HE.out]
                exact ⟨_, rfl, ho.out, hb.out⟩

end Tt
end Go.Proofs.YtjngpafokkjkdaaGreatDoor
