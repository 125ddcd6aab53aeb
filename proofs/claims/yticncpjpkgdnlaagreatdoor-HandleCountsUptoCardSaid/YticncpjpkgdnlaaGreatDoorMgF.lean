/- Several texts as one. -/
import Derived.Test.YticncpjpkgdnlaaGreatDoorMgD
import Derived.Test.YticncpjpkgdnlaaGreatDoorMgE
import Derived.Test.YticncpjpkgdnlaaGreatDoorMgB
import Derived.Test.YticncpjpkgdnlaaGreatDoorMgC
import Derived.Test.YticncpjpkgdnlaaGreatDoorMgA
import Derived.Below
import Derived.Deep.Draws
import Derived.Laws.OwnMore
import Derived.Laws.Rows
import Derived.Lib.Strings
/-
  Slices of texts of the call's own; octet.List.
-/
set_option linter.unusedVariables false
set_option linter.unusedSimpArgs false
namespace Go.Proofs.YticncpjpkgdnlaaGreatDoor
open Go.RowKit Go.Shelf
namespace Oc

def encS (t : List (List UInt8)) : List Value := t.map fun l => .string (str l)
/-- A slice of texts of the call's own. -/
def OwnS (B : Nat) (v : Value) (t : List (List UInt8)) (w : World) : Prop := w.ownsRow B 9 1 v t.length (encS t)
theorem ownS_nil (B : Nat) (w : World) : OwnS B (.slice none 0 0) [] w := World.ownsRow_nil w B 9 1
theorem ownS_empty (w : World) : OwnS w.heap.size (.slice (some ⟨w.heap.size, 0, none⟩) 0 0) [] (w.alloc (.cells #[] 9)) :=
  ⟨by simp [encS], .inr ⟨w.heap.size, 0, #[], rfl, Nat.le_refl _, heap_alloc_new w _, by simp, by decide, by simp, by simp [encS]⟩⟩
theorem OwnS.lower {B B' : Nat} {v : Value} {t : List (List UInt8)} {w : World} (h : OwnS B v t w) (hB : B' ≤ B) : OwnS B' v t w := by
  refine ⟨h.1, ?_⟩
  rcases h.2 with hn | ⟨g, cap, cur, rfl, hb, rest⟩
  · exact .inl hn
  · exact .inr ⟨g, cap, cur, rfl, by omega, rest⟩
theorem OwnS.below {B : Nat} {v : Value} {t : List (List UInt8)} {w w' : World} (h : OwnS B v t w) (b : Below w.heap.size w w') : OwnS B v t w' := by
  refine ⟨h.1, ?_⟩
  rcases h.2 with hn | ⟨g, cap, cur, rfl, hb, hg, rest⟩
  · exact .inl hn
  · refine .inr ⟨g, cap, cur, rfl, hb, ?_, rest⟩
    have hlt : g < w.heap.size := by
      rcases Nat.lt_or_ge g w.heap.size with h | h
      · exact h
      · simp [Array.getElem?_eq_none h] at hg
    rw [b.block g hlt]
    exact hg
theorem OwnS.form {B : Nat} {v : Value} {t : List (List UInt8)} {w : World} (h : OwnS B v t w) : ∃ a c, v = .slice a t.length c := by
  rcases h.2 with ⟨rfl, h0⟩ | ⟨g, cap, cur, rfl, _⟩
  · exact ⟨none, 0, by rw [h0]⟩
  · exact ⟨_, _, rfl⟩
theorem OwnS.cell {B : Nat} {t : List (List UInt8)} {w : World} {a : Option Addr} {c : Nat} (h : OwnS B (.slice a t.length c) t w) (j : Nat) (hj : j < t.length) :
    ∃ g, a = some ⟨g, 0, none⟩ ∧ t.length ≤ c ∧ w.cell? ⟨g, j, none⟩ = some (.string (str (t.getD j []))) := by
  rcases h.2 with ⟨hv, h0⟩ | ⟨g, cap, cur, hv, _, hg, hn, _, hsz, htake⟩
  · omega
  · injection hv with e1 e2 e3
    refine ⟨g, e1, by omega, ?_⟩
    have hc := World.ownsRow.cells h (g := g) (by rw [e1]; rfl) j (.string (str (t.getD j []))) (by
      unfold encS
      rw [List.getElem?_map, List.getElem?_eq_getElem hj, List.getD_eq_getElem?_getD, List.getElem?_eq_getElem hj]
      rfl)
    have ea : Addr.add ⟨g, 0, none⟩ j = ⟨g, j, none⟩ := by unfold Addr.add; split <;> simp_all
    rw [ea] at hc
    exact hc

theorem infoStr : (Tryz.prog.info? 9).map (fun i => (i.zero, i.size, i.bytes)) = some (some (.string ⟨#[]⟩), 1, 16) := by kernel_rfl
theorem infoS : ∃ i, Tryz.prog.info? 9 = some i ∧ i.zero = some (.string ⟨#[]⟩) ∧ i.size = 1 ∧ i.bytes = 16 := by
  obtain ⟨i0, hi, hz0, hz1, hz2⟩ := info_parts infoStr
  exact ⟨i0, hi, hz0, hz1, hz2⟩
/-- A text appended to a slice of the call's own. -/
theorem wp_appS {ops : Array Oper} {rest : List Oper} {o : Oper} {a : Act} {Q : Exit → Act → World → Prop} (hgd : o.guard = none) (s x : Operand)
    (ho : o.op = .call { callee := .builtin .append, args := #[s, x], argTypes := #[75, 75] }) (B : Nat) (v : Value) (t : List (List UInt8)) (W : World) (l : List UInt8)
    (hs : a.eval s = v) (hown : OwnS B v t W) (hx : a.eval x = .slice (some ⟨W.heap.size, 0, none⟩) 1 1) (hlen : t.length + 1 ≤ 4294967296) (hB : B ≤ W.heap.size)
    (h : ∀ v' w', OwnS B v' (t ++ [l]) w' → Below B W w' → wpList Tryz.prog ops Q rest (a.put o.dst v') w') : wpList Tryz.prog ops Q (o :: rest) a (W.alloc (.cells #[.string (str l)] 9)) := by
  obtain ⟨i0, hi, hz0, hz1, hz2⟩ := infoS
  refine wpList_append_own _ hgd s x 75 ho B 9 i0 (.string ⟨#[]⟩) 1 16 Tryz.underlying75 hi hz0 hz1 hz2 rfl (by decide) v t.length _ hs (World.ownsRow.alloc hown _) ⟨W.heap.size, 0, none⟩ 1 1 [.string (str l)] hx rfl ?_ ?_ ?_ ?_ ?_ ?_
  · intro j u hj
    match j, hj with
    | 0, hj => simp at hj; subst hj; simp [Addr.add]
  · intro u hu; simp at hu; subst hu; rfl
  · unfold maxLen; omega
  · omega
  · simp; omega
  · intro v' w' h1 h2 _
    refine h v' w' ?_ (((Below.refl B W).alloc hB _).grown h2 (by simp; omega) (fun k hk => (World.ownsRow.lt hown k hk).1))
    unfold OwnS
    rw [List.length_append]
    simpa [encS] using h1

theorem str_empty (l : List UInt8) : (str l).toList.isEmpty = decide (l = []) := by
  rw [ByteArray.toList_eq, str_list]
  cases l <;> simp

set_option maxRecDepth 100000 in
set_option maxHeartbeats 1000000 in
theorem appendElement_any (B : Nat) (v : Value) (t : List (List UInt8)) (s : ByteArray) (hs : s.size ≤ maxLen) (hlen : t.length + 1 ≤ 4294967296) (w : World) (h : OwnS B v t w) (hB : B ≤ w.heap.size) :
    Calls Tryz.prog 288 #[v, .string s] w fun e w' => ∃ v', e = .returned v' ∧ OwnS B v' (t ++ addEl (trim s.data.toList) []) w' ∧ Below B w w' := by
  have HO : Hid (OwnS B v t w) := h
  clear h
  by_cases hz : trim s.data.toList = []
  · have HZ : Hid (addEl (trim s.data.toList) [] = []) := addEl_none hz []
    have hemp : (str (trim s.data.toList)).toList.isEmpty = true := by rw [str_empty]; simp [hz]
    clear hz
    go_enter Tryz.func288, Tryz.ntmps288
    go_wp2_with fail
    refine (Trim_any s hs _).mono ?_
    rintro e w1 ⟨rfl, hb1⟩
    generalize str (trim s.data.toList) = x at *
    go_wp2
    go_ret
    refine ⟨v, rfl, ?_, hb1.mono hB⟩
    rw [HZ.out, List.append_nil]
    exact HO.out.below hb1
  · have HZ : Hid (addEl (trim s.data.toList) [] = [trim s.data.toList]) := addEl_some hz []
    have hemp : (str (trim s.data.toList)).toList.isEmpty = false := by rw [str_empty]; simp [hz]
    clear hz
    go_enter Tryz.func288, Tryz.ntmps288
    go_wp2_with fail
    refine (Trim_any s hs _).mono ?_
    rintro e w1 ⟨rfl, hb1⟩
    have HO1 : Hid (OwnS B v t w1) := HO.out.below hb1
    have HB1 : Hid (Below B w w1) := hb1.mono hB
    have hsz := hb1.size
    clear hb1
    go_wp2_with (at_builtin; go_must (refine wp_appS rfl (.tmp 11) (.tmp 13) rfl B _ t _ (trim s.data.toList) rfl HO1.out rfl hlen ?h2 ?_))
    case h2 => omega
    intro v' w2 hown2 hb2
    have HO2 : Hid (OwnS B v' (t ++ [trim s.data.toList]) w2) := hown2
    have HB2 : Hid (Below B w w2) := HB1.out.trans hb2
    clear hown2 hb2
    go_wp2
    go_ret
    refine ⟨v', rfl, ?_, HB2.out⟩
    rw [HZ.out]
    exact HO2.out

end Oc
end Go.Proofs.YticncpjpkgdnlaaGreatDoor

/-
  octet.List.
-/
set_option linter.unusedVariables false
set_option linter.unusedSimpArgs false
namespace Go.Proofs.YticncpjpkgdnlaaGreatDoor
open Go.RowKit Go.Shelf
namespace Oc

/-- What stands from a place up to another. -/
def piece (l : List UInt8) (fr at' : Nat) : List UInt8 := (l.drop fr).take (at' - fr)
theorem piece_app (l : List UInt8) (fr a n : Nat) (h : fr ≤ a) : piece l fr a ++ (l.drop a).take n = piece l fr (a + n) := by
  unfold piece
  have e : l.drop a = (l.drop fr).drop (a - fr) := by rw [List.drop_drop, show fr + (a - fr) = a by omega]
  rw [e, show a + n - fr = (a - fr) + n by omega, List.take_add]
theorem piece_snoc (l : List UInt8) (fr a : Nat) (h : fr ≤ a) (ha : a < l.length) : piece l fr a ++ [l.getD a 0] = piece l fr (a + 1) := by
  rw [← piece_app l fr a 1 h, drop_cons l a ha]
  rfl
theorem piece_nil (l : List UInt8) (a : Nat) : piece l a a = [] := by unfold piece; simp
theorem piece_ext (s : ByteArray) (fr a : Nat) : (s.extract fr a).data.toList = piece s.data.toList fr a := Lib.extract_data s fr a
theorem piece_end (s : ByteArray) (fr a : Nat) (h : s.size ≤ a) : piece s.data.toList fr a = s.data.toList.drop fr := by
  unfold piece
  rw [List.take_of_length_le]
  rw [List.length_drop, size_list]
  omega
theorem lst_step (l : List UInt8) (acc : List (List UInt8)) (fr a : Nat) (t : List (List UInt8)) (h : lst [] l = (lst (piece l fr a) (44 :: l.drop (a + 1))).map (acc ++ ·)) :
    lst [] l = (lst (piece l (a + 1) (a + 1)) (l.drop (a + 1))).map ((acc ++ addEl (trim (piece l fr a)) []) ++ ·) := by
  rw [h, lst_comma _ _ _ rfl, piece_nil, Option.map_map]
  congr 1
  funext x
  show acc ++ addEl _ x = _
  rw [addEl_app]
  simp
theorem addEl_len (x : List UInt8) : (addEl x []).length ≤ 1 := by unfold addEl; split <;> simp

set_option maxRecDepth 100000 in
set_option maxHeartbeats 2000000 in
theorem List_any (s : ByteArray) (hs : s.size ≤ 134217728) (w : World) :
    Calls Tryz.prog 234 #[.string s] w fun e w' => ∃ v, e = .returned (.tuple #[v, .int .i64 (listR s.data.toList).2]) ∧ OwnS w.heap.size v (listR s.data.toList).1 w' ∧ Below w.heap.size w w' := by
  go_enter Tryz.func234, Tryz.ntmps234
  go_wp2
  go_loopw [4, 5, 6] (fun lv fv av wr => ∃ (fr a : Nat) (acc : List (List UInt8)), fr ≤ a ∧ a ≤ s.size ∧ fv = .int .i64 fr ∧ av = .int .i64 a ∧ acc.length ≤ a ∧ Hid (lst [] s.data.toList = (lst (piece s.data.toList fr a) (s.data.toList.drop a)).map (acc ++ ·)) ∧ Hid (OwnS w.heap.size lv acc wr) ∧ Hid (Below w.heap.size w wr)) (fun _ _ av _ => s.size - (intOf av).toNat)
  case atStart => exact ⟨0, 0, [], Nat.le_refl _, Nat.zero_le _, rfl, rfl, Nat.le_refl _, (by simp [piece_nil] : lst [] s.data.toList = (lst (piece s.data.toList 0 0) (s.data.toList.drop 0)).map ([] ++ ·)), ownS_nil _ _, Below.refl _ _⟩
  case round =>
    obtain ⟨fr, a, acc, hfa, has, rfl, rfl, hacc, hst, hown, hbl⟩ := hrel
    have hsz := hbl.out.size
    by_cases hlt : a < s.size
    · have hby : ((s[a].toNat : Nat) : Int) = byt s a := byt_at s a hlt
      have HC : Hid (byt s a = ((s.data.toList.getD a 0).toNat : Int)) := rfl
      have HD : Hid (s.data.toList.drop a = s.data.toList.getD a 0 :: s.data.toList.drop (a + 1)) := drop_cons _ a (by rw [size_list]; exact hlt)
      have HP : Hid (piece s.data.toList fr a ++ [s.data.toList.getD a 0] = piece s.data.toList fr (a + 1)) := piece_snoc _ fr a hfa (by rw [size_list]; exact hlt)
      generalize s.data.toList.getD a 0 = u at HC HD HP
      generalize byt s a = c at *
      by_cases h44 : c = 44
      · have HU : Hid (u = 44) := UInt8.toNat_inj.1 (by have := HC.out; show u.toNat = 44; omega)
        have h44' : (c == 44) = true := by simp [h44]
        have HN : Hid (lst [] s.data.toList = (lst (piece s.data.toList (a + 1) (a + 1)) (s.data.toList.drop (a + 1))).map ((acc ++ addEl (trim (piece s.data.toList fr a)) []) ++ ·)) := by
          refine lst_step _ acc fr a [] ?_
          rw [hst.out, HD.out, HU.out]
        have HE : Hid ((s.extract fr a).data.toList = piece s.data.toList fr a) := piece_ext s fr a
        clear h44
        go_wp2_with fail
        refine (appendElement_any w.heap.size _ acc (s.extract fr a) (by unfold maxLen; simp; omega) (by omega) _ hown.out hsz).mono ?_
        rintro e w2 ⟨v2, rfl, hown2, hb2⟩
        rw [HE.out] at hown2
        have HO2 : Hid (OwnS w.heap.size v2 (acc ++ addEl (trim (piece s.data.toList fr a)) []) w2) := hown2
        have HB2 : Hid (Below w.heap.size w w2) := hbl.out.trans hb2
        have HLn : Hid ((acc ++ addEl (trim (piece s.data.toList fr a)) []).length ≤ a + 1) := by
          show List.length _ ≤ _
          have := addEl_len (trim (piece s.data.toList fr a))
          rw [List.length_append]
          omega
        clear hown2 hb2
        go_wp2
        go_roundw
        case rel => exact ⟨a + 1, a + 1, _, Nat.le_refl _, by omega, by go_num, by go_num, HLn.out, HN, HO2, HB2⟩
        case measure => simp [intOf]; omega
      · have h44' : (c == 44) = false := by simp [h44]
        have HU44 : Hid (u ≠ 44) := fun e => h44 (by have := HC.out; rw [e] at this; exact this)
        clear h44
        by_cases h34 : c = 34
        · have HU : Hid (u = 34) := UInt8.toNat_inj.1 (by have := HC.out; show u.toNat = 34; omega)
          have h34' : (c == 34) = true := by simp [h34]
          clear h34
          have HE : Hid ((s.extract a s.size).data.toList = s.data.toList.drop a) := Lib.extract_to_end s a
          have hqb := qlen_bd (s.data.toList.drop a)
          rw [List.length_drop, size_list] at hqb
          obtain ⟨hq1, hq2⟩ := hqb
          by_cases hq : qlen (s.data.toList.drop a) = 0
          · have HN : Hid (listR s.data.toList = ([], 14)) := listR_none (by
              rw [hst.out]
              have h := hq
              rw [HD.out] at h ⊢
              rw [lst_bad _ _ _ HU.out h]
              rfl)
            go_wp2_with fail
            refine (quotedLength_any (s.extract a s.size) (by unfold maxLen; simp; omega) _).mono ?_
            rintro e w2 ⟨rfl, hb2⟩
            rw [HE.out, hq]
            go_wp2
            go_ret2
            rw [HN.out]
            exact ⟨_, rfl, ownS_nil _ _, hbl.out.trans (hb2.mono hsz)⟩
          · have hq3 := hq2 hq
            have HN : Hid (lst [] s.data.toList = (lst (piece s.data.toList fr (a + qlen (s.data.toList.drop a))) (s.data.toList.drop (a + qlen (s.data.toList.drop a)))).map (acc ++ ·)) := by
              show lst _ _ = _
              rw [← piece_app _ fr a _ hfa, ← List.drop_drop]
              have h := hst.out
              have hq' := hq
              rw [HD.out] at h hq'
              rw [lst_quote _ _ _ HU.out hq', ← HD.out] at h
              exact h
            clear hq2
            go_wp2_with fail
            refine (quotedLength_any (s.extract a s.size) (by unfold maxLen; simp; omega) _).mono ?_
            rintro e w2 ⟨rfl, hb2⟩
            rw [HE.out]
            have HO2 : Hid (OwnS w.heap.size _ acc w2) := hown.out.below hb2
            have HB2 : Hid (Below w.heap.size w w2) := hbl.out.trans (hb2.mono hsz)
            clear hb2
            generalize qlen (s.data.toList.drop a) = n at *
            have hne : ((n : Int) == 0) = false := by simp; omega
            go_wp2
            go_roundw
            case rel => exact ⟨fr, a + n, acc, by omega, by omega, rfl, by go_num, by omega, HN, HO2, HB2⟩
            case measure => simp [intOf]; omega
        · have h34' : (c == 34) = false := by simp [h34]
          have HU34 : Hid (u ≠ 34) := fun e => h34 (by have := HC.out; rw [e] at this; exact this)
          clear h34
          have HN : Hid (lst [] s.data.toList = (lst (piece s.data.toList fr (a + 1)) (s.data.toList.drop (a + 1))).map (acc ++ ·)) := by
            show lst _ _ = _
            rw [hst.out, HD.out, lst_on _ _ _ HU44.out HU34.out, HP.out]
          go_wp2
          go_roundw
          case rel => exact ⟨fr, a + 1, acc, by omega, by omega, rfl, by go_num, by omega, HN, hown, hbl⟩
          case measure => simp [intOf]; omega
    · obtain rfl : a = s.size := by omega
      have HE : Hid ((s.extract fr s.size).data.toList = piece s.data.toList fr s.size) := piece_ext s fr s.size
      have HN : Hid (listR s.data.toList = (acc ++ addEl (trim (piece s.data.toList fr s.size)) [], 0)) := listR_some (by
        rw [hst.out, show s.data.toList.drop s.size = [] from List.drop_of_length_le (by rw [size_list]; omega), lst_nil]
        rfl)
      go_wp2_with fail
      refine (appendElement_any w.heap.size _ acc (s.extract fr s.size) (by unfold maxLen; simp; omega) (by omega) _ hown.out hsz).mono ?_
      rintro e w2 ⟨v2, rfl, hown2, hb2⟩
      rw [HE.out] at hown2
      go_wp2
      go_ret2
      rw [HN.out]
      exact ⟨_, rfl, hown2, hbl.out.trans hb2⟩

end Oc
end Go.Proofs.YticncpjpkgdnlaaGreatDoor

/-
  Slices of parameters of the call's own; octet.Params.
-/
set_option linter.unusedVariables false
set_option linter.unusedSimpArgs false
namespace Go.Proofs.YticncpjpkgdnlaaGreatDoor
open Go.RowKit Go.Shelf
namespace Oc

def enc1 (p : Prm) : List Value := [.string (str p.1), .string (str p.2.1), .bool p.2.2]
def encP (ps : List Prm) : List Value := ps.flatMap enc1
theorem encP_snoc (ps : List Prm) (p : Prm) : encP (ps ++ [p]) = encP ps ++ enc1 p := by unfold encP; rw [List.flatMap_append]; simp
theorem encP_len : ∀ ps : List Prm, (encP ps).length = ps.length * 3
  | [] => rfl
  | p :: ps => by
    have := encP_len ps
    unfold encP at *
    rw [List.flatMap_cons, List.length_append, this, List.length_cons]
    show 3 + _ = _
    omega
/-- A slice of parameters (of the type T) of the call's own. -/
def OwnP (T B : Nat) (v : Value) (ps : List Prm) (w : World) : Prop := w.ownsRow B T 3 v ps.length (encP ps)
theorem ownP_nil (T B : Nat) (w : World) : OwnP T B (.slice none 0 0) [] w := World.ownsRow_nil w B T 3
theorem ownP_empty {B : Nat} (T : Nat) (w : World) (hB : B ≤ w.heap.size) : OwnP T B (.slice (some ⟨w.heap.size, 0, none⟩) 0 0) [] (w.alloc (.cells #[] T)) :=
  ⟨by simp [encP], .inr ⟨w.heap.size, 0, #[], rfl, hB, heap_alloc_new w _, by simp, by decide, by simp, by simp [encP]⟩⟩
theorem OwnP.below {T B : Nat} {v : Value} {t : List Prm} {w w' : World} (h : OwnP T B v t w) (b : Below w.heap.size w w') : OwnP T B v t w' := by
  refine ⟨h.1, ?_⟩
  rcases h.2 with hn | ⟨g, cap, cur, rfl, hb, hg, rest⟩
  · exact .inl hn
  · refine .inr ⟨g, cap, cur, rfl, hb, ?_, rest⟩
    have hlt : g < w.heap.size := by
      rcases Nat.lt_or_ge g w.heap.size with h | h
      · exact h
      · simp [Array.getElem?_eq_none h] at hg
    rw [b.block g hlt]
    exact hg

/-- A parameter appended to a slice of the call's own. -/
theorem wp_appP {ops : Array Oper} {rest : List Oper} {o : Oper} {a : Act} {Q : Exit → Act → World → Prop} (T S : Nat) (hinfo : (Tryz.prog.info? T).map (fun i => (i.zero, i.size, i.bytes)) = some (some (.agg #[.string ⟨#[]⟩, .string ⟨#[]⟩, .bool false]), 3, 40))
    (hund : Tryz.prog.underlying S = some (.slice T)) (hgd : o.guard = none) (s x : Operand)
    (ho : o.op = .call { callee := .builtin .append, args := #[s, x], argTypes := #[S, S] }) (B : Nat) (v : Value) (t : List Prm) (W : World) (p : Prm) (n1 n2 : ByteArray) (h1 : n1 = str p.1) (h2 : n2 = str p.2.1) (b : Bool) (h3 : b = p.2.2)
    (hs : a.eval s = v) (hown : OwnP T B v t W) (g : Nat) (hx : a.eval x = .slice (some ⟨g, 0, none⟩) 1 1) (hg : g = W.heap.size) (hlen : t.length + 1 ≤ 2147483648) (hB : B ≤ W.heap.size)
    (h : ∀ v' w', OwnP T B v' (t ++ [p]) w' → Below B W w' → wpList Tryz.prog ops Q rest (a.put o.dst v') w') : wpList Tryz.prog ops Q (o :: rest) a (W.alloc (.cells #[.string n1, .string n2, .bool b] T)) := by
  subst h1 h2 h3 hg
  obtain ⟨i0, hi, hz0, hz1, hz2⟩ := info_parts hinfo
  refine wpList_append_own _ hgd s x S ho B T i0 (.agg #[.string ⟨#[]⟩, .string ⟨#[]⟩, .bool false]) 3 40 hund hi hz0 hz1 hz2 rfl (by decide) v t.length _ hs (World.ownsRow.alloc hown _) ⟨W.heap.size, 0, none⟩ 1 1 (enc1 p) hx rfl ?_ ?_ ?_ ?_ ?_ ?_
  · intro j u hj
    unfold enc1 at hj
    match j, hj with
    | 0, hj => simp at hj; subst hj; simp [Addr.add]
    | 1, hj => simp at hj; subst hj; simp [Addr.add]
    | 2, hj => simp at hj; subst hj; simp [Addr.add]
  · intro u hu
    unfold enc1 at hu
    simp at hu
    rcases hu with rfl | rfl | rfl <;> rfl
  · unfold maxLen; omega
  · omega
  · simp; omega
  · intro v' w' h1 h2 _
    refine h v' w' ?_ (((Below.refl B W).alloc hB _).grown h2 (by simp; omega) (fun k hk => (World.ownsRow.lt hown k hk).1))
    unfold OwnP
    rw [encP_snoc, List.length_append]
    exact h1

theorem infoP : (Tryz.prog.info? 66).map (fun i => (i.zero, i.size, i.bytes)) = some (some (.agg #[.string ⟨#[]⟩, .string ⟨#[]⟩, .bool false]), 3, 40) := by kernel_rfl

theorem drop_three (l : List UInt8) (e c d : Nat) : l.drop (e + c + 1 + d) = ((l.drop e).drop (c + 1)).drop d := by
  rw [List.drop_drop, List.drop_drop, show e + (c + 1 + d) = e + c + 1 + d by omega]
theorem prm_step {l : List UInt8} {acc : List Prm} {e : Nat} {x : Nat × List Prm} (h : prm l = (prm (l.drop e)).map (fun y => (acc ++ y.1, e + y.2))) (hx : pstep (l.drop e) = some (some x)) :
    prm l = (prm (l.drop (e + x.1))).map (fun y => ((acc ++ x.2) ++ y.1, (e + x.1) + y.2)) := by
  rw [h, prm_on hx, List.drop_drop, Option.map_map]
  congr 1
  funext y
  simp [Nat.add_assoc]

set_option maxRecDepth 100000 in
set_option maxHeartbeats 2000000 in
theorem Params_any (s : ByteArray) (hs : s.size ≤ 134217728) (w : World) (t : Tab w) :
    Calls Tryz.prog 217 #[.string s] w fun e w' => ∃ v, e = .returned (.tuple #[v, .int .i64 (paramsR s.data.toList).2.1, .int .i64 (paramsR s.data.toList).2.2]) ∧ OwnP 66 w.heap.size v (paramsR s.data.toList).1 w' ∧ Below w.heap.size w w' := by
  have HT : Hid (Tab w) := t
  clear t
  go_enter Tryz.func217, Tryz.ntmps217
  go_wp2
  go_loopw [5, 6] (fun lv ev wr => ∃ (e0 : Nat) (acc : List Prm), e0 ≤ s.size ∧ ev = .int .i64 e0 ∧ acc.length ≤ e0 ∧ Hid (prm s.data.toList = (prm (s.data.toList.drop e0)).map (fun y => (acc ++ y.1, e0 + y.2))) ∧ Hid (OwnP 66 w.heap.size lv acc wr) ∧ Hid (Below w.heap.size w wr)) (fun _ ev _ => s.size - (intOf ev).toNat)
  case atStart => exact ⟨0, [], Nat.zero_le _, rfl, Nat.le_refl _, (by simp : prm s.data.toList = (prm (s.data.toList.drop 0)).map (fun y => ([] ++ y.1, 0 + y.2))), ownP_nil _ _ _, Below.refl _ _⟩
  case round =>
    obtain ⟨e0, acc, he0, rfl, hacc, hst, hown, hbl⟩ := hrel
    have hsz := hbl.out.size
    have HE : Hid ((s.extract e0 s.size).data.toList = s.data.toList.drop e0) := Lib.extract_to_end s e0
    have hb1 := bl_le (s.data.toList.drop e0)
    rw [List.length_drop, size_list] at hb1
    have hsemi : semi (s.data.toList.drop e0) (bl (s.data.toList.drop e0)) = decide (e0 + bl (s.data.toList.drop e0) < s.size ∧ byt s (e0 + bl (s.data.toList.drop e0)) = 59) := by
      unfold semi byt
      rw [List.length_drop, size_list, Bool.eq_iff_iff, decide_eq_true_iff, decide_eq_true_iff]
      have eg : (s.data.toList.drop e0).getD (bl (s.data.toList.drop e0)) 0 = s.data.toList.getD (e0 + bl (s.data.toList.drop e0)) 0 := by
        rw [List.getD_eq_getElem?_getD, List.getD_eq_getElem?_getD, List.getElem?_drop]
      rw [eg]
      constructor
      · rintro ⟨h1, h2⟩; exact ⟨by omega, by rw [h2]; rfl⟩
      · rintro ⟨h1, h2⟩; exact ⟨by omega, UInt8.toNat_inj.1 (by show _ = 59; omega)⟩
    have HSemi : Hid (semi (s.data.toList.drop e0) (bl (s.data.toList.drop e0)) = decide (e0 + bl (s.data.toList.drop e0) < s.size ∧ byt s (e0 + bl (s.data.toList.drop e0)) = 59)) := hsemi
    clear hsemi
    have HStop : Hid (semi (s.data.toList.drop e0) (bl (s.data.toList.drop e0)) = false → paramsR s.data.toList = (acc, (e0 : Int), 0)) := fun h => paramsR_some (x := (acc, e0)) (by rw [hst.out, prm_end (pstep_stop h)]; simp)
    by_cases hgo : e0 + bl (s.data.toList.drop e0) < s.size ∧ byt s (e0 + bl (s.data.toList.drop e0)) = 59
    · have HGo : Hid (semi (s.data.toList.drop e0) (bl (s.data.toList.drop e0)) = true) := (by rw [HSemi.out]; exact decide_eq_true hgo : semi _ _ = true)
      obtain ⟨hg1, hg2⟩ := hgo
      have hby : ((s[e0 + bl (s.data.toList.drop e0)].toNat : Nat) : Int) = byt s (e0 + bl (s.data.toList.drop e0)) := byt_at s _ hg1
      have hne : ((e0 : Int) + (bl (s.data.toList.drop e0) : Int) == (s.size : Int)) = false := by simp; omega
      have h59 : (byt s (e0 + bl (s.data.toList.drop e0)) != 59) = false := by simp [hg2]
      have HE1 : Hid ((s.extract (e0 + bl (s.data.toList.drop e0) + 1) s.size).data.toList = (s.data.toList.drop e0).drop (bl (s.data.toList.drop e0) + 1)) := (by rw [Lib.extract_to_end, List.drop_drop, Nat.add_assoc] : (s.extract (e0 + bl (s.data.toList.drop e0) + 1) s.size).data.toList = _)
      have hb2 := bl_le ((s.data.toList.drop e0).drop (bl (s.data.toList.drop e0) + 1))
      rw [List.length_drop, List.length_drop, size_list] at hb2
      have HE2 : Hid ((s.extract (e0 + bl (s.data.toList.drop e0) + 1 + bl ((s.data.toList.drop e0).drop (bl (s.data.toList.drop e0) + 1))) s.size).data.toList = ((s.data.toList.drop e0).drop (bl (s.data.toList.drop e0) + 1)).drop (bl ((s.data.toList.drop e0).drop (bl (s.data.toList.drop e0) + 1)))) := (by rw [Lib.extract_to_end]; exact drop_three _ _ _ _ : (s.extract (e0 + bl (s.data.toList.drop e0) + 1 + bl ((s.data.toList.drop e0).drop (bl (s.data.toList.drop e0) + 1))) s.size).data.toList = _)
      have HBad : Hid (rp (((s.data.toList.drop e0).drop (bl (s.data.toList.drop e0) + 1)).drop (bl ((s.data.toList.drop e0).drop (bl (s.data.toList.drop e0) + 1)))) = none → paramsR s.data.toList = ([], 0, 15)) := fun h => paramsR_none (by rw [hst.out, prm_none (pstep_bad HGo.out h)]; rfl)
      have HEmpty : Hid (∀ x, rp (((s.data.toList.drop e0).drop (bl (s.data.toList.drop e0) + 1)).drop (bl ((s.data.toList.drop e0).drop (bl (s.data.toList.drop e0) + 1)))) = some x → x.2 = 0 → prm s.data.toList = (prm (s.data.toList.drop (e0 + (bl (s.data.toList.drop e0) + 1)))).map (fun y => ((acc ++ []) ++ y.1, (e0 + (bl (s.data.toList.drop e0) + 1)) + y.2))) := fun x h h0 => prm_step hst.out (pstep_empty HGo.out h h0)
      have HOne : Hid (∀ x, rp (((s.data.toList.drop e0).drop (bl (s.data.toList.drop e0) + 1)).drop (bl ((s.data.toList.drop e0).drop (bl (s.data.toList.drop e0) + 1)))) = some x → x.2 ≠ 0 → prm s.data.toList = (prm (s.data.toList.drop (e0 + (bl (s.data.toList.drop e0) + 1 + bl ((s.data.toList.drop e0).drop (bl (s.data.toList.drop e0) + 1)) + x.2)))).map (fun y => ((acc ++ [x.1]) ++ y.1, (e0 + (bl (s.data.toList.drop e0) + 1 + bl ((s.data.toList.drop e0).drop (bl (s.data.toList.drop e0) + 1)) + x.2)) + y.2))) := fun x h h0 => prm_step hst.out (pstep_one HGo.out h h0)
      have HRle : Hid (∀ x, rp (((s.data.toList.drop e0).drop (bl (s.data.toList.drop e0) + 1)).drop (bl ((s.data.toList.drop e0).drop (bl (s.data.toList.drop e0) + 1)))) = some x → x.2 ≤ s.size - (e0 + bl (s.data.toList.drop e0) + 1 + bl ((s.data.toList.drop e0).drop (bl (s.data.toList.drop e0) + 1)))) := fun x h => by
        have := (rp_le _ x h).1
        rw [List.length_drop, List.length_drop, List.length_drop, size_list] at this
        omega
      clear hg2 HSemi HStop
      generalize (((s.data.toList.drop e0).drop (bl (s.data.toList.drop e0) + 1)).drop (bl ((s.data.toList.drop e0).drop (bl (s.data.toList.drop e0) + 1)))) = r3 at *
      go_wp2_with fail
      refine (blankLength_any (s.extract e0 s.size) (by simp; omega) _).mono ?_
      rintro e w2 ⟨rfl, hbb2⟩
      rw [HE.out]
      have HB2 : Hid (Below w.heap.size w w2) := hbl.out.trans (hbb2.mono hsz)
      have HO2 : Hid (OwnP 66 w.heap.size _ acc w2) := hown.out.below hbb2
      have hs2 := hbb2.size
      clear hbb2
      generalize hc2 : bl ((s.data.toList.drop e0).drop (bl (s.data.toList.drop e0) + 1)) = c2 at *
      have HC2 : Hid (bl ((s.data.toList.drop e0).drop (bl (s.data.toList.drop e0) + 1)) = c2) := hc2
      clear hc2
      generalize bl (s.data.toList.drop e0) = c1 at *
      go_wp2_with fail
      refine (blankLength_any (s.extract (e0 + c1 + 1) s.size) (by simp; omega) _).mono ?_
      rintro e w3 ⟨rfl, hbb3⟩
      rw [HE1.out, HC2.out]
      have HB3 : Hid (Below w.heap.size w w3) := HB2.out.trans (hbb3.mono (by omega))
      have HO3 : Hid (OwnP 66 w.heap.size _ acc w3) := HO2.out.below hbb3
      have hs3 := hbb3.size
      clear hbb3
      go_wp2_with fail
      refine (readParam_any (s.extract (e0 + c1 + 1 + c2) s.size) (by simp; omega) _ (HT.out.below HB3.out (Nat.le_refl _))).mono ?_
      rintro e w4 ⟨rfl, hbb4⟩
      rw [HE2.out]
      have HB4 : Hid (Below w.heap.size w w4) := HB3.out.trans (hbb4.mono (by omega))
      have HO4 : Hid (OwnP 66 w.heap.size _ acc w4) := HO3.out.below hbb4
      have hs4 := hbb4.size
      clear hbb4
      cases hrp : rp r3 with
      | none =>
        have HR : Hid (rpR r3 = (([], [], false), 0, 15)) := (by unfold rpR; rw [hrp] : rpR r3 = _)
        have HN : Hid (paramsR s.data.toList = ([], 0, 15)) := HBad.out hrp
        rw [HR.out]
        go_wp2
        go_ret3
        rw [HN.out]
        exact ⟨_, rfl, ownP_nil _ _ _, HB4.out.alloc (by omega) _⟩
      | some x =>
        have HR : Hid (rpR r3 = (x.1, (x.2 : Int), 0)) := (by unfold rpR; rw [hrp] : rpR r3 = _)
        have hxl := HRle.out x hrp
        rw [HR.out]
        by_cases hz : x.2 = 0
        · have HN := HEmpty.out x hrp hz
          rw [List.append_nil, show e0 + (c1 + 1) = e0 + c1 + 1 by omega] at HN
          have HN' : Hid (prm s.data.toList = (prm (s.data.toList.drop (e0 + c1 + 1))).map (fun y => (acc ++ y.1, (e0 + c1 + 1) + y.2))) := HN
          clear HN
          have hz' : ¬ (0 : Int) < (x.2 : Int) := by omega
          go_wp2
          go_roundw
          case rel => exact ⟨e0 + c1 + 1, acc, by omega, by go_num, by omega, HN', (HO4.out.below ((Below.refl _ _).alloc (Nat.le_refl _) _) : OwnP _ _ _ _ _), HB4.out.alloc (by omega) _⟩
          case measure => simp [intOf]; omega
        · have HN := HOne.out x hrp hz
          rw [show e0 + (c1 + 1 + c2 + x.2) = e0 + c1 + 1 + c2 + x.2 by omega] at HN
          have HN' : Hid (prm s.data.toList = (prm (s.data.toList.drop (e0 + c1 + 1 + c2 + x.2))).map (fun y => ((acc ++ [x.1]) ++ y.1, (e0 + c1 + 1 + c2 + x.2) + y.2))) := HN
          clear HN
          have hz' : (0 : Int) < (x.2 : Int) := by omega
          have HO5 : Hid (OwnP 66 w.heap.size _ acc (w4.alloc (.cells #[.string (str x.1.1), .string (str x.1.2.1), .bool x.1.2.2] 66))) := HO4.out.below ((Below.refl _ _).alloc (Nat.le_refl _) _)
          have HB5 : Hid (Below w.heap.size w (w4.alloc (.cells #[.string (str x.1.1), .string (str x.1.2.1), .bool x.1.2.2] 66))) := HB4.out.alloc (by omega) _
          go_wp2_with (at_builtin; go_must (refine wp_appP 66 32 infoP Tryz.underlying32 rfl (.tmp 50) (.tmp 52) rfl w.heap.size _ acc _ x.1 _ _ rfl rfl _ rfl rfl HO5.out _ rfl (by simp) ?h1 ?h2 ?_))
          case h1 => omega
          case h2 => simp; omega
          intro v6 w6 hown6 hb6
          have HO6 : Hid (OwnP 66 w.heap.size v6 (acc ++ [x.1]) w6) := hown6
          have HB6 : Hid (Below w.heap.size w w6) := HB5.out.trans hb6
          clear hown6 hb6
          go_wp2
          go_roundw
          case rel => exact ⟨e0 + c1 + 1 + c2 + x.2, acc ++ [x.1], by omega, by go_num, by simp; omega, HN', HO6, HB6⟩
          case measure => simp [intOf]; omega
    · have HN : Hid (paramsR s.data.toList = (acc, (e0 : Int), 0)) := HStop.out (by rw [HSemi.out]; exact decide_eq_false hgo)
      have hts : ((e0 : Int) + (bl (s.data.toList.drop e0) : Int) == (s.size : Int)) = true ∨ ((e0 : Int) + (bl (s.data.toList.drop e0) : Int) == (s.size : Int)) = false ∧ ∃ h : e0 + bl (s.data.toList.drop e0) < s.size, ((s[e0 + bl (s.data.toList.drop e0)].toNat : Nat) : Int) = byt s (e0 + bl (s.data.toList.drop e0)) ∧ (byt s (e0 + bl (s.data.toList.drop e0)) != 59) = true := by
        by_cases h1 : e0 + bl (s.data.toList.drop e0) = s.size
        · left; simp; omega
        · right
          have h2 : e0 + bl (s.data.toList.drop e0) < s.size := by omega
          exact ⟨by simp; omega, h2, byt_at s _ h2, by simp; exact fun e => hgo ⟨h2, e⟩⟩
      clear hgo HSemi HStop
      rcases hts with t1 | ⟨t1, hlt, t2, t3⟩
      all_goals
        go_wp2_with fail
        refine (blankLength_any (s.extract e0 s.size) (by simp; omega) _).mono ?_
        rintro e w2 ⟨rfl, hbb2⟩
        rw [HE.out]
        generalize bl (s.data.toList.drop e0) = c1 at *
        go_wp2
        go_ret3
        rw [HN.out]
        exact ⟨_, rfl, hown.out.below hbb2, hbl.out.trans (hbb2.mono hsz)⟩

end Oc
end Go.Proofs.YticncpjpkgdnlaaGreatDoor

/-
  Worlds that are as they were but for some blocks; a decoder of chunks: what each byte does, plainly; a decoder in memory.
-/
set_option linter.unusedVariables false
set_option linter.unusedSimpArgs false
set_option maxRecDepth 100000
namespace Go.Proofs.YticncpjpkgdnlaaGreatDoor
open Go.RowKit Go.Shelf
namespace Ck
open Oc Tg _root_.Go.Proofs.YticncpjpkgdnlaaGreatDoor.Fd

/-- Of what was there nothing has turned but the blocks bs. -/
structure But (bs : List Nat) (w w' : World) : Prop where
  os : w'.os = w.os
  tape : w'.tape = w.tape
  output : w'.output = w.output
  size : w.heap.size ≤ w'.heap.size
  block : ∀ k, k < w.heap.size → k ∉ bs → w'.heap[k]? = w.heap[k]?
theorem But.refl (bs : List Nat) (w : World) : But bs w w := ⟨rfl, rfl, rfl, Nat.le_refl _, fun _ _ _ => rfl⟩
theorem But.trans {bs : List Nat} {a b c : World} (h : But bs a b) (k : But bs b c) : But bs a c :=
  ⟨k.os.trans h.os, k.tape.trans h.tape, k.output.trans h.output, Nat.le_trans h.size k.size, fun i hi hn => (k.block i (Nat.lt_of_lt_of_le hi h.size) hn).trans (h.block i hi hn)⟩
theorem But.mono {bs cs : List Nat} {a b : World} (h : But bs a b) (hs : ∀ x, x ∈ bs → x ∈ cs) : But cs a b := ⟨h.os, h.tape, h.output, h.size, fun i hi hn => h.block i hi (fun e => hn (hs i e))⟩
theorem But.nil {cs : List Nat} {a b : World} (h : But [] a b) : But cs a b := h.mono (fun _ e => by cases e)
theorem But.of_below {w w' : World} (h : Below w.heap.size w w') : But [] w w' := ⟨h.os, h.tape, h.output, h.size, fun k hk _ => h.block k hk⟩
theorem But.below {bs : List Nat} {w w' : World} {B : Nat} (h : But bs w w') (hB : B ≤ w.heap.size) (hb : ∀ x, x ∈ bs → B ≤ x) : Below B w w' :=
  ⟨h.os, h.tape, h.output, h.size, fun k hk => h.block k (by omega) (fun e => by have := hb k e; omega)⟩
theorem But.alloc {bs : List Nat} {a w : World} (h : But bs a w) (o : Obj) : But bs a (w.alloc o) := h.trans ⟨rfl, rfl, rfl, by simp, fun k hk _ => Below.heap_alloc _ _ _ hk⟩
theorem But.setCell {bs : List Nat} {a w : World} (h : But bs a w) {p : Addr} (hp : p.block ∈ bs) (u : Value) : But bs a (w.setCell p u) :=
  h.trans ⟨rfl, rfl, rfl, by simp [World.setCell], fun k hk hn => Below.heap_setCell _ _ _ _ (fun e => hn (e ▸ hp))⟩
theorem But.setRow {bs : List Nat} {a w : World} (h : But bs a w) {g : Nat} (hp : g ∈ bs) (cs : Array Value) : But bs a (w.setRow g cs) :=
  h.trans ⟨rfl, rfl, rfl, by simp [World.setRow], fun k hk hn => setRow_other w g k cs (fun e => hn (e ▸ hp))⟩
theorem But.drew {bs : List Nat} {a w : World} (h : But bs a w) : But bs a w.drew := ⟨h.os, h.tape, h.output, h.size, h.block⟩
theorem But.drewN {bs : List Nat} {a w : World} (h : But bs a w) (q : Nat) : But bs a (w.drewN q) := by
  induction q with
  | zero => exact h
  | succ q ih => exact ih.drew
theorem But.grown {bs : List Nat} {a w w' : World} {row : Option Nat} (h : But bs a w) (hg : w.grownBy w' row) (hr : ∀ k, row = some k → k ∈ bs) : But bs a w' :=
  h.trans ⟨hg.os, hg.tape, hg.output, hg.size, fun k hk hn => hg.block k hk (fun e => hn (hr k e.symm))⟩
theorem But.cell {bs : List Nat} {w w' : World} (h : But bs w w') {p : Addr} {v : Value} (hc : w.cell? p = some v) (hn : p.block ∉ bs) : w'.cell? p = some v := by
  rw [World.cell?_of_block (w := w) (h.block p.block (World.block_lt_of_cell? w _ hc) hn)]
  exact hc
theorem But.heap {bs : List Nat} {w w' : World} (h : But bs w w') {b : Nat} {o : Obj} (hc : w.heap[b]? = some o) (hn : b ∉ bs) : w'.heap[b]? = some o := by
  rw [h.block b (Array.getElem?_eq_some_iff.1 hc).1 hn]
  exact hc
theorem But.owns {bs : List Nat} {w w' : World} (h : But bs w w') {B T S n : Nat} {v : Value} {xs : List Value} (ho : w.ownsRow B T S v n xs) (hn : ∀ g, v.ownBlock = some g → g ∉ bs) : w'.ownsRow B T S v n xs := by
  refine ⟨ho.1, ?_⟩
  rcases ho.2 with hz | ⟨g, cap, cur, rfl, hb, hg, rest⟩
  · exact .inl hz
  · exact .inr ⟨g, cap, cur, rfl, hb, h.heap hg (hn g rfl), rest⟩
theorem bel_drewN {B : Nat} {a w : World} (h : Below B a w) (q : Nat) : Below B a (w.drewN q) := by
  induction q with
  | zero => exact h
  | succ q ih => exact ih.drew

/-- What had the blocks bs has now the blocks bs', of which the new ones are new; nothing else has turned. -/
structure Goes (bs : List Nat) (w : World) (bs' : List Nat) (w' : World) : Prop where
  but : But bs w w'
  sub : ∀ x, x ∈ bs' → x ∈ bs ∨ w.heap.size ≤ x
theorem Goes.trans {bs cs ds : List Nat} {a b c : World} (h : Goes bs a cs b) (k : Goes cs b ds c) : Goes bs a ds c := by
  refine ⟨⟨k.but.os.trans h.but.os, k.but.tape.trans h.but.tape, k.but.output.trans h.but.output, Nat.le_trans h.but.size k.but.size, fun i hi hn => ?_⟩, fun x hx => ?_⟩
  · refine (k.but.block i (Nat.lt_of_lt_of_le hi h.but.size) (fun e => ?_)).trans (h.but.block i hi hn)
    rcases h.sub i e with e | e
    · exact hn e
    · omega
  · rcases k.sub x hx with e | e
    · exact h.sub x e
    · exact .inr (Nat.le_trans h.but.size e)
theorem Goes.below {bs : List Nat} {w w' : World} (h : Below w.heap.size w w') : Goes bs w bs w' := ⟨(But.of_below h).nil, fun _ h => .inl h⟩
theorem Goes.refl (bs : List Nat) (w : World) : Goes bs w bs w := ⟨But.refl _ _, fun _ h => .inl h⟩
/-- Where all its blocks are new, all that was there stays. -/
theorem Goes.bel {bs cs : List Nat} {w0 w w' : World} (h : Goes bs w cs w') (hn : ∀ x, x ∈ bs → w0.heap.size ≤ x) (hb : Below w0.heap.size w0 w) : Below w0.heap.size w0 w' :=
  hb.trans (h.but.below hb.size hn)
theorem Goes.new {bs cs : List Nat} {w w' : World} (h : Goes bs w cs w') {B : Nat} (hB : B ≤ w.heap.size) (hn : ∀ x, x ∈ bs → B ≤ x) : ∀ x, x ∈ cs → B ≤ x := fun x hx => by
  rcases h.sub x hx with e | e
  · exact hn x e
  · omega

/-- The hexadecimal digits. -/
def hexSet : List UInt8 := [48, 49, 50, 51, 52, 53, 54, 55, 56, 57, 65, 66, 67, 68, 69, 70, 97, 98, 99, 100, 101, 102]
def hexB (c : UInt8) : Bool := hexSet.contains c
/-- What a size line says: the size, the parameters, the error. -/
def sizeR (l : List UInt8) : Int × List Prm × Int :=
  if 254 < l.length then (0, [], 100)
  else if l.takeWhile hexB = [] ∨ (paramsR (l.dropWhile hexB)).2.2 ≠ 0 ∨ trim ((l.dropWhile hexB).drop (paramsR (l.dropWhile hexB)).2.1.toNat) ≠ [] then (0, [], 100)
  else if (numR 16 (l.takeWhile hexB) 1099511627776).2 ≠ 0 then (0, [], 102)
  else ((numR 16 (l.takeWhile hexB) 1099511627776).1, (paramsR (l.dropWhile hexB)).1, 0)

/-- The names that may not trail. -/
def heads : List (List UInt8) := [[99, 111, 110, 110, 101, 99, 116, 105, 111, 110], [99, 111, 110, 116, 101, 110, 116, 45, 101, 110, 99, 111, 100, 105, 110, 103], [99, 111, 110, 116, 101, 110, 116, 45, 108, 101, 110, 103, 116, 104], [99, 111, 110, 116, 101, 110, 116, 45, 114, 97, 110, 103, 101], [99, 111, 110, 116, 101, 110, 116, 45, 116, 121, 112, 101], [101, 120, 112, 101, 99, 116], [104, 111, 115, 116], [107, 101, 101, 112, 45, 97, 108, 105, 118, 101], [116, 101], [116, 114, 97, 105, 108, 101, 114], [116, 114, 97, 110, 115, 102, 101, 114, 45, 101, 110, 99, 111, 100, 105, 110, 103], [117, 112, 103, 114, 97, 100, 101]]
def trails (l : List UInt8) : Bool := isName l && !heads.contains (lower l)

/-- A decoder, plainly. mode: 0 a size line, 1 a chunk, 2 behind it, 3 behind the return, 4 trailers, 5 over. -/
structure DS where
  mode : Nat
  done : Bool
  err : Int
  most : Int
  room : Int
  fields : Int
  left : Int
  total : Int
  line : List UInt8
  body : List UInt8
  tr : List Fl
def fin (s : DS) (e : Int) : DS := { s with mode := 5, line := [], err := e, done := e == 0 }
def crlf : List UInt8 := [13, 10]
def said (s : DS) : List UInt8 := Lib.trimSuffix s.line crlf
def right (s : DS) : Bool := Lib.hasSuffix s.line crlf
def bare (s : DS) : DS := { s with line := [] }
def endSize (s : DS) : DS :=
  if right s = false then fin (bare s) 100
  else if (sizeR (said s)).2.2 ≠ 0 then fin (bare s) (sizeR (said s)).2.2
  else if s.most < (sizeR (said s)).1 then fin (bare s) 102
  else if (sizeR (said s)).1 = 0 then { bare s with mode := 4 }
  else { bare s with most := s.most - (sizeR (said s)).1, left := (sizeR (said s)).1, mode := 1 }
def put (s : DS) (c : UInt8) : DS := { s with line := s.line ++ [c] }
def inSize (s : DS) (c : UInt8) : DS := if c = 10 then endSize (put s c) else if s.line.length + 1 = 256 then fin (put s c) 100 else put s c
def inChunk (s : DS) (t : List UInt8) : DS := { s with body := s.body ++ t, left := s.left - t.length, mode := if s.left - t.length = 0 then 2 else 1 }
def behindChunk (s : DS) (c : UInt8) : DS := if c = 13 then { s with mode := 3 } else fin { s with mode := 3 } 100
def behindReturn (s : DS) (c : UInt8) : DS := if c = 10 then { s with mode := 0 } else fin { s with mode := 0 } 100
def keep (s : DS) (l : List UInt8) : DS :=
  if (parseL l).2.2 ≠ 0 ∨ trails (parseL l).1.1 = false then fin s 101 else { s with fields := s.fields - 1, tr := s.tr ++ [(parseL l).1] }
def endTrailer (s : DS) : DS :=
  if right s = false then fin (bare s) 101
  else if said s = [] then fin (bare s) 0
  else if s.fields = 0 then fin (bare s) 104
  else keep (bare s) (said s)
def inTrailers (s : DS) (c : UInt8) : DS :=
  if s.room = 0 then fin s 104
  else if c = 10 then endTrailer (put { s with room := s.room - 1 } c) else put { s with room := s.room - 1 } c
/-- One byte. -/
def bstep (s : DS) (c : UInt8) : DS :=
  match s.mode with
  | 0 => inSize s c
  | 1 => inChunk s [c]
  | 2 => behindChunk s c
  | 3 => behindReturn s c
  | 4 => inTrailers s c
  | _ => s
/-- Bytes, as many as are taken. -/
def eat : DS → List UInt8 → Nat × DS
  | s, [] => (0, s)
  | s, c :: t => if s.mode = 5 then (0, s) else ((eat (bstep s c) t).1 + 1, (eat (bstep s c) t).2)
/-- One that has taken nothing. -/
def new (most room fields : Int) : DS := ⟨0, false, 0, most, room, fields, 0, 0, [], [], []⟩

/-- What stays within bounds: k bytes were taken. -/
structure Ok (s : DS) (k : Nat) : Prop where
  mode : s.mode ≤ 5
  most : 0 ≤ s.most ∧ s.most ≤ 9223372036854775807
  room : 0 ≤ s.room ∧ s.room ≤ 9223372036854775807
  fields : 0 ≤ s.fields ∧ s.fields ≤ 9223372036854775807
  left : 0 ≤ s.left ∧ s.left ≤ 1099511627776
  pos : s.mode = 1 → 0 < s.left
  total : 0 ≤ s.total ∧ s.total ≤ (k : Int)
  len : s.line.length + s.body.length + s.tr.length ≤ k
  size : s.mode ≤ 3 → s.line.length < 256
  bare : s.mode = 1 ∨ s.mode = 2 ∨ s.mode = 3 → s.line = []
  over : s.mode = 5 ↔ (s.done = true ∨ s.err ≠ 0)

theorem numR_bd (l : List UInt8) : 0 ≤ (numR 16 l 1099511627776).1 ∧ (numR 16 l 1099511627776).1 ≤ 1099511627776 := by
  have h0 : 0 ≤ numOf 16 l := by
    have := pre_nonneg 16 (by decide) (str l) (str l).size (Nat.le_refl _)
    rw [pre_all, str_list] at this
    exact this
  unfold numR
  split
  · exact ⟨by decide, by decide⟩
  · split
    · exact ⟨by decide, by decide⟩
    · rename_i h
      exact ⟨h0, by show numOf 16 l ≤ _; omega⟩
theorem sizeR_bd (l : List UInt8) : 0 ≤ (sizeR l).1 ∧ (sizeR l).1 ≤ 1099511627776 := by
  have := numR_bd (l.takeWhile hexB)
  unfold sizeR
  split
  · exact ⟨by decide, by decide⟩
  · split
    · exact ⟨by decide, by decide⟩
    · split
      · exact ⟨by decide, by decide⟩
      · exact this
theorem sizeR_err (l : List UInt8) : (sizeR l).2.2 = 0 ∨ (sizeR l).2.2 = 100 ∨ (sizeR l).2.2 = 102 := by
  unfold sizeR
  split
  · exact .inr (.inl rfl)
  · split
    · exact .inr (.inl rfl)
    · split
      · exact .inr (.inr rfl)
      · exact .inl rfl

end Ck
end Go.Proofs.YticncpjpkgdnlaaGreatDoor
