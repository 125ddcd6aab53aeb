/- Several texts as one. -/
import Derived.Test.YtlnlhhobmgiceaaGreatDoorMgE
import Derived.Test.YtlnlhhobmgiceaaGreatDoorMgD
import Derived.WalkMore
/-
  octet.quotedLength.
-/
set_option linter.unusedVariables false
set_option linter.unusedSimpArgs false
namespace Go.Proofs.YtlnlhhobmgiceaaGreatDoor
open Go.RowKit Go.Shelf
namespace Oc

theorem prefix_quote (s : ByteArray) : Lib.hasPrefix s.data.toList (⟨#[34]⟩ : ByteArray).data.toList = decide (0 < s.size ∧ byt s 0 = 34) := by
  unfold Lib.hasPrefix byt
  rw [← size_list]
  cases s.data.toList with
  | nil => simp
  | cons c l =>
    have e : (⟨#[34]⟩ : ByteArray).data.toList = [34] := rfl
    rw [e, Bool.eq_iff_iff, decide_eq_true_iff]
    simp only [List.isPrefixOf_cons_cons, List.isPrefixOf_nil_left, Bool.and_true, beq_iff_eq, List.length_cons, List.getD_cons_zero]
    constructor
    · intro h; subst h; exact ⟨by omega, rfl⟩
    · rintro ⟨_, h⟩
      exact (UInt8.toNat_inj.1 (by show c.toNat = 34; omega)).symm

theorem qlen_none (s : ByteArray) (h : ¬ (0 < s.size ∧ byt s 0 = 34)) : qlen s.data.toList = 0 := by
  by_cases hz : s.size = 0
  · rw [List.length_eq_zero_iff.1 ((size_list s).trans hz)]; rfl
  · rw [cons_of hz]
    rw [qlen_cons, if_neg]
    intro e
    apply h
    refine ⟨by omega, ?_⟩
    unfold byt
    rw [e]
    rfl
theorem qlen_some (s : ByteArray) (h : 0 < s.size) (h2 : byt s 0 = 34) : qlen s.data.toList = plusOne (qscan false (s.data.toList.drop 1)) := by
  rw [cons_of (by omega)]
  have e : s.data.toList.getD 0 0 = 34 := UInt8.toNat_inj.1 (by unfold byt at h2; show _ = 34; omega)
  rw [e, qlen_cons, if_pos rfl]
  rfl

theorem drop_cons (T : List UInt8) (k : Nat) (h : k < T.length) : T.drop k = T.getD k 0 :: T.drop (k + 1) := by
  rw [List.drop_eq_getElem_cons h, List.getD_eq_getElem?_getD, List.getElem?_eq_getElem h]
  rfl
theorem scan_field (e : Bool) (c : UInt8) (l : List UInt8) (h : fieldB c = false) : qscan e (c :: l) = none := by rw [qscan, if_pos h]
theorem scan_esc (c : UInt8) (l : List UInt8) (h : fieldB c = true) : qscan true (c :: l) = (qscan false l).map (· + 1) := by rw [qscan, if_neg (by simp [h]), if_pos rfl]
theorem scan_back (c : UInt8) (l : List UInt8) (h : c = 92) : qscan false (c :: l) = (qscan true l).map (· + 1) := by subst h; rw [qscan, if_neg (by decide), if_neg (by simp), if_pos rfl]
theorem scan_end (c : UInt8) (l : List UInt8) (h : c = 34) : qscan false (c :: l) = some 1 := by subst h; rw [qscan, if_neg (by decide), if_neg (by simp), if_neg (by decide), if_pos rfl]
theorem scan_on (c : UInt8) (l : List UInt8) (h : fieldB c = true) (h1 : c ≠ 92) (h2 : c ≠ 34) : qscan false (c :: l) = (qscan false l).map (· + 1) := by rw [qscan, if_neg (by simp [h]), if_neg (by simp), if_neg h1, if_neg h2]
theorem map_shift (o : Option Nat) (k : Nat) : ((o.map (· + 1)).map (· + k)) = o.map (· + (k + 1)) := by
  cases o with
  | none => rfl
  | some x => simp; omega

set_option maxRecDepth 100000 in
set_option maxHeartbeats 1000000 in
theorem quotedLength_any (s : ByteArray) (hs : s.size ≤ maxLen) (w : World) :
    Calls Tryz.prog 130 #[.string s] w fun e w' => e = .returned (.int .i64 (qlen s.data.toList)) ∧ Below w.heap.size w w' := by
  unfold maxLen at hs
  by_cases hp : 0 < s.size ∧ byt s 0 = 34
  · have hcv := fun (s : ByteArray) w => Lib.run_convert_string_bytes (P := Tryz.prog) w 9 78 5 s Tryz.underlying9 Tryz.underlying78 Tryz.underlying5
    have HP : Hid (decide (0 < s.size ∧ byt s 0 = 34) = true) := decide_eq_true hp
    have HQ : Hid (qlen s.data.toList = plusOne (qscan false (s.data.toList.drop 1))) := qlen_some s hp.1 hp.2
    obtain ⟨hp1, hp2⟩ := hp
    have HP2 : Hid (byt s 0 = 34) := hp2
    clear hp2
    go_enter Tryz.func130, Tryz.ntmps130
    go_wp2_with fail
    go_step3
    go_wp2_with fail
    refine (Tryz.strings_HasPrefix s ⟨#[34]⟩ _).mono ?_
    rintro e w1 ⟨rfl, rfl⟩
    rw [prefix_quote, HP.out]
    go_wp2
    go_step3
    go_wp2
    have hb := below_bytes w1 5 (s.extract 1 s.size)
    have hc := bytes_cell w1 5 (s.extract 1 s.size)
    have hrs : (s.extract 1 s.size).size = s.size - 1 := by simp
    rw [hrs] at hc
    have HT : Hid ((s.extract 1 s.size).data.toList = s.data.toList.drop 1) := tail_list s
    have HTL : Hid ((s.data.toList.drop 1).length = s.size - 1) := (by simp : (s.data.toList.drop 1).length = s.size - 1)
    have HBE : Hid (∀ k, byt (s.extract 1 s.size) k = (((s.data.toList.drop 1).getD k 0).toNat : Int)) := by
      intro k
      unfold byt
      rw [HT.out]
    clear hrs hcv
    go_loop [3, 13] (fun ev i => ∃ (k : Nat) (esc : Bool), k ≤ s.size - 1 ∧ i = .int .i64 k ∧ ev = .bool esc ∧ Hid (qscan false (s.data.toList.drop 1) = (qscan esc ((s.data.toList.drop 1).drop k)).map (· + k))) (fun _ i => s.size - (intOf i).toNat)
    case atStart => exact ⟨0, false, Nat.zero_le _, rfl, rfl, (by simp : qscan false (s.data.toList.drop 1) = (qscan false ((s.data.toList.drop 1).drop 0)).map (· + 0))⟩
    case round =>
      obtain ⟨k, esc, hk, rfl, rfl, hst⟩ := hrel
      by_cases hlt : k < s.size - 1
      · have hck := hc k hlt
        clear hc
        have HD : Hid ((s.data.toList.drop 1).drop k = (s.data.toList.drop 1).getD k 0 :: (s.data.toList.drop 1).drop (k + 1)) := drop_cons _ k (by rw [HTL.out]; exact hlt)
        have HC : Hid (byt (s.extract 1 s.size) k = (((s.data.toList.drop 1).getD k 0).toNat : Int)) := HBE.out k
        generalize (s.data.toList.drop 1).getD k 0 = u at HD HC
        obtain ⟨b0, b1⟩ := byt_bd (s.extract 1 s.size) k
        generalize byt (s.extract 1 s.size) k = c at *
        have HF : Hid (fieldB u = fieldI c) := (by unfold fieldB; rw [HC.out] : fieldB u = fieldI c)
        cases hf : fieldI c with
        | false =>
          have HQ0 : Hid (qlen s.data.toList = 0) := by
            show qlen _ = 0
            rw [HQ.out, hst.out, HD.out, scan_field _ _ _ (by rw [HF.out]; exact hf)]
            rfl
          go_wp2_with (go_at_call 142; refine (isFieldByte_any _ b0 b1 _).mono ?_; rintro e w' ⟨rfl, rfl⟩)
          try rw [Exit.noGoto_ret]
          go_ret
          exact ⟨ret_int (by rw [HQ0.out]; rfl), hb⟩
        | true =>
          cases esc with
          | true =>
            have HN : Hid (qscan false (s.data.toList.drop 1) = (qscan false ((s.data.toList.drop 1).drop (k + 1))).map (· + (k + 1))) := by
              show qscan _ _ = _
              rw [hst.out, HD.out, scan_esc _ _ (by rw [HF.out]; exact hf), map_shift]
            go_wp2_with (go_at_call 142; refine (isFieldByte_any _ b0 b1 _).mono ?_; rintro e w' ⟨rfl, rfl⟩)
            go_round
            case rel => exact ⟨k + 1, false, by omega, by go_num, rfl, HN⟩
            case measure => simp [intOf]; omega
          | false =>
            by_cases h92 : c = 92
            · have HN : Hid (qscan false (s.data.toList.drop 1) = (qscan true ((s.data.toList.drop 1).drop (k + 1))).map (· + (k + 1))) := by
                show qscan _ _ = _
                rw [hst.out, HD.out, scan_back _ _ (UInt8.toNat_inj.1 (by have := HC.out; show u.toNat = 92; omega)), map_shift]
              have h92' : (c == 92) = true := by simp [h92]
              clear h92
              go_wp2_with (go_at_call 142; refine (isFieldByte_any _ b0 b1 _).mono ?_; rintro e w' ⟨rfl, rfl⟩)
              go_round
              case rel => exact ⟨k + 1, true, by omega, by go_num, rfl, HN⟩
              case measure => simp [intOf]; omega
            · have h92' : (c == 92) = false := by simp [h92]
              by_cases h34 : c = 34
              · have HQ2 : Hid (qlen s.data.toList = k + 2) := by
                  show qlen _ = _
                  rw [HQ.out, hst.out, HD.out, scan_end _ _ (UInt8.toNat_inj.1 (by have := HC.out; show u.toNat = 34; omega))]
                  show 1 + k + 1 = k + 2
                  omega
                have h34' : (c == 34) = true := by simp [h34]
                clear h34 h92
                go_wp2_with (go_at_call 142; refine (isFieldByte_any _ b0 b1 _).mono ?_; rintro e w' ⟨rfl, rfl⟩)
                try rw [Exit.noGoto_ret]
                go_ret
                exact ⟨ret_int (by rw [HQ2.out]; omega), hb⟩
              · have h34' : (c == 34) = false := by simp [h34]
                have HN : Hid (qscan false (s.data.toList.drop 1) = (qscan false ((s.data.toList.drop 1).drop (k + 1))).map (· + (k + 1))) := by
                  show qscan _ _ = _
                  rw [hst.out, HD.out, scan_on _ _ (by rw [HF.out]; exact hf) (by intro e; have := HC.out; rw [e] at this; exact h92 this) (by intro e; have := HC.out; rw [e] at this; exact h34 this), map_shift]
                clear h34 h92
                go_wp2_with (go_at_call 142; refine (isFieldByte_any _ b0 b1 _).mono ?_; rintro e w' ⟨rfl, rfl⟩)
                go_round
                case rel => exact ⟨k + 1, false, by omega, by go_num, rfl, HN⟩
                case measure => simp [intOf]; omega
      · have HQ0 : Hid (qlen s.data.toList = 0) := by
          show qlen _ = 0
          have h1 := hst.out
          rw [show (s.data.toList.drop 1).drop k = [] from List.drop_of_length_le (by rw [HTL.out]; omega)] at h1
          rw [HQ.out, h1]
          cases esc <;> rfl
        have hge : ¬ ((k : Int) < ((s.size - 1 : Nat) : Int)) := by omega
        go_wp2
        try rw [Exit.noGoto_ret]
        go_ret
        exact ⟨ret_int (by rw [HQ0.out]; rfl), hb⟩
  · have HP : Hid (decide (0 < s.size ∧ byt s 0 = 34) = false) := decide_eq_false hp
    have HQ : Hid (qlen s.data.toList = 0) := qlen_none s hp
    go_enter Tryz.func130, Tryz.ntmps130
    go_wp2_with fail
    go_step3
    go_wp2_with fail
    refine (Tryz.strings_HasPrefix s ⟨#[34]⟩ _).mono ?_
    rintro e w1 ⟨rfl, rfl⟩
    rw [prefix_quote, HP.out]
    go_wp2
    rw [Exit.noGoto_ret]
    go_ret
    exact ⟨ret_int (by rw [HQ.out]; rfl), Below.refl _ _⟩

end Oc
end Go.Proofs.YtlnlhhobmgiceaaGreatDoor

/-
  octet.Trim, by strings.Trim.
-/
set_option linter.unusedVariables false
set_option linter.unusedSimpArgs false
namespace Go.Proofs.YtlnlhhobmgiceaaGreatDoor
open Go.RowKit Go.Shelf Go.Lib
namespace Oc

set_option maxHeartbeats 1000000 in
theorem Trim_any (s : ByteArray) (hs : s.size ≤ maxLen) (w : World) :
    Calls Tryz.prog 27 #[.string s] w fun e w' => e = .returned (.string (str (trim s.data.toList))) ∧ Below w.heap.size w w' := by
  have hcon := Any.strings_Trim_laid Tryz.lays160 (by kernel_rfl) s ⟨#[32, 9]⟩ w hs (by decide) (ascii_of_all (by decide))
  change Calls Tryz.prog 60 _ _ (fun e w' => e = .returned (.string ⟨(Lib.trimS s.data.toList [32, 9]).toArray⟩) ∧ Below w.heap.size w w') at hcon
  rw [trimS_eq] at hcon
  change Calls Tryz.prog 60 _ _ (fun e w' => e = .returned (.string (str (trim s.data.toList))) ∧ Below w.heap.size w w') at hcon
  generalize str (trim s.data.toList) = r at hcon ⊢
  have HC : Hid (Calls Tryz.prog 60 #[.string s, .string ⟨#[32, 9]⟩] w (fun e w' => e = .returned (.string r) ∧ Below w.heap.size w w')) := hcon
  clear hcon
  go_enter Tryz.func27, Tryz.ntmps27
  go_wp2_with fail
  refine HC.out.mono ?_
  rintro e w' ⟨rfl, hB⟩
  go_wp2
  go_ret
  exact ⟨rfl, hB⟩

end Oc
end Go.Proofs.YtlnlhhobmgiceaaGreatDoor

/-
  Slices of texts of the call's own; octet.List.
-/
set_option linter.unusedVariables false
set_option linter.unusedSimpArgs false
namespace Go.Proofs.YtlnlhhobmgiceaaGreatDoor
open Go.RowKit Go.Shelf
namespace Oc

def encS (t : List (List UInt8)) : List Value := t.map fun l => .string (str l)
/-- A slice of texts of the call's own. -/
def OwnS (B : Nat) (v : Value) (t : List (List UInt8)) (w : World) : Prop := w.ownsRow B 9 1 v t.length (encS t)
theorem ownS_nil (B : Nat) (w : World) : OwnS B (.slice none 0 0) [] w := World.ownsRow_nil w B 9 1
theorem ownS_empty (w : World) : OwnS w.heap.size (.slice (some ⟨w.heap.size, 0, none⟩) 0 0) [] (w.alloc (.cells #[] 9)) :=
  ⟨by simp [encS], .inr ⟨w.heap.size, 0, #[], rfl, Nat.le_refl _, heap_alloc_new w _, by simp, by decide, by simp, by simp [encS]⟩⟩
theorem OwnS.lower {B B' : Nat} {v : Value} {t : List (List UInt8)} {w : World} (h : OwnS B v t w) (hB : B' ≤ B) : OwnS B' v t w := by
  refine ⟨h.1, ?_⟩
  rcases h.2 with hn | ⟨g, cap, cur, rfl, hb, rest⟩
  · exact .inl hn
  · exact .inr ⟨g, cap, cur, rfl, by omega, rest⟩
theorem OwnS.below {B : Nat} {v : Value} {t : List (List UInt8)} {w w' : World} (h : OwnS B v t w) (b : Below w.heap.size w w') : OwnS B v t w' := by
  refine ⟨h.1, ?_⟩
  rcases h.2 with hn | ⟨g, cap, cur, rfl, hb, hg, rest⟩
  · exact .inl hn
  · refine .inr ⟨g, cap, cur, rfl, hb, ?_, rest⟩
    have hlt : g < w.heap.size := by
      rcases Nat.lt_or_ge g w.heap.size with h | h
      · exact h
      · simp [Array.getElem?_eq_none h] at hg
    rw [b.block g hlt]
    exact hg
theorem OwnS.form {B : Nat} {v : Value} {t : List (List UInt8)} {w : World} (h : OwnS B v t w) : ∃ a c, v = .slice a t.length c := by
  rcases h.2 with ⟨rfl, h0⟩ | ⟨g, cap, cur, rfl, _⟩
  · exact ⟨none, 0, by rw [h0]⟩
  · exact ⟨_, _, rfl⟩
theorem OwnS.cell {B : Nat} {t : List (List UInt8)} {w : World} {a : Option Addr} {c : Nat} (h : OwnS B (.slice a t.length c) t w) (j : Nat) (hj : j < t.length) :
    ∃ g, a = some ⟨g, 0, none⟩ ∧ t.length ≤ c ∧ w.cell? ⟨g, j, none⟩ = some (.string (str (t.getD j []))) := by
  rcases h.2 with ⟨hv, h0⟩ | ⟨g, cap, cur, hv, _, hg, hn, _, hsz, htake⟩
  · omega
  · injection hv with e1 e2 e3
    refine ⟨g, e1, by omega, ?_⟩
    have hc := World.ownsRow.cells h (g := g) (by rw [e1]; rfl) j (.string (str (t.getD j []))) (by
      unfold encS
      rw [List.getElem?_map, List.getElem?_eq_getElem hj, List.getD_eq_getElem?_getD, List.getElem?_eq_getElem hj]
      rfl)
    have ea : Addr.add ⟨g, 0, none⟩ j = ⟨g, j, none⟩ := by unfold Addr.add; split <;> simp_all
    rw [ea] at hc
    exact hc

theorem infoStr : (Tryz.prog.info? 9).map (fun i => (i.zero, i.size, i.bytes)) = some (some (.string ⟨#[]⟩), 1, 16) := by kernel_rfl
theorem infoS : ∃ i, Tryz.prog.info? 9 = some i ∧ i.zero = some (.string ⟨#[]⟩) ∧ i.size = 1 ∧ i.bytes = 16 := by
  obtain ⟨i0, hi, hz0, hz1, hz2⟩ := info_parts infoStr
  exact ⟨i0, hi, hz0, hz1, hz2⟩
/-- A text appended to a slice of the call's own. -/
theorem wp_appS {ops : Array Oper} {rest : List Oper} {o : Oper} {a : Act} {Q : Exit → Act → World → Prop} (hgd : o.guard = none) (s x : Operand)
    (ho : o.op = .call { callee := .builtin .append, args := #[s, x], argTypes := #[81, 81] }) (B : Nat) (v : Value) (t : List (List UInt8)) (W : World) (l : List UInt8)
    (hs : a.eval s = v) (hown : OwnS B v t W) (hx : a.eval x = .slice (some ⟨W.heap.size, 0, none⟩) 1 1) (hlen : t.length + 1 ≤ 4294967296) (hB : B ≤ W.heap.size)
    (h : ∀ v' w', OwnS B v' (t ++ [l]) w' → Below B W w' → wpList Tryz.prog ops Q rest (a.put o.dst v') w') : wpList Tryz.prog ops Q (o :: rest) a (W.alloc (.cells #[.string (str l)] 9)) := by
  obtain ⟨i0, hi, hz0, hz1, hz2⟩ := infoS
  refine wpList_append_own _ hgd s x 81 ho B 9 i0 (.string ⟨#[]⟩) 1 16 Tryz.underlying81 hi hz0 hz1 hz2 rfl (by decide) v t.length _ hs (World.ownsRow.alloc hown _) ⟨W.heap.size, 0, none⟩ 1 1 [.string (str l)] hx rfl ?_ ?_ ?_ ?_ ?_ ?_
  · intro j u hj
    match j, hj with
    | 0, hj => simp at hj; subst hj; simp [Addr.add]
  · intro u hu; simp at hu; subst hu; rfl
  · unfold maxLen; omega
  · omega
  · simp; omega
  · intro v' w' h1 h2 _
    refine h v' w' ?_ (((Below.refl B W).alloc hB _).grown h2 (by simp; omega) (fun k hk => (World.ownsRow.lt hown k hk).1))
    unfold OwnS
    rw [List.length_append]
    simpa [encS] using h1

theorem str_empty (l : List UInt8) : (str l).toList.isEmpty = decide (l = []) := by
  rw [ByteArray.toList_eq, str_list]
  cases l <;> simp

end Oc
end Go.Proofs.YtlnlhhobmgiceaaGreatDoor
