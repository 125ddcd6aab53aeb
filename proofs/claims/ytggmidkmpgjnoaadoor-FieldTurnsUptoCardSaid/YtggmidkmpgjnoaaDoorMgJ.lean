/- Several texts as one. -/
import Derived.Test.YtggmidkmpgjnoaaDoorMgI
import Derived.Test.YtggmidkmpgjnoaaDoorMgE
import Derived.Laws.BytesArg
import Derived.Test.YtggmidkmpgjnoaaDoorMgC
import Derived.WalkMore
/-
  octet.Quote.
-/
set_option linter.unusedVariables false
set_option linter.unusedSimpArgs false
namespace Go.Proofs.YtggmidkmpgjnoaaDoor
open Go.RowKit Go.Shelf
namespace Oc

theorem cells_snoc (l : List UInt8) (c : UInt8) : Lib.byteCells l ++ [.int .u8 (c.toNat : Int)] = Lib.byteCells (l ++ [c]) := by simp [Lib.byteCells]
theorem cells_len (l : List UInt8) : (Lib.byteCells l).length = l.length := by simp [Lib.byteCells]

/-- The row of a conversion, as it was laid. -/
def RowAt (w2 : World) (s : ByteArray) (w : World) : Prop := w.heap[w2.heap.size]? = (Lib.bytesWorld w2 5 s).heap[w2.heap.size]?
theorem RowAt.cell {w2 w : World} {s : ByteArray} (h : RowAt w2 s w) (j : Nat) (hj : j < s.size) : w.cell? ⟨w2.heap.size, j, none⟩ = some (.int .u8 (byt s j)) := by
  rw [World.cell?_of_block (w := Lib.bytesWorld w2 5 s) (a := ⟨w2.heap.size, j, none⟩) h]
  exact bytes_cell w2 5 s j hj
theorem RowAt.marked {w2 w w' : World} {s : ByteArray} (h : RowAt w2 s w) (m : Marked w w') : RowAt w2 s w' := by
  have h1 := h
  unfold RowAt at h1
  rw [Lib.bytesWorld_at_new] at h1
  unfold RowAt
  rw [m _ _ _ _ h1 (by simp)]
  exact h

end Oc
end Go.Proofs.YtggmidkmpgjnoaaDoor

/-
  The document's Quote.
-/
set_option linter.unusedVariables false
set_option linter.unusedSimpArgs false
namespace Go.Proofs.YtggmidkmpgjnoaaDoor
open Go.RowKit Go.Shelf
namespace Oc

/-- A slice of bytes of the call's own. -/
def Own (B : Nat) (v : Value) (l : List UInt8) (w : World) : Prop := w.ownsRow B 5 1 v l.length (Lib.byteCells l)
theorem Own.alloc {B : Nat} {v : Value} {l : List UInt8} {w : World} (h : Own B v l w) (o : Obj) : Own B v l (w.alloc o) := World.ownsRow.alloc h o
theorem own_back {B : Nat} {v : Value} {l : List UInt8} {w : World} (h : Own B v l w) : (convert 70 9 v).run Tryd.prog w = .ok (.string (str l)) w := by
  rcases h.2 with ⟨rfl, h0⟩ | ⟨g, cap, cur, rfl, _, hg, hn, _, hsz, htake⟩
  · have e : l = [] := List.length_eq_zero_iff.1 h0
    subst e
    rw [run_convert_bytes_nil (P := Tryd.prog) w 70 5 Tryd.underlying70 Tryd.underlying5 0 0 9 Tryd.underlying9]
    rfl
  · refine run_convert_bytes_back w 70 9 5 ⟨g, 0, none⟩ cap l Tryd.underlying70 Tryd.underlying5 Tryd.underlying9 (fun j hj => ?_)
    refine World.ownsRow.cells h (g := g) rfl j _ ?_
    simp [Lib.byteCells, hj]
theorem own_one (w : World) (c : Int) (u : UInt8) (h : c = (u.toNat : Int)) : Own w.heap.size (.slice (some ⟨w.heap.size, 0, none⟩) 1 1) [u] (w.alloc (.cells #[.int .u8 c] 5)) := by
  subst h
  refine ⟨by simp [Lib.byteCells], .inr ⟨w.heap.size, 1, #[.int .u8 (u.toNat : Int)], rfl, Nat.le_refl _, heap_alloc_new w _, by simp, by decide, by simp, by simp [Lib.byteCells]⟩⟩
theorem own_snoc {B : Nat} {v : Value} {l : List UInt8} {u : UInt8} {w : World} (h : w.ownsRow B 5 1 v (l.length + 1) (Lib.byteCells l ++ [.int .u8 (u.toNat : Int)])) : Own B v (l ++ [u]) w := by
  rw [cells_snoc] at h
  unfold Own
  rw [List.length_append]
  exact h

theorem info5 : ∃ i, Tryd.prog.info? 5 = some i ∧ i.zero = some (.int .u8 0) ∧ i.size = 1 ∧ i.bytes = 1 := by
  obtain ⟨i0, hi, hz0, hz1, hz2⟩ := info_parts infoByte
  exact ⟨i0, hi, hz0, hz1, hz2⟩
/-- A byte appended to a slice of the call's own. -/
theorem wp_app {ops : Array Oper} {rest : List Oper} {o : Oper} {a : Act} {Q : Exit → Act → World → Prop} (hgd : o.guard = none) (s x : Operand)
    (ho : o.op = .call { callee := .builtin .append, args := #[s, x], argTypes := #[70, 70] }) (B : Nat) (v : Value) (l : List UInt8) (W : World) (c : Int) (u : UInt8) (hc : c = (u.toNat : Int))
    (hs : a.eval s = v) (hown : Own B v l W) (hx : a.eval x = .slice (some ⟨W.heap.size, 0, none⟩) 1 1) (hlen : l.length + 1 ≤ 140737488355328) (hB : B ≤ W.heap.size)
    (h : ∀ v' w', Own B v' (l ++ [u]) w' → Below B W w' → Marked W w' → wpList Tryd.prog ops Q rest (a.put o.dst v') w') : wpList Tryd.prog ops Q (o :: rest) a (W.alloc (.cells #[.int .u8 c] 5)) := by
  obtain ⟨i0, hi, hz0, hz1, hz2⟩ := info5
  refine wpList_append_own _ hgd s x 70 ho B 5 i0 (.int .u8 0) 1 1 Tryd.underlying70 hi hz0 hz1 hz2 rfl (by decide) v l.length _ hs (World.ownsRow.alloc hown _) ⟨W.heap.size, 0, none⟩ 1 1 [.int .u8 c] hx rfl ?_ ?_ ?_ ?_ ?_ ?_
  · intro j u hj
    match j, hj with
    | 0, hj => simp at hj; subst hj; simp [Addr.add]
  · intro u hu; simp at hu; subst hu; rfl
  · unfold maxLen; omega
  · omega
  · simp; omega
  · intro v' w' h1 h2 _
    subst hc
    exact h v' w' (own_snoc h1) (((Below.refl B W).alloc hB _).grown h2 (by simp; omega) (fun k hk => (World.ownsRow.lt hown k hk).1)) ((marked_alloc W _).trans (marked_grown h2 (World.ownsRow.alloc hown _)))

end Oc
end Go.Proofs.YtggmidkmpgjnoaaDoor

/-
  octet.quotedLength.
-/
set_option linter.unusedVariables false
set_option linter.unusedSimpArgs false
namespace Go.Proofs.YtggmidkmpgjnoaaDoor
open Go.RowKit Go.Shelf
namespace Oc

theorem prefix_quote (s : ByteArray) : Lib.hasPrefix s.data.toList (⟨#[34]⟩ : ByteArray).data.toList = decide (0 < s.size ∧ byt s 0 = 34) := by
  unfold Lib.hasPrefix byt
  rw [← size_list]
  cases s.data.toList with
  | nil => simp
  | cons c l =>
    have e : (⟨#[34]⟩ : ByteArray).data.toList = [34] := rfl
    rw [e, Bool.eq_iff_iff, decide_eq_true_iff]
    simp only [List.isPrefixOf_cons_cons, List.isPrefixOf_nil_left, Bool.and_true, beq_iff_eq, List.length_cons, List.getD_cons_zero]
    constructor
    · intro h; subst h; exact ⟨by omega, rfl⟩
    · rintro ⟨_, h⟩
      exact (UInt8.toNat_inj.1 (by show c.toNat = 34; omega)).symm

theorem qlen_none (s : ByteArray) (h : ¬ (0 < s.size ∧ byt s 0 = 34)) : qlen s.data.toList = 0 := by
  by_cases hz : s.size = 0
  · rw [List.length_eq_zero_iff.1 ((size_list s).trans hz)]; rfl
  · rw [cons_of hz]
    rw [qlen_cons, if_neg]
    intro e
    apply h
    refine ⟨by omega, ?_⟩
    unfold byt
    rw [e]
    rfl
theorem qlen_some (s : ByteArray) (h : 0 < s.size) (h2 : byt s 0 = 34) : qlen s.data.toList = plusOne (qscan false (s.data.toList.drop 1)) := by
  rw [cons_of (by omega)]
  have e : s.data.toList.getD 0 0 = 34 := UInt8.toNat_inj.1 (by unfold byt at h2; show _ = 34; omega)
  rw [e, qlen_cons, if_pos rfl]
  rfl

theorem drop_cons (T : List UInt8) (k : Nat) (h : k < T.length) : T.drop k = T.getD k 0 :: T.drop (k + 1) := by
  rw [List.drop_eq_getElem_cons h, List.getD_eq_getElem?_getD, List.getElem?_eq_getElem h]
  rfl
theorem scan_field (e : Bool) (c : UInt8) (l : List UInt8) (h : fieldB c = false) : qscan e (c :: l) = none := by rw [qscan, if_pos h]
theorem scan_esc (c : UInt8) (l : List UInt8) (h : fieldB c = true) : qscan true (c :: l) = (qscan false l).map (· + 1) := by rw [qscan, if_neg (by simp [h]), if_pos rfl]
theorem scan_back (c : UInt8) (l : List UInt8) (h : c = 92) : qscan false (c :: l) = (qscan true l).map (· + 1) := by subst h; rw [qscan, if_neg (by decide), if_neg (by simp), if_pos rfl]
theorem scan_end (c : UInt8) (l : List UInt8) (h : c = 34) : qscan false (c :: l) = some 1 := by subst h; rw [qscan, if_neg (by decide), if_neg (by simp), if_neg (by decide), if_pos rfl]
theorem scan_on (c : UInt8) (l : List UInt8) (h : fieldB c = true) (h1 : c ≠ 92) (h2 : c ≠ 34) : qscan false (c :: l) = (qscan false l).map (· + 1) := by rw [qscan, if_neg (by simp [h]), if_neg (by simp), if_neg h1, if_neg h2]
theorem map_shift (o : Option Nat) (k : Nat) : ((o.map (· + 1)).map (· + k)) = o.map (· + (k + 1)) := by
  cases o with
  | none => rfl
  | some x => simp; omega

set_option maxRecDepth 100000 in
set_option maxHeartbeats 1000000 in
theorem quotedLength_any (s : ByteArray) (hs : s.size ≤ maxLen) (w : World) :
    Calls Tryd.prog 81 #[.string s] w fun e w' => e = .returned (.int .i64 (qlen s.data.toList)) ∧ Below w.heap.size w w' := by
  unfold maxLen at hs
  by_cases hp : 0 < s.size ∧ byt s 0 = 34
  · have hcv := fun (s : ByteArray) w => Lib.run_convert_string_bytes (P := Tryd.prog) w 9 70 5 s Tryd.underlying9 Tryd.underlying70 Tryd.underlying5
    have HP : Hid (decide (0 < s.size ∧ byt s 0 = 34) = true) := decide_eq_true hp
    have HQ : Hid (qlen s.data.toList = plusOne (qscan false (s.data.toList.drop 1))) := qlen_some s hp.1 hp.2
    obtain ⟨hp1, hp2⟩ := hp
    have HP2 : Hid (byt s 0 = 34) := hp2
    clear hp2
    go_enter Tryd.func81, Tryd.ntmps81
    go_wp2_with fail
    go_step3
    go_wp2_with fail
    refine (Tryd.strings_HasPrefix s ⟨#[34]⟩ _).mono ?_
    rintro e w1 ⟨rfl, rfl⟩
    rw [prefix_quote, HP.out]
    go_wp2
    go_step3
    go_wp2
    have hb := below_bytes w1 5 (s.extract 1 s.size)
    have hc := bytes_cell w1 5 (s.extract 1 s.size)
    have hrs : (s.extract 1 s.size).size = s.size - 1 := by simp
    rw [hrs] at hc
    have HT : Hid ((s.extract 1 s.size).data.toList = s.data.toList.drop 1) := tail_list s
    have HTL : Hid ((s.data.toList.drop 1).length = s.size - 1) := (by simp : (s.data.toList.drop 1).length = s.size - 1)
    have HBE : Hid (∀ k, byt (s.extract 1 s.size) k = (((s.data.toList.drop 1).getD k 0).toNat : Int)) := by
      intro k
      unfold byt
      rw [HT.out]
    clear hrs hcv
    go_loop [3, 13] (fun ev i => ∃ (k : Nat) (esc : Bool), k ≤ s.size - 1 ∧ i = .int .i64 k ∧ ev = .bool esc ∧ Hid (qscan false (s.data.toList.drop 1) = (qscan esc ((s.data.toList.drop 1).drop k)).map (· + k))) (fun _ i => s.size - (intOf i).toNat)
    case atStart => exact ⟨0, false, Nat.zero_le _, rfl, rfl, (by simp : qscan false (s.data.toList.drop 1) = (qscan false ((s.data.toList.drop 1).drop 0)).map (· + 0))⟩
    case round =>
      obtain ⟨k, esc, hk, rfl, rfl, hst⟩ := hrel
      by_cases hlt : k < s.size - 1
      · have hck := hc k hlt
        clear hc
        have HD : Hid ((s.data.toList.drop 1).drop k = (s.data.toList.drop 1).getD k 0 :: (s.data.toList.drop 1).drop (k + 1)) := drop_cons _ k (by rw [HTL.out]; exact hlt)
        have HC : Hid (byt (s.extract 1 s.size) k = (((s.data.toList.drop 1).getD k 0).toNat : Int)) := HBE.out k
        generalize (s.data.toList.drop 1).getD k 0 = u at HD HC
        obtain ⟨b0, b1⟩ := byt_bd (s.extract 1 s.size) k
        generalize byt (s.extract 1 s.size) k = c at *
        have HF : Hid (fieldB u = fieldI c) := (by unfold fieldB; rw [HC.out] : fieldB u = fieldI c)
        cases hf : fieldI c with
        | false =>
          have HQ0 : Hid (qlen s.data.toList = 0) := by
            show qlen _ = 0
            rw [HQ.out, hst.out, HD.out, scan_field _ _ _ (by rw [HF.out]; exact hf)]
            rfl
          go_wp2_with (go_at_call 74; refine (isFieldByte_any _ b0 b1 _).mono ?_; rintro e w' ⟨rfl, rfl⟩)
          try rw [Exit.noGoto_ret]
          go_ret
          exact ⟨ret_int (by rw [HQ0.out]; rfl), hb⟩
        | true =>
          cases esc with
          | true =>
            have HN : Hid (qscan false (s.data.toList.drop 1) = (qscan false ((s.data.toList.drop 1).drop (k + 1))).map (· + (k + 1))) := by
              show qscan _ _ = _
              rw [hst.out, HD.out, scan_esc _ _ (by rw [HF.out]; exact hf), map_shift]
            go_wp2_with (go_at_call 74; refine (isFieldByte_any _ b0 b1 _).mono ?_; rintro e w' ⟨rfl, rfl⟩)
            go_round
            case rel => exact ⟨k + 1, false, by omega, by go_num, rfl, HN⟩
            case measure => simp [intOf]; omega
          | false =>
            by_cases h92 : c = 92
            · have HN : Hid (qscan false (s.data.toList.drop 1) = (qscan true ((s.data.toList.drop 1).drop (k + 1))).map (· + (k + 1))) := by
                show qscan _ _ = _
                rw [hst.out, HD.out, scan_back _ _ (UInt8.toNat_inj.1 (by have := HC.out; show u.toNat = 92; omega)), map_shift]
              have h92' : (c == 92) = true := by simp [h92]
              clear h92
              go_wp2_with (go_at_call 74; refine (isFieldByte_any _ b0 b1 _).mono ?_; rintro e w' ⟨rfl, rfl⟩)
              go_round
              case rel => exact ⟨k + 1, true, by omega, by go_num, rfl, HN⟩
              case measure => simp [intOf]; omega
            · have h92' : (c == 92) = false := by simp [h92]
              by_cases h34 : c = 34
              · have HQ2 : Hid (qlen s.data.toList = k + 2) := by
                  show qlen _ = _
                  rw [HQ.out, hst.out, HD.out, scan_end _ _ (UInt8.toNat_inj.1 (by have := HC.out; show u.toNat = 34; omega))]
                  show 1 + k + 1 = k + 2
                  omega
                have h34' : (c == 34) = true := by simp [h34]
                clear h34 h92
                go_wp2_with (go_at_call 74; refine (isFieldByte_any _ b0 b1 _).mono ?_; rintro e w' ⟨rfl, rfl⟩)
                try rw [Exit.noGoto_ret]
                go_ret
                exact ⟨ret_int (by rw [HQ2.out]; omega), hb⟩
              · have h34' : (c == 34) = false := by simp [h34]
                have HN : Hid (qscan false (s.data.toList.drop 1) = (qscan false ((s.data.toList.drop 1).drop (k + 1))).map (· + (k + 1))) := by
                  show qscan _ _ = _
                  rw [hst.out, HD.out, scan_on _ _ (by rw [HF.out]; exact hf) (by intro e; have := HC.out; rw [e] at this; exact h92 this) (by intro e; have := HC.out; rw [e] at this; exact h34 this), map_shift]
                clear h34 h92
                go_wp2_with (go_at_call 74; refine (isFieldByte_any _ b0 b1 _).mono ?_; rintro e w' ⟨rfl, rfl⟩)
                go_round
                case rel => exact ⟨k + 1, false, by omega, by go_num, rfl, HN⟩
                case measure => simp [intOf]; omega
      · have HQ0 : Hid (qlen s.data.toList = 0) := by
          show qlen _ = 0
          have h1 := hst.out
          rw [show (s.data.toList.drop 1).drop k = [] from List.drop_of_length_le (by rw [HTL.out]; omega)] at h1
          rw [HQ.out, h1]
          cases esc <;> rfl
        have hge : ¬ ((k : Int) < ((s.size - 1 : Nat) : Int)) := by omega
        go_wp2
        try rw [Exit.noGoto_ret]
        go_ret
        exact ⟨ret_int (by rw [HQ0.out]; rfl), hb⟩
  · have HP : Hid (decide (0 < s.size ∧ byt s 0 = 34) = false) := decide_eq_false hp
    have HQ : Hid (qlen s.data.toList = 0) := qlen_none s hp
    go_enter Tryd.func81, Tryd.ntmps81
    go_wp2_with fail
    go_step3
    go_wp2_with fail
    refine (Tryd.strings_HasPrefix s ⟨#[34]⟩ _).mono ?_
    rintro e w1 ⟨rfl, rfl⟩
    rw [prefix_quote, HP.out]
    go_wp2
    rw [Exit.noGoto_ret]
    go_ret
    exact ⟨ret_int (by rw [HQ.out]; rfl), Below.refl _ _⟩

end Oc
end Go.Proofs.YtggmidkmpgjnoaaDoor
