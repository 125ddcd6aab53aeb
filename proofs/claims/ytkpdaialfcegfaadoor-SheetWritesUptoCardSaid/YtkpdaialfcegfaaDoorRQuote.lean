/-
  The document's Quote.
-/
import Derived.Test.YtkpdaialfcegfaaDoorMgH1
import Derived.Laws.BytesArg
set_option linter.unusedVariables false
set_option linter.unusedSimpArgs false
namespace Go.Proofs.YtkpdaialfcegfaaDoor
open Go.RowKit Go.Shelf
namespace Oc

/-- A slice of bytes of the call's own. -/
def Own (B : Nat) (v : Value) (l : List UInt8) (w : World) : Prop := w.ownsRow B 5 1 v l.length (Lib.byteCells l)
theorem Own.alloc {B : Nat} {v : Value} {l : List UInt8} {w : World} (h : Own B v l w) (o : Obj) : Own B v l (w.alloc o) := World.ownsRow.alloc h o
theorem own_back {B : Nat} {v : Value} {l : List UInt8} {w : World} (h : Own B v l w) : (convert 61 9 v).run Tryd.prog w = .ok (.string (str l)) w := by
  rcases h.2 with ⟨rfl, h0⟩ | ⟨g, cap, cur, rfl, _, hg, hn, _, hsz, htake⟩
  · have e : l = [] := List.length_eq_zero_iff.1 h0
    subst e
    rw [run_convert_bytes_nil (P := Tryd.prog) w 61 5 Tryd.underlying61 Tryd.underlying5 0 0 9 Tryd.underlying9]
    rfl
  · refine run_convert_bytes_back w 61 9 5 ⟨g, 0, none⟩ cap l Tryd.underlying61 Tryd.underlying5 Tryd.underlying9 (fun j hj => ?_)
    refine World.ownsRow.cells h (g := g) rfl j _ ?_
    simp [Lib.byteCells, hj]
theorem own_one (w : World) (c : Int) (u : UInt8) (h : c = (u.toNat : Int)) : Own w.heap.size (.slice (some ⟨w.heap.size, 0, none⟩) 1 1) [u] (w.alloc (.cells #[.int .u8 c] 5)) := by
  subst h
  refine ⟨by simp [Lib.byteCells], .inr ⟨w.heap.size, 1, #[.int .u8 (u.toNat : Int)], rfl, Nat.le_refl _, heap_alloc_new w _, by simp, by decide, by simp, by simp [Lib.byteCells]⟩⟩
theorem own_snoc {B : Nat} {v : Value} {l : List UInt8} {u : UInt8} {w : World} (h : w.ownsRow B 5 1 v (l.length + 1) (Lib.byteCells l ++ [.int .u8 (u.toNat : Int)])) : Own B v (l ++ [u]) w := by
  rw [cells_snoc] at h
  unfold Own
  rw [List.length_append]
  exact h

theorem info5 : ∃ i, Tryd.prog.info? 5 = some i ∧ i.zero = some (.int .u8 0) ∧ i.size = 1 ∧ i.bytes = 1 := by
  obtain ⟨i0, hi, hz0, hz1, hz2⟩ := info_parts infoByte
  exact ⟨i0, hi, hz0, hz1, hz2⟩
/-- A byte appended to a slice of the call's own. -/
theorem wp_app {ops : Array Oper} {rest : List Oper} {o : Oper} {a : Act} {Q : Exit → Act → World → Prop} (hgd : o.guard = none) (s x : Operand)
    (ho : o.op = .call { callee := .builtin .append, args := #[s, x], argTypes := #[61, 61] }) (B : Nat) (v : Value) (l : List UInt8) (W : World) (c : Int) (u : UInt8) (hc : c = (u.toNat : Int))
    (hs : a.eval s = v) (hown : Own B v l W) (hx : a.eval x = .slice (some ⟨W.heap.size, 0, none⟩) 1 1) (hlen : l.length + 1 ≤ 140737488355328) (hB : B ≤ W.heap.size)
    (h : ∀ v' w', Own B v' (l ++ [u]) w' → Below B W w' → Marked W w' → wpList Tryd.prog ops Q rest (a.put o.dst v') w') : wpList Tryd.prog ops Q (o :: rest) a (W.alloc (.cells #[.int .u8 c] 5)) := by
  obtain ⟨i0, hi, hz0, hz1, hz2⟩ := info5
  refine wpList_append_own _ hgd s x 61 ho B 5 i0 (.int .u8 0) 1 1 Tryd.underlying61 hi hz0 hz1 hz2 rfl (by decide) v l.length _ hs (World.ownsRow.alloc hown _) ⟨W.heap.size, 0, none⟩ 1 1 [.int .u8 c] hx rfl ?_ ?_ ?_ ?_ ?_ ?_
  · intro j u hj
    match j, hj with
    | 0, hj => simp at hj; subst hj; simp [Addr.add]
  · intro u hu; simp at hu; subst hu; rfl
  · unfold maxLen; omega
  · omega
  · simp; omega
  · intro v' w' h1 h2 _
    subst hc
    exact h v' w' (own_snoc h1) (((Below.refl B W).alloc hB _).grown h2 (by simp; omega) (fun k hk => (World.ownsRow.lt hown k hk).1)) ((marked_alloc W _).trans (marked_grown h2 (World.ownsRow.alloc hown _)))

set_option maxRecDepth 100000 in
set_option maxHeartbeats 1000000 in
theorem rQuote_any (s : ByteArray) (hs : s.size ≤ 16777216) (w : World) :
    Calls Tryd.prog 56 #[.string s] w fun e w' => e = .returned (.tuple #[.string (str (quoteR s.data.toList).1), .int .i64 (quoteR s.data.toList).2]) ∧ Below w.heap.size w w' := by
  have HS : Hid (s.size ≤ maxLen) := (by unfold maxLen; omega : s.size ≤ maxLen)
  cases hf : isFld s.data.toList with
  | false =>
    have HQ : Hid (quoteR s.data.toList = ([], 13)) := (by unfold quoteR; rw [hf]; rfl : quoteR s.data.toList = ([], 13))
    go_enter Tryd.func56, Tryd.ntmps56
    go_wp2_with fail
    refine (rIsField_any s HS.out _).mono ?_
    rintro e w1 ⟨rfl, rfl⟩
    rw [hf]
    go_wp2
    go_ret2
    rw [HQ.out]
    exact ⟨rfl, Below.refl _ _⟩
  | true =>
    obtain ⟨i0, hi, hz0, hz1, hz2⟩ := info_parts infoByte
    have HQ : Hid (quoteR s.data.toList = (qText s.data.toList, 0)) := (by unfold quoteR; rw [hf]; rfl : quoteR s.data.toList = (qText s.data.toList, 0))
    go_enter Tryd.func56, Tryd.ntmps56
    go_wp2_with fail
    refine (rIsField_any s HS.out _).mono ?_
    rintro e w1 ⟨rfl, rfl⟩
    rw [hf]
    go_wp2
    go_loopw [4, 5] (fun ov i wr => ∃ k : Nat, k ≤ s.size ∧ i = .int .i64 k ∧ Hid (Own w1.heap.size ov (34 :: qBody (s.data.toList.take k)) wr) ∧ Hid (Below w1.heap.size w1 wr)) (fun _ i _ => s.size - (intOf i).toNat)
    case atStart => exact ⟨0, Nat.zero_le _, rfl, own_one w1 34 34 rfl, (Below.refl _ w1).alloc (Nat.le_refl _) _⟩
    case round =>
      rename_i ov
      obtain ⟨k, hk, rfl, hown, hbl⟩ := hrel
      have hsz := hbl.out.size
      have HLen : Hid (∀ j, j ≤ s.size → (34 :: qBody (s.data.toList.take j)).length ≤ 33554434) := by
        intro j hj
        have := qBody_le (s.data.toList.take j)
        have := List.length_take_le j s.data.toList
        simp
        omega
      by_cases hlt : k < s.size
      · have hby : ((s[k].toNat : Nat) : Int) = byt s k := byt_at s k hlt
        obtain ⟨b0, b1⟩ := byt_bd s k
        have HN : Hid (34 :: qBody (s.data.toList.take (k + 1)) = 34 :: qBody (s.data.toList.take k) ++ qByte (s.data.toList.getD k 0)) := by
          show _ = _
          rw [take_snoc s k hlt, qBody_snoc]
          rfl
        have HC : Hid (byt s k = ((s.data.toList.getD k 0).toNat : Int)) := rfl
        generalize s.data.toList.getD k 0 = u at HN HC
        by_cases hq : byt s k = 34 ∨ byt s k = 92
        · have HQ2 : Hid (qByte u = [92, u]) := by
            show qByte _ = _
            unfold qByte
            rw [if_pos]
            have := HC.out
            rcases hq with h | h
            · exact .inl (UInt8.toNat_inj.1 (by show _ = 34; omega))
            · exact .inr (UInt8.toNat_inj.1 (by show _ = 92; omega))
          have hq' : (byt s k == 34) = true ∨ (byt s k == 34) = false ∧ (byt s k == 92) = true := by
            by_cases h : byt s k = 34
            · left; simp [h]
            · right; exact ⟨by simp [h], by simp; omega⟩
          clear hq
          rcases hq' with hq | ⟨hq, hq2⟩
          all_goals
            go_wp2_with (at_builtin; go_must (refine wp_app rfl (.tmp 26) (.tmp 27) rfl w1.heap.size _ (34 :: qBody (s.data.toList.take k)) _ _ 92 rfl rfl hown.out rfl ?h1 ?h2 ?_))
            case h1 => have := HLen.out k hk; omega
            case h2 => omega
            intro v3 w3 hown3 hbl3 _
            have HO3 : Hid (Own w1.heap.size v3 (34 :: qBody (s.data.toList.take k) ++ [92]) w3) := hown3
            have HB3 : Hid (Below w1.heap.size w1 w3) := hbl.out.trans hbl3
            have hsz3 := HB3.out.size
            clear hown3 hbl3
            go_wp2_with (at_builtin; go_must (refine wp_app rfl (.tmp 29) (.tmp 33) rfl w1.heap.size _ (34 :: qBody (s.data.toList.take k) ++ [92]) _ _ u HC.out rfl HO3.out rfl ?h1 ?h2 ?_))
            case h1 => have := HLen.out k hk; rw [List.length_append]; simp at this ⊢; omega
            case h2 => omega
            intro v4 w4 hown4 hbl4 _
            have HO4 : Hid (Own w1.heap.size v4 (34 :: qBody (s.data.toList.take (k + 1))) w4) := (by rw [HN.out, HQ2.out]; simpa using hown4 : Own w1.heap.size v4 (34 :: qBody (s.data.toList.take (k + 1))) w4)
            have HB4 : Hid (Below w1.heap.size w1 w4) := HB3.out.trans hbl4
            clear hown4 hbl4
            go_wp2
            go_roundw
            case rel => exact ⟨k + 1, by omega, by go_num, HO4, HB4⟩
            case measure => simp [intOf]; omega
        · have HQ1 : Hid (qByte u = [u]) := by
            show qByte _ = _
            unfold qByte
            rw [if_neg]
            have := HC.out
            rintro (h | h)
            · rw [h] at this; exact hq (.inl this)
            · rw [h] at this; exact hq (.inr this)
          have hq1 : (byt s k == 34) = false := by simp; omega
          have hq2 : (byt s k == 92) = false := by simp; omega
          clear hq
          go_wp2_with (at_builtin; go_must (refine wp_app rfl (.tmp 29) (.tmp 33) rfl w1.heap.size _ (34 :: qBody (s.data.toList.take k)) _ _ u HC.out rfl hown.out rfl ?h1 ?h2 ?_))
          case h1 => have := HLen.out k hk; omega
          case h2 => omega
          intro v4 w4 hown4 hbl4 _
          have HO4 : Hid (Own w1.heap.size v4 (34 :: qBody (s.data.toList.take (k + 1))) w4) := (by rw [HN.out, HQ1.out]; exact hown4 : Own w1.heap.size v4 (34 :: qBody (s.data.toList.take (k + 1))) w4)
          have HB4 : Hid (Below w1.heap.size w1 w4) := hbl.out.trans hbl4
          clear hown4 hbl4
          go_wp2
          go_roundw
          case rel => exact ⟨k + 1, by omega, by go_num, HO4, HB4⟩
          case measure => simp [intOf]; omega
      · obtain rfl : k = s.size := by omega
        go_wp2_with (at_builtin; go_must (refine wp_app rfl (.tmp 35) (.tmp 36) rfl w1.heap.size _ (34 :: qBody (s.data.toList.take s.size)) _ _ 34 rfl rfl hown.out rfl ?h1 ?h2 ?_))
        case h1 => have := HLen.out _ hk; omega
        case h2 => omega
        intro v4 w4 hown4 hbl4 _
        have HO4 : Hid (Own w1.heap.size v4 (qText s.data.toList) w4) := (by rw [List.take_of_length_le (by simp)] at hown4; exact hown4 : Own w1.heap.size v4 (qText s.data.toList) w4)
        have HB4 : Hid (Below w1.heap.size w1 w4) := hbl.out.trans hbl4
        clear hown4 hbl4
        have hbk := own_back HO4.out
        go_wp2
        go_ret2
        rw [HQ.out]
        exact ⟨rfl, HB4.out⟩

end Oc
end Go.Proofs.YtkpdaialfcegfaaDoor
