/-
  strings.IndexAny for a semicolon and blanks, on whatever text.
-/
import Derived.Test.YthfckgdaencagaaGreatDoorMgS
import Derived.Test.YthfckgdaencagaaGreatDoorMgU
import Derived.Laws.RangeAny
import Derived.WalkMore
set_option linter.unusedVariables false
set_option linter.unusedSimpArgs false
namespace Go.Proofs.YthfckgdaencagaaGreatDoor
open Go.RowKit Go.Shelf
namespace Ac
open Oc Tg

theorem valid_iff (r : Int) : Utf8.valid r = true ↔ (0 ≤ r ∧ r < 55296) ∨ (57344 ≤ r ∧ r ≤ 1114111) := by
  simp [Utf8.valid]
theorem decode_step (s : ByteArray) (pos : Nat) (h : pos < s.size) (ha : 128 ≤ (s[pos]'h).toNat) :
    pos + (Utf8.decode s pos).2 ≤ s.size ∧ (∀ k, k < (Utf8.decode s pos).2 → 128 ≤ (s.get! (pos + k)).toNat) ∧ Utf8.valid ((Utf8.decode s pos).1 : Nat) = true := by
  have hn : ¬ (s[pos]'h).toNat < 128 := by omega
  have g0 : (s.get! (pos + 0)) = s[pos]'h := get_at s pos h
  have hb : (s[pos]'h).toNat < 256 := (s[pos]'h).toNat_lt
  simp only [Utf8.decode, g0, hn, if_false]
  generalize hB : (s[pos]'h).toNat = B at *
  have q0 : (s.get! (pos + 0)).toNat = B := by rw [g0]; exact hB
  generalize q1 : (s.get! (pos + 1)).toNat = b1 at *
  generalize q2 : (s.get! (pos + 2)).toNat = b2 at *
  generalize q3 : (s.get! (pos + 3)).toNat = b3 at *
  have one : pos + 1 ≤ s.size ∧ (∀ k, k < 1 → 128 ≤ (s.get! (pos + k)).toNat) ∧ Utf8.valid ((Utf8.runeError : Nat) : Int) = true := ⟨by omega, fun k hk => by
    obtain rfl : k = 0 := by omega
    omega, by decide⟩
  split
  · rename_i c
    simp only [Bool.and_eq_true, beq_iff_eq, decide_eq_true_eq] at c
    split
    · refine ⟨by dsimp only; omega, fun k hk => ?_, ?_⟩
      · dsimp only at hk
        rcases (show k = 0 ∨ k = 1 by omega) with rfl | rfl <;> omega
      · rw [valid_iff]; dsimp only; omega
    · exact one
  · split
    · rename_i c
      simp only [Bool.and_eq_true, beq_iff_eq, decide_eq_true_eq] at c
      split
      · rename_i d
        simp only [Bool.and_eq_true, decide_eq_true_eq] at d
        refine ⟨by dsimp only; omega, fun k hk => ?_, ?_⟩
        · dsimp only at hk
          rcases (show k = 0 ∨ k = 1 ∨ k = 2 by omega) with rfl | rfl | rfl <;> omega
        · exact d.2
      · exact one
    · split
      · rename_i c
        simp only [Bool.and_eq_true, beq_iff_eq, decide_eq_true_eq] at c
        split
        · rename_i d
          simp only [Bool.and_eq_true, decide_eq_true_eq] at d
          refine ⟨by dsimp only; omega, fun k hk => ?_, ?_⟩
          · dsimp only at hk
            rcases (show k = 0 ∨ k = 1 ∨ k = 2 ∨ k = 3 by omega) with rfl | rfl | rfl | rfl <;> omega
          · exact d.2
        · exact one
      · exact one
theorem encode_high (r : Int) (h : 128 ≤ r) (hv : Utf8.valid r = true) : ∃ n : Nat, (Utf8.encode r).size = n + 2 ∧ n ≤ 2 ∧ 128 ≤ ((Utf8.encode r).data.toList.getD (n + 1) 0).toNat := by
  have h2 := (valid_iff r).1 hv
  unfold Utf8.encode
  rw [if_pos hv]
  simp only
  generalize hc : r.toNat = c
  have c0 : ¬ c < 128 := by omega
  rw [if_neg c0]
  split
  · refine ⟨0, rfl, by omega, ?_⟩
    show 128 ≤ (UInt8.ofNat (128 + c % 64)).toNat
    rw [UInt8.toNat_ofNat']
    omega
  · split
    · refine ⟨1, rfl, by omega, ?_⟩
      show 128 ≤ (UInt8.ofNat (128 + c % 64)).toNat
      rw [UInt8.toNat_ofNat']
      omega
    · refine ⟨2, rfl, by omega, ?_⟩
      show 128 ≤ (UInt8.ofNat (128 + c % 64)).toNat
      rw [UInt8.toNat_ofNat']
      omega

theorem validRune_eq (r : Int) : Lib.validRune r = Utf8.valid r := by
  rw [Bool.eq_iff_iff, valid_iff]
  unfold Lib.validRune
  simp
  omega
theorem ib_none (l : List UInt8) (c : UInt8) (h : c ∉ l) : Lib.indexByte l c = -1 := by
  induction l with
  | nil => rfl
  | cons a r ih =>
    have h1 : a ≠ c := fun e => h (by rw [e]; simp)
    have h2 := ih (fun e => h (by simp [e]))
    unfold Lib.indexByte
    simp [h1, h2]

set_option maxRecDepth 100000 in
set_option maxHeartbeats 2000000 in
theorem IndexRune_none (r : Int) (h128 : 128 ≤ r) (hv : Utf8.valid r = true) (w : World) :
    Calls Tryz.prog 80 #[.string ⟨#[59, 32, 9]⟩, .int .i32 r] w fun e w' => e = .returned (.int .i64 (-1)) ∧ Below w.heap.size w w' := by
  have hr := (valid_iff r).1 hv
  have HV := Tryz.utf8_ValidRune r w
  rw [validRune_eq, hv] at HV
  obtain ⟨n, hn, hn2, hlast⟩ := encode_high r h128 hv
  have d0 : decide ((0 : Int) ≤ r) = true := decide_eq_true (by omega)
  have d1 : decide (r < (128 : Int)) = false := decide_eq_false (by omega)
  by_cases h65 : r = 65533
  · subst h65
    have g0 : ((⟨#[59, 32, 9]⟩ : ByteArray)[0]'(by decide)).toNat = 59 := rfl
    go_enter Tryz.func80, Tryz.ntmps80
    go_wp2
    go_loopg [5, 6] 3 (fun g _ _ wx => ∃ i : Nat, i + g = 3 ∧ wx = w.iter ⟨#[59, 32, 9]⟩ i)
    case atStart => exact ⟨0, by omega, rfl⟩
    case round =>
      obtain ⟨i, hig, rfl⟩ := hrel
      cases gk with
      | zero =>
        obtain rfl : i = 3 := by omega
        have hnx := fun ty => run_next_end (P := Tryz.prog) w ⟨#[59, 32, 9]⟩ 3 ty (by decide)
        go_wp2
        go_ret
        exact ⟨rfl, (Below.refl _ w).alloc (Nat.le_refl _) _⟩
      | succ g =>
        have hx : ∃ c : Int, c < 128 ∧ ∀ ty, (Instr.next (.pointer (some ⟨w.heap.size, 0, none⟩)) true ty).run Tryz.prog (w.iter ⟨#[59, 32, 9]⟩ i) = .ok (.tuple #[.bool true, .int .i64 i, .int .i32 c]) (w.iter ⟨#[59, 32, 9]⟩ (i + 1)) := by
          rcases (show i = 0 ∨ i = 1 ∨ i = 2 by omega) with rfl | rfl | rfl
          · exact ⟨59, by omega, fun ty => run_next_ascii (P := Tryz.prog) w ⟨#[59, 32, 9]⟩ 0 ty (by decide) (by decide)⟩
          · exact ⟨32, by omega, fun ty => run_next_ascii (P := Tryz.prog) w ⟨#[59, 32, 9]⟩ 1 ty (by decide) (by decide)⟩
          · exact ⟨9, by omega, fun ty => run_next_ascii (P := Tryz.prog) w ⟨#[59, 32, 9]⟩ 2 ty (by decide) (by decide)⟩
        obtain ⟨c, hc, hnx⟩ := hx
        have hne : (c == 65533) = false := by simp; omega
        go_wp2
        go_roundg g
        case measure => omega
        case rel => exact ⟨i + 1, by omega, rfl⟩
  · have e65 : (r == 65533) = false := by simp [h65]
    have u21 : Tryz.prog.underlying 21 = some (.int .i32) := by kernel_rfl
    have u9 : Tryz.prog.underlying 9 = some .string := by kernel_rfl
    have hcv : ∀ w, (convert 21 9 (.int .i32 r)).run Tryz.prog w = .ok (.string (Utf8.encode r)) w := fun w => by
      simp [convert, run_underlying u21, run_underlying u9, Conv.intToString]
    generalize Utf8.encode r = E at *
    have hlt : n + 1 < E.size := by omega
    have hby : ((E[n + 1]'hlt).toNat : Int) = byt E (n + 1) := byt_at E (n + 1) hlt
    have hb : 128 ≤ byt E (n + 1) ∧ byt E (n + 1) ≤ 255 := ⟨by unfold byt; omega, (byt_bd E (n + 1)).2⟩
    have hsub : (E.size : Int) - 1 = ((n + 1 : Nat) : Int) := by omega
    generalize byt E (n + 1) = c at *
    have HIB : Hid (∀ (t : ByteArray), (∀ x ∈ t.data.toList, x.toNat < 128) → ∀ w, Calls Tryz.prog 97 #[.string t, .int .u8 c] w fun e w' => e = .returned (.int .i64 (-1)) ∧ w' = w) := fun t ht w => by
      have := Tryz.strings_IndexByte t c w
      rw [ib_none _ _ (fun hm => by
        have h1 := ht _ hm
        have h2 : (c.toNat.toUInt8).toNat = c.toNat := by simp; omega
        omega)] at this
      exact this
    clear hn hlast
    go_enter Tryz.func80, Tryz.ntmps80
    go_wp2_with (go_at_call 98; refine HV.mono ?_; rintro e w2 ⟨rfl, rfl⟩)
    go_step3
    rcases (show n = 0 ∨ n = 1 ∨ n = 2 by omega) with rfl | rfl | rfl
    · have hlt1 : 1 < E.size := hlt
      have hby1 : ((E[1]'hlt1).toNat : Int) = c := hby
      have hsub1 : (E.size : Int) - 1 = 1 := by omega
      clear hlt hby hsub
      go_wp2
      go_loopw [9, 10] (fun iv fv wr => iv = .int .i64 1 ∧ wr = w2) (fun _ _ _ => 0)
      case atStart => exact ⟨rfl, rfl⟩
      case round =>
        obtain ⟨rfl, rfl⟩ := hrel
        have hx1 : ((⟨#[59, 32, 9]⟩ : ByteArray)[1]'(by decide)).toNat = 32 := rfl
        have hne : ((32 : Int) != c) = true := by simp; omega
        have hwr : IntKind.i64.wrap 2 = 2 := by decide
        go_wp2_with fail
        go_step3
        go_wp2_with fail
        go_quiet (fail)
        have HBq : Hid (Below wr.heap.size wr (wr.drewN nq)) := (⟨rfl, rfl, rfl, Nat.le_refl _, fun _ _ => rfl⟩ : Below wr.heap.size wr (wr.drewN nq))
        generalize wr.drewN nq = w5 at *
        go_wp2_with fail
        go_quiet (first | (go_at_call 97; exact Calls.quiet_of_same (HIB.out _ (by decide) _)))
        go_wp2
        simp (config := { zetaDelta := true }) only [Exit.inBlock, Exit.then, Exit.noGoto_ret]
        go_ret
        exact ⟨rfl, bel_trans HBq.out ⟨rfl, rfl, rfl, Nat.le_refl _, fun _ _ => rfl⟩⟩
    · have hlt1 : 2 < E.size := hlt
      have hby1 : ((E[2]'hlt1).toNat : Int) = c := hby
      have hsub1 : (E.size : Int) - 1 = 2 := by omega
      clear hlt hby hsub
      go_wp2
      go_loopw [9, 10] (fun iv fv wr => iv = .int .i64 2 ∧ wr = w2) (fun _ _ _ => 0)
      case atStart => exact ⟨rfl, rfl⟩
      case round =>
        obtain ⟨rfl, rfl⟩ := hrel
        have hx1 : ((⟨#[59, 32, 9]⟩ : ByteArray)[2]'(by decide)).toNat = 9 := rfl
        have hne : ((9 : Int) != c) = true := by simp; omega
        have hwr : IntKind.i64.wrap 3 = 3 := by decide
        go_wp2_with fail
        go_step3
        go_wp2_with fail
        go_quiet (fail)
        have HBq : Hid (Below wr.heap.size wr (wr.drewN nq)) := (⟨rfl, rfl, rfl, Nat.le_refl _, fun _ _ => rfl⟩ : Below wr.heap.size wr (wr.drewN nq))
        generalize wr.drewN nq = w5 at *
        go_wp2_with fail
        go_quiet (first | (go_at_call 97; exact Calls.quiet_of_same (HIB.out _ (by decide) _)))
        go_wp2
        simp (config := { zetaDelta := true }) only [Exit.inBlock, Exit.then, Exit.noGoto_ret]
        go_ret
        exact ⟨rfl, bel_trans HBq.out ⟨rfl, rfl, rfl, Nat.le_refl _, fun _ _ => rfl⟩⟩
    · have hlt1 : 3 < E.size := hlt
      have hby1 : ((E[3]'hlt1).toNat : Int) = c := hby
      have hsub1 : (E.size : Int) - 1 = 3 := by omega
      clear hlt hby hsub
      go_wp2
      go_loopw [9, 10] (fun iv fv wr => iv = .int .i64 3 ∧ wr = w2) (fun _ _ _ => 0)
      case atStart => exact ⟨rfl, rfl⟩
      case round =>
        obtain ⟨rfl, rfl⟩ := hrel
        go_wp2
        rw [Exit.noGoto_ret]
        go_ret
        exact ⟨rfl, Below.refl _ _⟩

def idxE (l : List UInt8) : Int := Lib.indexAny l [59, 32, 9]
theorem end_in (c : UInt8) : [59, 32, 9].contains c = endB c := by
  unfold endB
  cases h1 : (c == 59) <;> cases h2 : (c == 32) <;> cases h3 : (c == 9) <;> simp only [List.contains_cons, List.contains_nil, h1, h2, h3] <;> rfl
theorem idxE_all (l : List UInt8) (h : hdLen l = l.length) : idxE l = -1 := by
  refine Lib.indexAny_none (fun j b hj hb => ?_)
  rw [end_in]
  have hm : b ∈ l.take (hdLen l) := by rw [h, List.take_length]; exact List.mem_of_getElem? hb
  have := tw_take (p := fun c => !endB c) l b hm
  simpa using this
theorem idxE_at (l : List UInt8) (h : ¬ hdLen l = l.length) : idxE l = (hdLen l : Nat) := by
  have hle : hdLen l ≤ l.length := (List.takeWhile_sublist _).length_le
  have hlt : hdLen l < l.length := by omega
  refine Lib.indexAny_hit (x := l[hdLen l]) (fun j b hj hb => ?_) (List.getElem?_eq_getElem hlt) ?_
  · rw [end_in]
    have hm : b ∈ l.take (hdLen l) := List.mem_of_getElem? (i := j) (by rw [List.getElem?_take, if_pos hj]; exact hb)
    have := tw_take (p := fun c => !endB c) l b hm
    simpa using this
  · rw [end_in]
    have := tw_drop (p := fun c => !endB c) l l[hdLen l] (by
      show (l.drop (hdLen l)).head? = _
      rw [List.drop_eq_getElem_cons hlt]; rfl)
    simpa using this
theorem noAny_more {l : List UInt8} {i n : Nat} (h : Lib.NoAny l [59, 32, 9] i) (h2 : ∀ k, k < n → ∀ b, l[i + k]? = some b → 128 ≤ b.toNat) : Lib.NoAny l [59, 32, 9] (i + n) := fun j b hj hb => by
  by_cases hji : j < i
  · exact h j b hji hb
  · have := h2 (j - i) (by omega) b (by rw [show i + (j - i) = j by omega]; exact hb)
    rw [end_in]
    unfold endB
    have n1 : b ≠ 59 := by rintro rfl; revert this; decide
    have n2 : b ≠ 32 := by rintro rfl; revert this; decide
    have n3 : b ≠ 9 := by rintro rfl; revert this; decide
    simp [n1, n2, n3]

set_option maxRecDepth 100000 in
set_option maxHeartbeats 2000000 in
theorem IndexAny_short (s : ByteArray) (h8 : s.size ≤ 8) (w : World) :
    Calls Tryz.prog 60 #[.string s, .string ⟨#[59, 32, 9]⟩] w fun e w' => e = .returned (.int .i64 (idxE s.data.toList)) ∧ Below w.heap.size w w' := by
  have h8z : decide ((8 : Int) < (s.size : Int)) = false := decide_eq_false (by omega)
  go_enter Tryz.func60, Tryz.ntmps60
  go_wp2_with (go_at_call 81; refine (Tryz.strings_shouldUseASCIISet _ _).mono ?_; rintro e w' ⟨rfl, hw⟩; rw [hw, h8z])
  go_loopg [9, 10] s.size (fun g _ _ wx => ∃ i : Nat, i + g = s.size ∧ Lib.NoAny s.data.toList [59, 32, 9] i ∧ Hid (Below w.heap.size w wx) ∧ Hid (wx.heap[w.heap.size]? = some (.stringIter s i)))
  case atStart => exact ⟨0, by omega, Lib.NoAny.zero _ _, (Below.refl _ w).alloc (Nat.le_refl _) _, World.iter_heap w s 0⟩
  case round =>
    obtain ⟨i, hig, hno, hbl, hit⟩ := hrel
    have HN : Hid (Lib.NoAny s.data.toList [59, 32, 9] i) := hno
    clear hno
    cases gk with
    | zero =>
      obtain rfl : i = s.size := by omega
      have hnx := fun ty => Lib.run_next_end_at (P := Tryz.prog) wr w.heap.size s s.size ty hit.out (by omega)
      have HE : Hid (idxE s.data.toList = -1) := Lib.indexAny_none (by rw [size_list]; exact HN.out)
      go_wp2
      go_ret
      exact ⟨ret_int HE.out.symm, hbl.out⟩
    | succ g =>
      have hi : i < s.size := by omega
      have hnx := fun ty => Lib.run_next_any_at (P := Tryz.prog) wr w.heap.size s i ty hit.out hi
      have Hx : Hid (s.data.toList[i]? = some (s[i]'hi)) := Lib.data_getElem? s i hi
      have HB6 : Hid (∀ p, Below w.heap.size w (wr.iterAt w.heap.size s p)) := (fun p => Lib.below_iterAt hbl.out (Nat.le_refl _) s p : ∀ p, Below w.heap.size w (wr.iterAt w.heap.size s p))
      have HI6 : Hid (∀ p, (wr.iterAt w.heap.size s p).heap[w.heap.size]? = some (.stringIter s p)) := (fun p => Lib.iterAt_heap wr w.heap.size s i p hit.out : ∀ p, (wr.iterAt w.heap.size s p).heap[w.heap.size]? = some (.stringIter s p))
      by_cases ha : (s[i]'hi).toNat < 128
      · rw [decode_ascii s i hi ha] at hnx
        generalize s[i]'hi = x at *
        have hcon := Lib.contains_iff_indexByte [59, 32, 9] x
        have HR : Hid (∀ w, Calls Tryz.prog 80 #[.string ⟨#[59, 32, 9]⟩, .int .i32 (x.toNat : Nat)] w fun e w' => e = .returned (.int .i64 (Lib.indexByte [59, 32, 9] x)) ∧ w' = w) := fun w => by
          have := Tryz.strings_IndexRune_ascii ⟨#[59, 32, 9]⟩ (x.toNat : Nat) w (by omega) (by omega)
          have hback : ((x.toNat : Int)).toNat.toUInt8 = x := by simp
          rw [hback] at this
          exact this
        cases hin : [59, 32, 9].contains x
        · rw [hin] at hcon
          have hlt : ¬ ((0 : Int) ≤ Lib.indexByte [59, 32, 9] x) := of_decide_eq_false hcon.symm
          have HN2 : Hid (Lib.NoAny s.data.toList [59, 32, 9] (i + 1)) := HN.out.succ Hx.out hin
          clear hcon
          generalize Lib.indexByte [59, 32, 9] x = z at *
          generalize (x.toNat : Int) = xz at *
          dsimp only at hnx
          have HB7 : Hid (_) := HB6.out (i + 1)
          have HI7 : Hid (_) := HI6.out (i + 1)
          generalize wr.iterAt w.heap.size s (i + 1) = w7 at *
          go_wp2_with (go_at_call 80; refine (HR.out _).mono ?_; rintro e w8 ⟨rfl, rfl⟩)
          go_roundg g
          case measure => omega
          case rel => exact ⟨i + 1, by omega, HN2.out, HB7, HI7⟩
        · rw [hin] at hcon
          have hge : (0 : Int) ≤ Lib.indexByte [59, 32, 9] x := of_decide_eq_true hcon.symm
          have HE : Hid (idxE s.data.toList = i) := Lib.indexAny_hit HN.out Hx.out hin
          clear hcon
          generalize Lib.indexByte [59, 32, 9] x = z at *
          generalize (x.toNat : Int) = xz at *
          dsimp only at hnx
          have HB7 : Hid (_) := HB6.out (i + 1)
          generalize wr.iterAt w.heap.size s (i + 1) = w7 at *
          go_wp2_with (go_at_call 80; refine (HR.out _).mono ?_; rintro e w8 ⟨rfl, rfl⟩)
          go_ret
          exact ⟨ret_int HE.out.symm, HB7.out⟩
      · obtain ⟨d1, d2⟩ := decode_high s i hi (by omega)
        obtain ⟨d3, d4, d5⟩ := decode_step s i hi (by omega)
        have HN2 : Hid (Lib.NoAny s.data.toList [59, 32, 9] (i + (Utf8.decode s i).2)) := noAny_more HN.out (fun k hk b hb => by
          have := d4 k hk
          have hlt : i + k < s.size := by omega
          rw [Lib.data_getElem? s (i + k) hlt] at hb
          cases hb
          have e := get_at s (i + k) hlt
          rw [Nat.add_zero] at e
          rw [← e]
          exact this)
        have HR : Hid (∀ w, Calls Tryz.prog 80 #[.string ⟨#[59, 32, 9]⟩, .int .i32 ((Utf8.decode s i).1 : Nat)] w fun e w' => e = .returned (.int .i64 (-1)) ∧ Below w.heap.size w w') := fun w => IndexRune_none _ (by omega) d5 w
        clear d4 d5 HN
        have HB7 : Hid (_) := HB6.out (i + (Utf8.decode s i).2)
        have HI7 : Hid (_) := HI6.out (i + (Utf8.decode s i).2)
        generalize (Utf8.decode s i).2 = n at *
        generalize wr.iterAt w.heap.size s (i + n) = w7 at *
        generalize (((Utf8.decode s i).1 : Nat) : Int) = xz at *
        go_wp2_with fail
        refine (HR.out _).mono ?_
        rintro e w8 ⟨rfl, hb8⟩
        have HB8 : Hid (Below w.heap.size w w8) := HB7.out.trans (hb8.mono HB7.out.size)
        have HI8 : Hid (w8.heap[w.heap.size]? = some (.stringIter s (i + n))) := by
          show _ = _
          have hlt : w.heap.size < w7.heap.size := (Array.getElem?_eq_some_iff.1 HI7.out).1
          rw [hb8.block _ hlt]
          exact HI7.out
        clear hb8
        go_wp2
        go_roundg (s.size - (i + n))
        case measure => omega
        case rel => exact ⟨i + n, by omega, HN2.out, HB8, HI8⟩

set_option maxRecDepth 100000 in
theorem z256 : (Tryz.prog.info? 115).map (fun i => (i.zero, i.size)) = some (some (.agg (Array.replicate 256 (.bool false))), 256) := by kernel_rfl

set_option maxRecDepth 100000 in
theorem IndexAny_any (s : ByteArray) (hs : s.size ≤ 4000000000) (w : World) :
    Calls Tryz.prog 60 #[.string s, .string ⟨#[59, 32, 9]⟩] w fun e w' => e = .returned (.int .i64 (idxE s.data.toList)) ∧ Below w.heap.size w w' := by
  by_cases h8 : s.size ≤ 8
  · exact IndexAny_short s h8 w
  · refine (Tryz.strings_IndexAny_long (zero_of_info z256).1 s ⟨#[59, 32, 9]⟩ w (by show 2 ≤ 3; omega) (by omega) (by omega) (by show 3 < 4294967281; omega) ?_).mono ?_
    · intro j b hb
      have hm : b ∈ [59, 32, 9] := List.mem_of_getElem? hb
      rcases List.mem_cons.1 hm with rfl | hm
      · decide
      rcases List.mem_cons.1 hm with rfl | hm
      · decide
      rcases List.mem_cons.1 hm with rfl | hm
      · decide
      cases hm
    · rintro e w' ⟨rfl, rfl⟩
      exact ⟨rfl, ((Below.refl _ w).alloc (Nat.le_refl _) _).alloc (by simp) _⟩

end Ac
end Go.Proofs.YthfckgdaencagaaGreatDoor
