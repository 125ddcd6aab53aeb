/- Several texts as one. -/
import Derived.Test.YtejagkpjdfambaaDoorMgN
import Derived.Test.YtejagkpjdfambaaDoorMgO
import Derived.Test.YtejagkpjdfambaaDoorMgM
import Derived.Laws.RangeAny
import Derived.WalkMore
/-
  Parameters: how long they are; names turned to small letters in their place.
-/
set_option linter.unusedVariables false
set_option linter.unusedSimpArgs false
namespace Go.Proofs.YtejagkpjdfambaaDoor
open Go.RowKit Go.Shelf
namespace Ac
open Oc Tg

theorem pstep_each (r : List UInt8) (x : Nat × List Prm) (h : pstep r = some (some x)) : ∀ p ∈ x.2, p.1.length ≤ r.length ∧ p.2.1.length ≤ r.length := by
  unfold pstep at h
  split at h
  · obtain ⟨y, hy, e⟩ := Option.map_eq_some_iff.1 h
    have hl := rp_le _ y hy
    rw [List.length_drop, List.length_drop] at hl
    cases e
    intro p hp
    split at hp
    · cases hp
    · simp at hp
      subst hp
      omega
  · cases h
theorem pgo_each : ∀ (f : Nat) (r : List UInt8) (y : List Prm × Nat), pgo f r = some y → y.2 ≤ r.length ∧ EachP r.length y.1
  | 0, r, y, h => by cases h
  | f + 1, r, y, h => by
    rw [pgo] at h
    cases hp : pstep r with
    | none => rw [hp] at h; cases h
    | some o =>
      rw [hp] at h
      cases o with
      | none => cases h; exact ⟨Nat.zero_le _, fun p hp => by cases hp⟩
      | some x =>
        have hx := pstep_le r x hp
        have he := pstep_each r x hp
        obtain ⟨z, hz, e⟩ := Option.map_eq_some_iff.1 h
        have ih := pgo_each f _ z hz
        rw [List.length_drop] at ih
        cases e
        refine ⟨by show x.1 + z.2 ≤ _; omega, fun p hp => ?_⟩
        rcases List.mem_append.1 hp with h | h
        · exact he p h
        · have := ih.2 p h
          omega
theorem params_bd (l : List UInt8) : 0 ≤ (paramsR l).2.1 ∧ (paramsR l).2.1 ≤ l.length ∧ EachP l.length (paramsR l).1 ∧ (paramsR l).1.length ≤ l.length := by
  refine ⟨?_, ?_, ?_, paramsR_short l⟩
  all_goals
    unfold paramsR
    cases h : prm l with
    | none => first | (exact Int.le_refl _) | (simp; done) | (intro p hp; cases hp)
    | some y =>
      have := pgo_each _ _ _ h
      first | (simp; done) | (simp; omega) | exact this.2
theorem lower_len (l : List UInt8) : (lower l).length = l.length := by unfold lower; simp
theorem EachP.low {M : Nat} {l : List Prm} (h : EachP M l) : EachP M (l.map lowP) := by
  intro p hp
  obtain ⟨q, hq, rfl⟩ := List.mem_map.1 hp
  have := h q hq
  unfold lowP
  rw [lower_len]
  exact this
theorem EachP.mono {M N : Nat} {l : List Prm} (h : EachP M l) (hN : M ≤ N) : EachP N l := fun p hp => by have := h p hp; omega

/-- The first k names turned. -/
def lowK (k : Nat) (ps : List Prm) : List Prm := (ps.take k).map lowP ++ ps.drop k
theorem lowK_zero (ps : List Prm) : lowK 0 ps = ps := by simp [lowK]
theorem lowK_all (ps : List Prm) : lowK ps.length ps = ps.map lowP := by simp [lowK]
theorem lowK_len (k : Nat) (ps : List Prm) : (lowK k ps).length = ps.length := by simp [lowK]; omega
theorem lowK_at (k : Nat) (ps : List Prm) (hk : k < ps.length) : nth (lowK k ps) k = nth ps k := by
  unfold nth lowK
  rw [List.getD_eq_getElem?_getD, List.getD_eq_getElem?_getD, List.getElem?_append_right (by simp; omega), List.getElem?_drop]
  congr 2
  simp
  omega
theorem lowK_set (k : Nat) (ps : List Prm) (hk : k < ps.length) : (lowK k ps).set k (lower (nth ps k).1, (nth ps k).2.1, (nth ps k).2.2) = lowK (k + 1) ps := by
  have e : ps.drop k = nth ps k :: ps.drop (k + 1) := by
    rw [List.drop_eq_getElem_cons hk]
    unfold nth
    rw [List.getD_eq_getElem?_getD, List.getElem?_eq_getElem hk]
    rfl
  have e2 : ps.take (k + 1) = ps.take k ++ [nth ps k] := by
    rw [List.take_succ_eq_append_getElem hk]
    unfold nth
    rw [List.getD_eq_getElem?_getD, List.getElem?_eq_getElem hk]
    rfl
  unfold lowK
  rw [e2, List.map_append, e, List.set_append_right _ _ (by simp; omega)]
  have : k - (List.map lowP (List.take k ps)).length = 0 := by simp; omega
  rw [this]
  simp [lowP]
theorem encP_set : ∀ (t : List Prm) (k : Nat) (n : List UInt8), k < t.length → encP (t.set k (n, (nth t k).2.1, (nth t k).2.2)) = (encP t).set (k * 3) (.string (str n))
  | [], k, n, h => by simp at h
  | p :: t, 0, n, _ => rfl
  | p :: t, k + 1, n, h => by
    have ih := encP_set t k n (by simpa using h)
    have en : nth (p :: t) (k + 1) = nth t k := by unfold nth; simp
    have e : ∀ u, encP (p :: u) = [.string (str p.1), .string (str p.2.1), .bool p.2.2] ++ encP u := fun u => rfl
    rw [List.set_cons_succ, en, e, ih, e, List.set_append_right _ _ (by simp; omega)]
    congr 2
    simp
    omega
theorem OwnP.mono {T B B' : Nat} {v : Value} {t : List Prm} {w : World} (h : OwnP T B v t w) (hB : B' ≤ B) : OwnP T B' v t w := by
  refine ⟨h.1, ?_⟩
  rcases h.2 with hn | ⟨g, cap, cur, rfl, hb, rest⟩
  · exact .inl hn
  · exact .inr ⟨g, cap, cur, rfl, by omega, rest⟩
theorem OwnP.setName {T B g n cap : Nat} {t : List Prm} {w : World} (h : OwnP T B (.slice (some ⟨g, 0, none⟩) n cap) t w) (k : Nat) (hk : k < t.length) (m : List UInt8) :
    OwnP T B (.slice (some ⟨g, 0, none⟩) n cap) (t.set k (m, (nth t k).2.1, (nth t k).2.2)) (w.setCell ⟨g, k * 3, none⟩ (.string (str m))) := by
  have hn : n = t.length := by
    obtain ⟨a, c, e, _⟩ := OwnP.rd h
    injection e with _ e2 _
  subst hn
  unfold OwnP at *
  rw [encP_set t k m hk, List.length_set]
  exact (World.ownsRow.stored h (k * 3) _).1

end Ac
end Go.Proofs.YtejagkpjdfambaaDoor

/-
  strings.IndexAny for a semicolon and blanks, on whatever text.
-/
set_option linter.unusedVariables false
set_option linter.unusedSimpArgs false
namespace Go.Proofs.YtejagkpjdfambaaDoor
open Go.RowKit Go.Shelf
namespace Ac
open Oc Tg

theorem valid_iff (r : Int) : Utf8.valid r = true ↔ (0 ≤ r ∧ r < 55296) ∨ (57344 ≤ r ∧ r ≤ 1114111) := by
  simp [Utf8.valid]
theorem decode_step (s : ByteArray) (pos : Nat) (h : pos < s.size) (ha : 128 ≤ (s[pos]'h).toNat) :
    pos + (Utf8.decode s pos).2 ≤ s.size ∧ (∀ k, k < (Utf8.decode s pos).2 → 128 ≤ (s.get! (pos + k)).toNat) ∧ Utf8.valid ((Utf8.decode s pos).1 : Nat) = true := by
  have hn : ¬ (s[pos]'h).toNat < 128 := by omega
  have g0 : (s.get! (pos + 0)) = s[pos]'h := get_at s pos h
  have hb : (s[pos]'h).toNat < 256 := (s[pos]'h).toNat_lt
  simp only [Utf8.decode, g0, hn, if_false]
  generalize hB : (s[pos]'h).toNat = B at *
  have q0 : (s.get! (pos + 0)).toNat = B := by rw [g0]; exact hB
  generalize q1 : (s.get! (pos + 1)).toNat = b1 at *
  generalize q2 : (s.get! (pos + 2)).toNat = b2 at *
  generalize q3 : (s.get! (pos + 3)).toNat = b3 at *
  have one : pos + 1 ≤ s.size ∧ (∀ k, k < 1 → 128 ≤ (s.get! (pos + k)).toNat) ∧ Utf8.valid ((Utf8.runeError : Nat) : Int) = true := ⟨by omega, fun k hk => by
    obtain rfl : k = 0 := by omega
    omega, by decide⟩
  split
  · rename_i c
    simp only [Bool.and_eq_true, beq_iff_eq, decide_eq_true_eq] at c
    split
    · refine ⟨by dsimp only; omega, fun k hk => ?_, ?_⟩
      · dsimp only at hk
        rcases (show k = 0 ∨ k = 1 by omega) with rfl | rfl <;> omega
      · rw [valid_iff]; dsimp only; omega
    · exact one
  · split
    · rename_i c
      simp only [Bool.and_eq_true, beq_iff_eq, decide_eq_true_eq] at c
      split
      · rename_i d
        simp only [Bool.and_eq_true, decide_eq_true_eq] at d
        refine ⟨by dsimp only; omega, fun k hk => ?_, ?_⟩
        · dsimp only at hk
          rcases (show k = 0 ∨ k = 1 ∨ k = 2 by omega) with rfl | rfl | rfl <;> omega
        · exact d.2
      · exact one
    · split
      · rename_i c
        simp only [Bool.and_eq_true, beq_iff_eq, decide_eq_true_eq] at c
        split
        · rename_i d
          simp only [Bool.and_eq_true, decide_eq_true_eq] at d
          refine ⟨by dsimp only; omega, fun k hk => ?_, ?_⟩
          · dsimp only at hk
            rcases (show k = 0 ∨ k = 1 ∨ k = 2 ∨ k = 3 by omega) with rfl | rfl | rfl | rfl <;> omega
          · exact d.2
        · exact one
      · exact one
theorem encode_high (r : Int) (h : 128 ≤ r) (hv : Utf8.valid r = true) : ∃ n : Nat, (Utf8.encode r).size = n + 2 ∧ n ≤ 2 ∧ 128 ≤ ((Utf8.encode r).data.toList.getD (n + 1) 0).toNat := by
  have h2 := (valid_iff r).1 hv
  unfold Utf8.encode
  rw [if_pos hv]
  simp only
  generalize hc : r.toNat = c
  have c0 : ¬ c < 128 := by omega
  rw [if_neg c0]
  split
  · refine ⟨0, rfl, by omega, ?_⟩
    show 128 ≤ (UInt8.ofNat (128 + c % 64)).toNat
    rw [UInt8.toNat_ofNat']
    omega
  · split
    · refine ⟨1, rfl, by omega, ?_⟩
      show 128 ≤ (UInt8.ofNat (128 + c % 64)).toNat
      rw [UInt8.toNat_ofNat']
      omega
    · refine ⟨2, rfl, by omega, ?_⟩
      show 128 ≤ (UInt8.ofNat (128 + c % 64)).toNat
      rw [UInt8.toNat_ofNat']
      omega

theorem validRune_eq (r : Int) : Lib.validRune r = Utf8.valid r := by
  rw [Bool.eq_iff_iff, valid_iff]
  unfold Lib.validRune
  simp
  omega
theorem ib_none (l : List UInt8) (c : UInt8) (h : c ∉ l) : Lib.indexByte l c = -1 := by
  induction l with
  | nil => rfl
  | cons a r ih =>
    have h1 : a ≠ c := fun e => h (by rw [e]; simp)
    have h2 := ih (fun e => h (by simp [e]))
    unfold Lib.indexByte
    simp [h1, h2]

set_option maxRecDepth 100000 in
set_option maxHeartbeats 2000000 in
theorem IndexRune_none (r : Int) (h128 : 128 ≤ r) (hv : Utf8.valid r = true) (w : World) :
    Calls Tryd.prog 69 #[.string ⟨#[59, 32, 9]⟩, .int .i32 r] w fun e w' => e = .returned (.int .i64 (-1)) ∧ Below w.heap.size w w' := by
  have hr := (valid_iff r).1 hv
  have HV := Tryd.utf8_ValidRune r w
  rw [validRune_eq, hv] at HV
  obtain ⟨n, hn, hn2, hlast⟩ := encode_high r h128 hv
  have d0 : decide ((0 : Int) ≤ r) = true := decide_eq_true (by omega)
  have d1 : decide (r < (128 : Int)) = false := decide_eq_false (by omega)
  by_cases h65 : r = 65533
  · subst h65
    have g0 : ((⟨#[59, 32, 9]⟩ : ByteArray)[0]'(by decide)).toNat = 59 := rfl
    go_enter Tryd.func69, Tryd.ntmps69
    go_wp2
    go_loopg [5, 6] 3 (fun g _ _ wx => ∃ i : Nat, i + g = 3 ∧ wx = w.iter ⟨#[59, 32, 9]⟩ i)
    case atStart => exact ⟨0, by omega, rfl⟩
    case round =>
      obtain ⟨i, hig, rfl⟩ := hrel
      cases gk with
      | zero =>
        obtain rfl : i = 3 := by omega
        have hnx := fun ty => run_next_end (P := Tryd.prog) w ⟨#[59, 32, 9]⟩ 3 ty (by decide)
        go_wp2
        go_ret
        exact ⟨rfl, (Below.refl _ w).alloc (Nat.le_refl _) _⟩
      | succ g =>
        have hx : ∃ c : Int, c < 128 ∧ ∀ ty, (Instr.next (.pointer (some ⟨w.heap.size, 0, none⟩)) true ty).run Tryd.prog (w.iter ⟨#[59, 32, 9]⟩ i) = .ok (.tuple #[.bool true, .int .i64 i, .int .i32 c]) (w.iter ⟨#[59, 32, 9]⟩ (i + 1)) := by
          rcases (show i = 0 ∨ i = 1 ∨ i = 2 by omega) with rfl | rfl | rfl
          · exact ⟨59, by omega, fun ty => run_next_ascii (P := Tryd.prog) w ⟨#[59, 32, 9]⟩ 0 ty (by decide) (by decide)⟩
          · exact ⟨32, by omega, fun ty => run_next_ascii (P := Tryd.prog) w ⟨#[59, 32, 9]⟩ 1 ty (by decide) (by decide)⟩
          · exact ⟨9, by omega, fun ty => run_next_ascii (P := Tryd.prog) w ⟨#[59, 32, 9]⟩ 2 ty (by decide) (by decide)⟩
        obtain ⟨c, hc, hnx⟩ := hx
        have hne : (c == 65533) = false := by simp; omega
        go_wp2
        go_roundg g
        case measure => omega
        case rel => exact ⟨i + 1, by omega, rfl⟩
  · have e65 : (r == 65533) = false := by simp [h65]
    have u21 : Tryd.prog.underlying 21 = some (.int .i32) := by kernel_rfl
    have u9 : Tryd.prog.underlying 9 = some .string := by kernel_rfl
    have hcv : ∀ w, (convert 21 9 (.int .i32 r)).run Tryd.prog w = .ok (.string (Utf8.encode r)) w := fun w => by
      simp [convert, run_underlying u21, run_underlying u9, Conv.intToString]
    generalize Utf8.encode r = E at *
    have hlt : n + 1 < E.size := by omega
    have hby : ((E[n + 1]'hlt).toNat : Int) = byt E (n + 1) := byt_at E (n + 1) hlt
    have hb : 128 ≤ byt E (n + 1) ∧ byt E (n + 1) ≤ 255 := ⟨by unfold byt; omega, (byt_bd E (n + 1)).2⟩
    have hsub : (E.size : Int) - 1 = ((n + 1 : Nat) : Int) := by omega
    generalize byt E (n + 1) = c at *
    have HIB : Hid (∀ (t : ByteArray), (∀ x ∈ t.data.toList, x.toNat < 128) → ∀ w, Calls Tryd.prog 80 #[.string t, .int .u8 c] w fun e w' => e = .returned (.int .i64 (-1)) ∧ w' = w) := fun t ht w => by
      have := Tryd.strings_IndexByte t c w
      rw [ib_none _ _ (fun hm => by
        have h1 := ht _ hm
        have h2 : (c.toNat.toUInt8).toNat = c.toNat := by simp; omega
        omega)] at this
      exact this
    clear hn hlast
    go_enter Tryd.func69, Tryd.ntmps69
    go_wp2_with (go_at_call 81; refine HV.mono ?_; rintro e w2 ⟨rfl, rfl⟩)
    go_step3
    rcases (show n = 0 ∨ n = 1 ∨ n = 2 by omega) with rfl | rfl | rfl
    · have hlt1 : 1 < E.size := hlt
      have hby1 : ((E[1]'hlt1).toNat : Int) = c := hby
      have hsub1 : (E.size : Int) - 1 = 1 := by omega
      clear hlt hby hsub
      go_wp2
      go_loopw [9, 10] (fun iv fv wr => iv = .int .i64 1 ∧ wr = w2) (fun _ _ _ => 0)
      case atStart => exact ⟨rfl, rfl⟩
      case round =>
        obtain ⟨rfl, rfl⟩ := hrel
        have hx1 : ((⟨#[59, 32, 9]⟩ : ByteArray)[1]'(by decide)).toNat = 32 := rfl
        have hne : ((32 : Int) != c) = true := by simp; omega
        have hwr : IntKind.i64.wrap 2 = 2 := by decide
        go_wp2_with fail
        go_step3
        go_wp2_with fail
        go_quiet (fail)
        have HBq : Hid (Below wr.heap.size wr (wr.drewN nq)) := (⟨rfl, rfl, rfl, Nat.le_refl _, fun _ _ => rfl⟩ : Below wr.heap.size wr (wr.drewN nq))
        generalize wr.drewN nq = w5 at *
        go_wp2_with fail
        go_quiet (first | (go_at_call 80; exact Calls.quiet_of_same (HIB.out _ (by decide) _)))
        go_wp2
        simp (config := { zetaDelta := true }) only [Exit.inBlock, Exit.then, Exit.noGoto_ret]
        go_ret
        exact ⟨rfl, bel_trans HBq.out ⟨rfl, rfl, rfl, Nat.le_refl _, fun _ _ => rfl⟩⟩
    · have hlt1 : 2 < E.size := hlt
      have hby1 : ((E[2]'hlt1).toNat : Int) = c := hby
      have hsub1 : (E.size : Int) - 1 = 2 := by omega
      clear hlt hby hsub
      go_wp2
      go_loopw [9, 10] (fun iv fv wr => iv = .int .i64 2 ∧ wr = w2) (fun _ _ _ => 0)
      case atStart => exact ⟨rfl, rfl⟩
      case round =>
        obtain ⟨rfl, rfl⟩ := hrel
        have hx1 : ((⟨#[59, 32, 9]⟩ : ByteArray)[2]'(by decide)).toNat = 9 := rfl
        have hne : ((9 : Int) != c) = true := by simp; omega
        have hwr : IntKind.i64.wrap 3 = 3 := by decide
        go_wp2_with fail
        go_step3
        go_wp2_with fail
        go_quiet (fail)
        have HBq : Hid (Below wr.heap.size wr (wr.drewN nq)) := (⟨rfl, rfl, rfl, Nat.le_refl _, fun _ _ => rfl⟩ : Below wr.heap.size wr (wr.drewN nq))
        generalize wr.drewN nq = w5 at *
        go_wp2_with fail
        go_quiet (first | (go_at_call 80; exact Calls.quiet_of_same (HIB.out _ (by decide) _)))
        go_wp2
        simp (config := { zetaDelta := true }) only [Exit.inBlock, Exit.then, Exit.noGoto_ret]
        go_ret
        exact ⟨rfl, bel_trans HBq.out ⟨rfl, rfl, rfl, Nat.le_refl _, fun _ _ => rfl⟩⟩
    · have hlt1 : 3 < E.size := hlt
      have hby1 : ((E[3]'hlt1).toNat : Int) = c := hby
      have hsub1 : (E.size : Int) - 1 = 3 := by omega
      clear hlt hby hsub
      go_wp2
      go_loopw [9, 10] (fun iv fv wr => iv = .int .i64 3 ∧ wr = w2) (fun _ _ _ => 0)
      case atStart => exact ⟨rfl, rfl⟩
      case round =>
        obtain ⟨rfl, rfl⟩ := hrel
        go_wp2
        rw [Exit.noGoto_ret]
        go_ret
        exact ⟨rfl, Below.refl _ _⟩

def idxE (l : List UInt8) : Int := Lib.indexAny l [59, 32, 9]
theorem end_in (c : UInt8) : [59, 32, 9].contains c = endB c := by
  unfold endB
  cases h1 : (c == 59) <;> cases h2 : (c == 32) <;> cases h3 : (c == 9) <;> simp only [List.contains_cons, List.contains_nil, h1, h2, h3] <;> rfl
theorem idxE_all (l : List UInt8) (h : hdLen l = l.length) : idxE l = -1 := by
  refine Lib.indexAny_none (fun j b hj hb => ?_)
  rw [end_in]
  have hm : b ∈ l.take (hdLen l) := by rw [h, List.take_length]; exact List.mem_of_getElem? hb
  have := tw_take (p := fun c => !endB c) l b hm
  simpa using this
theorem idxE_at (l : List UInt8) (h : ¬ hdLen l = l.length) : idxE l = (hdLen l : Nat) := by
  have hle : hdLen l ≤ l.length := (List.takeWhile_sublist _).length_le
  have hlt : hdLen l < l.length := by omega
  refine Lib.indexAny_hit (x := l[hdLen l]) (fun j b hj hb => ?_) (List.getElem?_eq_getElem hlt) ?_
  · rw [end_in]
    have hm : b ∈ l.take (hdLen l) := List.mem_of_getElem? (i := j) (by rw [List.getElem?_take, if_pos hj]; exact hb)
    have := tw_take (p := fun c => !endB c) l b hm
    simpa using this
  · rw [end_in]
    have := tw_drop (p := fun c => !endB c) l l[hdLen l] (by
      show (l.drop (hdLen l)).head? = _
      rw [List.drop_eq_getElem_cons hlt]; rfl)
    simpa using this
theorem noAny_more {l : List UInt8} {i n : Nat} (h : Lib.NoAny l [59, 32, 9] i) (h2 : ∀ k, k < n → ∀ b, l[i + k]? = some b → 128 ≤ b.toNat) : Lib.NoAny l [59, 32, 9] (i + n) := fun j b hj hb => by
  by_cases hji : j < i
  · exact h j b hji hb
  · have := h2 (j - i) (by omega) b (by rw [show i + (j - i) = j by omega]; exact hb)
    rw [end_in]
    unfold endB
    have n1 : b ≠ 59 := by rintro rfl; revert this; decide
    have n2 : b ≠ 32 := by rintro rfl; revert this; decide
    have n3 : b ≠ 9 := by rintro rfl; revert this; decide
    simp [n1, n2, n3]

set_option maxRecDepth 100000 in
set_option maxHeartbeats 2000000 in
theorem IndexAny_short (s : ByteArray) (h8 : s.size ≤ 8) (w : World) :
    Calls Tryd.prog 51 #[.string s, .string ⟨#[59, 32, 9]⟩] w fun e w' => e = .returned (.int .i64 (idxE s.data.toList)) ∧ Below w.heap.size w w' := by
  have h8z : decide ((8 : Int) < (s.size : Int)) = false := decide_eq_false (by omega)
  go_enter Tryd.func51, Tryd.ntmps51
  go_wp2_with (go_at_call 70; refine (Tryd.strings_shouldUseASCIISet _ _).mono ?_; rintro e w' ⟨rfl, hw⟩; rw [hw, h8z])
  go_loopg [9, 10] s.size (fun g _ _ wx => ∃ i : Nat, i + g = s.size ∧ Lib.NoAny s.data.toList [59, 32, 9] i ∧ Hid (Below w.heap.size w wx) ∧ Hid (wx.heap[w.heap.size]? = some (.stringIter s i)))
  case atStart => exact ⟨0, by omega, Lib.NoAny.zero _ _, (Below.refl _ w).alloc (Nat.le_refl _) _, World.iter_heap w s 0⟩
  case round =>
    obtain ⟨i, hig, hno, hbl, hit⟩ := hrel
    have HN : Hid (Lib.NoAny s.data.toList [59, 32, 9] i) := hno
    clear hno
    cases gk with
    | zero =>
      obtain rfl : i = s.size := by omega
      have hnx := fun ty => Lib.run_next_end_at (P := Tryd.prog) wr w.heap.size s s.size ty hit.out (by omega)
      have HE : Hid (idxE s.data.toList = -1) := Lib.indexAny_none (by rw [size_list]; exact HN.out)
      go_wp2
      go_ret
      exact ⟨ret_int HE.out.symm, hbl.out⟩
    | succ g =>
      have hi : i < s.size := by omega
      have hnx := fun ty => Lib.run_next_any_at (P := Tryd.prog) wr w.heap.size s i ty hit.out hi
      have Hx : Hid (s.data.toList[i]? = some (s[i]'hi)) := Lib.data_getElem? s i hi
      have HB6 : Hid (∀ p, Below w.heap.size w (wr.iterAt w.heap.size s p)) := (fun p => Lib.below_iterAt hbl.out (Nat.le_refl _) s p : ∀ p, Below w.heap.size w (wr.iterAt w.heap.size s p))
      have HI6 : Hid (∀ p, (wr.iterAt w.heap.size s p).heap[w.heap.size]? = some (.stringIter s p)) := (fun p => Lib.iterAt_heap wr w.heap.size s i p hit.out : ∀ p, (wr.iterAt w.heap.size s p).heap[w.heap.size]? = some (.stringIter s p))
      by_cases ha : (s[i]'hi).toNat < 128
      · rw [decode_ascii s i hi ha] at hnx
        generalize s[i]'hi = x at *
        have hcon := Lib.contains_iff_indexByte [59, 32, 9] x
        have HR : Hid (∀ w, Calls Tryd.prog 69 #[.string ⟨#[59, 32, 9]⟩, .int .i32 (x.toNat : Nat)] w fun e w' => e = .returned (.int .i64 (Lib.indexByte [59, 32, 9] x)) ∧ w' = w) := fun w => by
          have := Tryd.strings_IndexRune_ascii ⟨#[59, 32, 9]⟩ (x.toNat : Nat) w (by omega) (by omega)
          have hback : ((x.toNat : Int)).toNat.toUInt8 = x := by simp
          rw [hback] at this
          exact this
        cases hin : [59, 32, 9].contains x
        · rw [hin] at hcon
          have hlt : ¬ ((0 : Int) ≤ Lib.indexByte [59, 32, 9] x) := of_decide_eq_false hcon.symm
          have HN2 : Hid (Lib.NoAny s.data.toList [59, 32, 9] (i + 1)) := HN.out.succ Hx.out hin
          clear hcon
          generalize Lib.indexByte [59, 32, 9] x = z at *
          generalize (x.toNat : Int) = xz at *
          dsimp only at hnx
          have HB7 : Hid (_) := HB6.out (i + 1)
          have HI7 : Hid (_) := HI6.out (i + 1)
          generalize wr.iterAt w.heap.size s (i + 1) = w7 at *
          go_wp2_with (go_at_call 69; refine (HR.out _).mono ?_; rintro e w8 ⟨rfl, rfl⟩)
          go_roundg g
          case measure => omega
          case rel => exact ⟨i + 1, by omega, HN2.out, HB7, HI7⟩
        · rw [hin] at hcon
          have hge : (0 : Int) ≤ Lib.indexByte [59, 32, 9] x := of_decide_eq_true hcon.symm
          have HE : Hid (idxE s.data.toList = i) := Lib.indexAny_hit HN.out Hx.out hin
          clear hcon
          generalize Lib.indexByte [59, 32, 9] x = z at *
          generalize (x.toNat : Int) = xz at *
          dsimp only at hnx
          have HB7 : Hid (_) := HB6.out (i + 1)
          generalize wr.iterAt w.heap.size s (i + 1) = w7 at *
          go_wp2_with (go_at_call 69; refine (HR.out _).mono ?_; rintro e w8 ⟨rfl, rfl⟩)
          go_ret
          exact ⟨ret_int HE.out.symm, HB7.out⟩
      · obtain ⟨d1, d2⟩ := decode_high s i hi (by omega)
        obtain ⟨d3, d4, d5⟩ := decode_step s i hi (by omega)
        have HN2 : Hid (Lib.NoAny s.data.toList [59, 32, 9] (i + (Utf8.decode s i).2)) := noAny_more HN.out (fun k hk b hb => by
          have := d4 k hk
          have hlt : i + k < s.size := by omega
          rw [Lib.data_getElem? s (i + k) hlt] at hb
          cases hb
          have e := get_at s (i + k) hlt
          rw [Nat.add_zero] at e
          rw [← e]
          exact this)
        have HR : Hid (∀ w, Calls Tryd.prog 69 #[.string ⟨#[59, 32, 9]⟩, .int .i32 ((Utf8.decode s i).1 : Nat)] w fun e w' => e = .returned (.int .i64 (-1)) ∧ Below w.heap.size w w') := fun w => IndexRune_none _ (by omega) d5 w
        clear d4 d5 HN
        have HB7 : Hid (_) := HB6.out (i + (Utf8.decode s i).2)
        have HI7 : Hid (_) := HI6.out (i + (Utf8.decode s i).2)
        generalize (Utf8.decode s i).2 = n at *
        generalize wr.iterAt w.heap.size s (i + n) = w7 at *
        generalize (((Utf8.decode s i).1 : Nat) : Int) = xz at *
        go_wp2_with fail
        refine (HR.out _).mono ?_
        rintro e w8 ⟨rfl, hb8⟩
        have HB8 : Hid (Below w.heap.size w w8) := HB7.out.trans (hb8.mono HB7.out.size)
        have HI8 : Hid (w8.heap[w.heap.size]? = some (.stringIter s (i + n))) := by
          show _ = _
          have hlt : w.heap.size < w7.heap.size := (Array.getElem?_eq_some_iff.1 HI7.out).1
          rw [hb8.block _ hlt]
          exact HI7.out
        clear hb8
        go_wp2
        go_roundg (s.size - (i + n))
        case measure => omega
        case rel => exact ⟨i + n, by omega, HN2.out, HB8, HI8⟩

set_option maxRecDepth 100000 in
theorem z256 : (Tryd.prog.info? 97).map (fun i => (i.zero, i.size)) = some (some (.agg (Array.replicate 256 (.bool false))), 256) := by kernel_rfl

set_option maxRecDepth 100000 in
theorem IndexAny_any (s : ByteArray) (hs : s.size ≤ 4000000000) (w : World) :
    Calls Tryd.prog 51 #[.string s, .string ⟨#[59, 32, 9]⟩] w fun e w' => e = .returned (.int .i64 (idxE s.data.toList)) ∧ Below w.heap.size w w' := by
  by_cases h8 : s.size ≤ 8
  · exact IndexAny_short s h8 w
  · refine (Tryd.strings_IndexAny_long (zero_of_info z256).1 s ⟨#[59, 32, 9]⟩ w (by show 2 ≤ 3; omega) (by omega) (by omega) (by show 3 < 4294967281; omega) ?_).mono ?_
    · intro j b hb
      have hm : b ∈ [59, 32, 9] := List.mem_of_getElem? hb
      rcases List.mem_cons.1 hm with rfl | hm
      · decide
      rcases List.mem_cons.1 hm with rfl | hm
      · decide
      rcases List.mem_cons.1 hm with rfl | hm
      · decide
      cases hm
    · rintro e w' ⟨rfl, rfl⟩
      exact ⟨rfl, ((Below.refl _ w).alloc (Nat.le_refl _) _).alloc (by simp) _⟩

end Ac
end Go.Proofs.YtejagkpjdfambaaDoor

/-
  accept.cutParams.
-/
set_option linter.unusedVariables false
set_option linter.unusedSimpArgs false
namespace Go.Proofs.YtejagkpjdfambaaDoor
open Go.RowKit Go.Shelf
namespace Ac
open Oc Tg

def cpH (l : List UInt8) : List UInt8 := match cutP l with | some x => x.1 | none => []
def cpP (l : List UInt8) : List Prm := match cutP l with | some x => x.2 | none => []
theorem hdLen_le (l : List UInt8) : hdLen l ≤ l.length := (List.takeWhile_sublist _).length_le
theorem cutP_all (l : List UInt8) (h : hdLen l = l.length) : cutP l = some (l, []) := by
  unfold cutP
  rw [h, List.drop_length, List.take_length, if_pos (by decide)]
  rfl
theorem cutP_some (l : List UInt8) (h : full (l.drop (hdLen l))) : cutP l = some (l.take (hdLen l), psOf (l.drop (hdLen l))) := by unfold cutP; rw [if_pos h]
theorem cutP_none (l : List UInt8) (h : ¬ full (l.drop (hdLen l))) : cutP l = none := by unfold cutP; rw [if_neg h]

set_option maxRecDepth 100000 in
set_option maxHeartbeats 2000000 in
theorem cutParams_any (s : ByteArray) (hs : s.size ≤ 134217728) (w : World) (hw : Tab w) :
    Calls Tryd.prog 39 #[.string s] w fun e w' => ∃ v, e = .returned (.tuple #[.string (str (cpH s.data.toList)), v, .bool (cutP s.data.toList).isSome]) ∧ OwnP 60 w.heap.size v (cpP s.data.toList) w' ∧ Below w.heap.size w w' := by
  have HI := IndexAny_any s (by omega) w
  have hle := hdLen_le s.data.toList
  by_cases hall : hdLen s.data.toList = s.data.toList.length
  · have hc := cutP_all _ hall
    unfold cpH cpP
    rw [hc, str_self]
    rw [idxE_all _ hall] at HI
    clear hc hall hle hw
    go_enter Tryd.func39, Tryd.ntmps39
    go_wp2_with fail
    refine HI.mono ?_
    rintro e w2 ⟨rfl, hb2⟩
    go_wp2
    go_ret3
    exact ⟨_, rfl, ownP_nil _ _ _, hb2⟩
  · rw [idxE_at _ hall] at HI
    rw [size_list] at hle hall
    have HT : Hid (Tab w) := hw
    clear hw
    have hat : hdLen s.data.toList < s.size := by omega
    have HE : Hid ((s.extract (hdLen s.data.toList) s.size).data.toList = s.data.toList.drop (hdLen s.data.toList)) := Lib.extract_to_end s _
    have HF : Hid (full (s.data.toList.drop (hdLen s.data.toList)) ↔ (paramsR (s.data.toList.drop (hdLen s.data.toList))).2.2 = 0 ∧ (hdLen s.data.toList : Int) + (paramsR (s.data.toList.drop (hdLen s.data.toList))).2.1 = s.size) := by
      show _ ↔ _
      unfold full
      rw [List.length_drop, size_list]
      constructor
      · rintro ⟨a, b⟩; exact ⟨a, by omega⟩
      · rintro ⟨a, b⟩; exact ⟨a, by omega⟩
    have HY : Hid (full (s.data.toList.drop (hdLen s.data.toList)) → cpH s.data.toList = s.data.toList.take (hdLen s.data.toList) ∧ cpP s.data.toList = (paramsR (s.data.toList.drop (hdLen s.data.toList))).1.map lowP ∧ (cutP s.data.toList).isSome = true) := (fun h => by unfold cpH cpP; rw [cutP_some s.data.toList h]; exact ⟨rfl, rfl, rfl⟩ : _ → _)
    have HN : Hid (¬ full (s.data.toList.drop (hdLen s.data.toList)) → cpH s.data.toList = [] ∧ cpP s.data.toList = [] ∧ (cutP s.data.toList).isSome = false) := (fun h => by unfold cpH cpP; rw [cutP_none s.data.toList h]; exact ⟨rfl, rfl, rfl⟩ : _ → _)
    have HTk : Hid (s.extract 0 (hdLen s.data.toList) = str (s.data.toList.take (hdLen s.data.toList))) := by
      show _ = _
      apply eq_list
      rw [str_list]
      simp
    have HP : Hid (∀ w, Tab w → Calls Tryd.prog 52 #[.string (s.extract (hdLen s.data.toList) s.size)] w fun e w' => ∃ v, e = .returned (.tuple #[v, .int .i64 (paramsR (s.data.toList.drop (hdLen s.data.toList))).2.1, .int .i64 (paramsR (s.data.toList.drop (hdLen s.data.toList))).2.2]) ∧ OwnP 60 w.heap.size v (paramsR (s.data.toList.drop (hdLen s.data.toList))).1 w' ∧ Below w.heap.size w w') := fun w t => by
      have := Params_any (s.extract (hdLen s.data.toList) s.size) (by simp; omega) w t
      rw [HE.out] at this
      exact this
    obtain ⟨b0, b1, b2, b3⟩ := params_bd (s.data.toList.drop (hdLen s.data.toList))
    rw [List.length_drop, size_list] at b1 b2 b3
    have HEach : Hid (EachP (s.size - hdLen s.data.toList) (paramsR (s.data.toList.drop (hdLen s.data.toList))).1) := b2
    clear b2
    generalize full (s.data.toList.drop (hdLen s.data.toList)) = FU at *
    generalize (paramsR (s.data.toList.drop (hdLen s.data.toList))).1 = ps at *
    generalize (paramsR (s.data.toList.drop (hdLen s.data.toList))).2.1 = n at *
    generalize (paramsR (s.data.toList.drop (hdLen s.data.toList))).2.2 = er at *
    generalize hdLen s.data.toList = at0 at *
    clear HE hall hle
    generalize cpH s.data.toList = CH at *
    generalize cpP s.data.toList = CP at *
    generalize (cutP s.data.toList).isSome = CB at *
    go_enter Tryd.func39, Tryd.ntmps39
    go_wp2_with fail
    refine HI.mono ?_
    rintro e w2 ⟨rfl, hb2⟩
    have HB2 : Hid (Below w.heap.size w w2) := hb2
    have HT2 : Hid (Tab w2) := HT.out.below hb2 (Nat.le_refl _)
    clear hb2 HI HT
    have dl : decide (((at0 : Nat) : Int) < 0) = false := decide_eq_false (by omega)
    go_wp2_with fail
    refine (HP.out _ HT2.out).mono ?_
    rintro e w3 ⟨v, rfl, hown, hb3⟩
    have HB3 : Hid (Below w.heap.size w w3) := bel_trans HB2.out hb3
    have HO3 : Hid (OwnP 60 w.heap.size v ps w3) := OwnP.mono hown HB2.out.size
    clear hb3 hown HP HT2 HB2
    by_cases her : er = 0
    · subst her
      by_cases hsz : (at0 : Int) + n = s.size
      · have HC := HY.out (HF.out.2 ⟨rfl, hsz⟩)
        have HC' : Hid (CH = s.data.toList.take at0 ∧ CP = ps.map lowP ∧ CB = true) := HC
        have dz : (((at0 : Nat) : Int) + n != (s.size : Int)) = false := by simp; omega
        have HRD : Hid (RdP v ps w3) := OwnP.rd HO3.out
        obtain ⟨va, vc, rfl, _⟩ := OwnP.rd HO3.out
        clear HC HF HY HN
        go_wp2
        go_loopw [35] (fun iv wr => ∃ k : Nat, k ≤ ps.length ∧ iv = .int .i64 k ∧ Hid (OwnP 60 w.heap.size (.slice va ps.length vc) (lowK k ps) wr) ∧ Hid (Below w.heap.size w wr)) (fun iv _ => ps.length - (intOf iv).toNat)
        case atStart => exact ⟨0, Nat.zero_le _, rfl, (by show OwnP _ _ _ _ _; rw [lowK_zero]; exact HO3.out), HB3⟩
        case round =>
          obtain ⟨k, hk, rfl, hown, hbl⟩ := hrel
          by_cases hlt : k < ps.length
          · obtain ⟨a', c', e', hcs⟩ := OwnP.rd hown.out
            rw [lowK_len] at e'
            injection e' with e1 _ e2
            subst e1 e2
            rcases hcs with h | ⟨g, o, hva, hlc, hcell⟩
            · have := lowK_len k ps; rw [h] at this; simp at this; omega
            have ho : o = 0 := by
              rcases hown.out.2 with ⟨h', _⟩ | ⟨g', cap', cur, h', _⟩
              · rw [hva] at h'; simp at h'
              · rw [hva] at h'; simp at h'; exact h'.1.2
            subst ho hva
            have hge := (World.ownsRow.lt hown.out g rfl).1
            rw [lowK_len] at hlc
            obtain ⟨p0, _, _⟩ := hcell k (by rw [lowK_len]; exact hlt)
            rw [lowK_at k ps hlt] at p0
            clear hcell
            have hf0 : wr.frozen? ⟨g, k * 3, none⟩ = false := World.ownsRow.frozenAt (by have h := hown.out; unfold OwnP at h; rw [lowK_len] at h; exact h : wr.ownsRow _ _ _ _ ps.length _) (k * 3)
            have HL : Hid (∀ w, Calls Tryd.prog 41 #[.string (str (nth ps k).1)] w fun e w' => e = .returned (.string (str (lower (nth ps k).1))) ∧ Below w.heap.size w w') := fun w => by
              have hh := (HEach.out.at k hlt).1
              have := Lower_any (str (nth ps k).1) (by rw [str_size]; unfold maxLen; omega) w
              unfold lowS at this
              rw [str_list] at this
              exact this
            have HS : Hid (∀ w2, OwnP 60 w.heap.size (.slice (some ⟨g, 0, none⟩) ps.length vc) (lowK k ps) w2 → OwnP 60 w.heap.size (.slice (some ⟨g, 0, none⟩) ps.length vc) (lowK (k + 1) ps) (w2.setCell ⟨g, k * 3, none⟩ (.string (str (lower (nth ps k).1))))) := fun w2 h => by
              have := OwnP.setName h k (by rw [lowK_len]; exact hlt) (lower (nth ps k).1)
              rw [lowK_at k ps hlt, lowK_set k ps hlt] at this
              exact this
            generalize str (lower (nth ps k).1) = Y at *
            generalize str (nth ps k).1 = X at *
            simp only [Nat.zero_add] at p0
            go_wp2_with fail
            refine (HL.out _).mono ?_
            rintro e w4 ⟨rfl, hb4⟩
            have p4 : w4.cell? ⟨g, k * 3, none⟩ = some (.string X) := by rw [hb4.cell (World.block_lt_of_cell? wr _ p0)]; exact p0
            have f4 : w4.frozen? ⟨g, k * 3, none⟩ = false := World.ownsRow.frozenAt (by have h := OwnP.below hown.out hb4; unfold OwnP at h; rw [lowK_len] at h; exact h : w4.ownsRow _ _ _ _ ps.length _) (k * 3)
            have HO4 := HS.out w4 (OwnP.below hown.out hb4)
            have HO4' : Hid (_) := HO4
            have HB4 : Hid (Below w.heap.size w w4) := bel_trans hbl.out hb4
            clear hb4 HO4 p0 hf0
            go_wp2
            go_roundw
            case rel => exact ⟨k + 1, by omega, by go_num, HO4', HB4.out.setCell (by simpa using hge) _⟩
            case measure => simp [intOf]; omega
          · obtain rfl : k = ps.length := by omega
            have HO5 := hown.out
            rw [lowK_all] at HO5
            have HO6 : Hid (OwnP _ _ _ _ _) := HO5
            clear HO5
            go_wp2
            go_ret3
            obtain ⟨rfl, rfl, rfl⟩ := HC'.out
            rw [← HTk.out]
            exact ⟨_, rfl, HO6.out, hbl.out⟩
      · have HC := HN.out (fun h => hsz (HF.out.1 h).2)
        have HC' : Hid (CH = [] ∧ CP = [] ∧ CB = false) := HC
        have dz : (((at0 : Nat) : Int) + n != (s.size : Int)) = true := by simp; omega
        clear HC HF HY HN HTk
        go_wp2
        go_ret3
        obtain ⟨rfl, rfl, rfl⟩ := HC'.out
        exact ⟨_, rfl, ownP_nil _ _ _, HB3.out⟩
    · have HC := HN.out (fun h => her (HF.out.1 h).1)
      have HC' : Hid (CH = [] ∧ CP = [] ∧ CB = false) := HC
      have dz : (er != 0) = true := by simp [her]
      clear HC HF HY HN HTk
      go_wp2
      go_ret3
      obtain ⟨rfl, rfl, rfl⟩ := HC'.out
      exact ⟨_, rfl, ownP_nil _ _ _, HB3.out⟩

end Ac
end Go.Proofs.YtejagkpjdfambaaDoor
