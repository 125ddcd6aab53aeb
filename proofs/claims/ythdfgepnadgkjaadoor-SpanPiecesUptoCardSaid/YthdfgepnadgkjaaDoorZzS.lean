/- Several texts as one. -/
import Derived.Test.YthdfgepnadgkjaaDoorPcF
import Derived.Test.YthdfgepnadgkjaaDoorZzR
import Derived.Test.YthdfgepnadgkjaaDoorZzP
/-
  span: Pieces.
-/
set_option linter.unusedVariables false
set_option linter.unusedSimpArgs false
namespace Go.Proofs.YthdfgepnadgkjaaDoor
open Go.RowKit Go.Shelf
namespace Sn
open Oc Tg Ac

theorem OwnC.mono {T B B' : Nat} {v : Value} {t : List Pc} {w : World} (h : OwnC T B' v t w) (hB : B ≤ B') : OwnC T B v t w := by
  refine ⟨h.1, ?_⟩
  rcases h.2 with hn | ⟨k, cap, cur, rfl, hb, rest⟩
  · exact .inl hn
  · exact .inr ⟨k, cap, cur, rfl, by omega, rest⟩
/-- What Pieces answers: the pieces, the place, the error. -/
def pcsR (bd l : List UInt8) : List Pc × Int × Int :=
  if bndR bd = true then
    if (goA (opB bd) (clB bd) l (l.length + 1) 0 []).2.1 ≠ 0 then ([], ((goA (opB bd) (clB bd) l (l.length + 1) 0 []).2.2 : Int), (goA (opB bd) (clB bd) l (l.length + 1) 0 []).2.1)
    else ((goA (opB bd) (clB bd) l (l.length + 1) 0 []).1, 0, 0)
  else ([], 0, 92)

set_option maxRecDepth 100000 in
set_option maxHeartbeats 1500000 in
theorem Pieces_any (bd : List UInt8) (hbd : bd.length ≤ 1048576) (s : ByteArray) (hs : s.size ≤ 1048576) (w0 : World) (hml : ML w0) (hpw : Pow w0) (w : World) (hb : Below w0.heap.size w0 w) :
    Calls Tryd.prog 4 #[.string (str bd), .string s] w fun e w' => ∃ lv, e = .returned (.tuple #[lv, .int .i64 (pcsR bd s.data.toList).2.1, .int .i64 (pcsR bd s.data.toList).2.2]) ∧ OwnC 54 w.heap.size lv (pcsR bd s.data.toList).1 w' ∧ Below w.heap.size w w' := by
  have hsl : s.data.toList.length = s.size := size_list s
  have HBd : Hid (∀ W, Calls Tryd.prog 8 #[.string (str bd)] W fun e w' => e = .returned (.bool (bndR bd)) ∧ Below (World.heap W).size W w') := fun W => by
    have := isBoundary_any (str bd) (by rw [str_size]; omega) W
    rw [str_list] at this
    exact this
  have HOp : Hid (∀ W, Calls _ _ _ W _) := fun W => opening_any bd (by omega) W
  have HCl : Hid (∀ W, Calls _ _ _ W _) := fun W => closing_any bd (by omega) W
  have hlo : (opB bd).length ≤ 4000000 := by unfold opB; simp; omega
  have hlc : (clB bd).length ≤ 4000000 := by unfold clB; simp; omega
  have HPs : Hid (∀ (g : Nat) W, w0.heap.size ≤ g → Below w0.heap.size w0 W → RB W g s 0 → Calls _ _ _ W _) := fun g W h1 h2 h3 => pieces_any g s hs (opB bd) (clB bd) hlo hlc w0 hml hpw h1 W h2 h3
  obtain ⟨R, HR⟩ : ∃ R, Hid (R = pcsR bd s.data.toList) := ⟨_, rfl⟩
  have HRd : Hid (R = _) := HR.out.trans (by unfold pcsR; exact rfl)
  rw [← HR.out]
  rw [hsl] at HRd
  clear HR
  have HB0 : Hid (Below w0.heap.size w0 w) := hb
  generalize goA (opB bd) (clB bd) s.data.toList (s.size + 1) 0 [] = G at *
  obtain ⟨gl, ge, ga⟩ := G
  dsimp only at HRd HPs
  generalize str (opB bd) = OP at *
  generalize str (clB bd) = CL at *
  generalize str bd = BD at *
  generalize bndR bd = b at *
  clear hb hsl hlo hlc
  go_enter Tryd.func4, Tryd.ntmps4
  go_wp2_with fail
  refine (HBd.out _).mono ?_
  rintro e w1 ⟨rfl, hb1⟩
  have HB1 : Hid (Below w.heap.size w w1) := hb1
  clear hb1
  cases b with
  | false =>
    have HQ : Hid (R = _) := (by rw [HRd.out]; simp : R = ([], 0, 92))
    go_wp2
    go_ret3
    rw [HQ.out]
    exact ⟨_, rfl, ownC_nil _ _ _, HB1.out⟩
  | true =>
    go_wp2_with fail
    refine (HOp.out _).mono ?_
    rintro e w2 ⟨rfl, hw2⟩
    rw [hw2]
    clear hw2
    go_wp2_with fail
    refine (HCl.out _).mono ?_
    rintro e w2 ⟨rfl, hw2⟩
    rw [hw2]
    clear hw2
    go_wp2_with fail
    obtain ⟨w3, hw3⟩ : ∃ w3, w3 = w1.alloc (.cells #[.string s, .int .i64 0] 34) := ⟨_, rfl⟩
    have hb3 : Below w1.heap.size w1 w3 := by rw [hw3]; exact (Below.refl _ w1).alloc (Nat.le_refl _) _
    have hr3 : RB w3 w1.heap.size s 0 := by rw [hw3]; exact heap_alloc_new w1 _
    have hB3 : Below w.heap.size w w3 := HB1.out.trans (hb3.mono HB1.out.size)
    have hw1 : w.heap.size ≤ w1.heap.size := HB1.out.size
    have hw0 : w0.heap.size ≤ w.heap.size := HB0.out.size
    rw [← hw3]
    clear hw3
    refine (HPs.out w1.heap.size w3 (by omega) (HB0.out.trans (hB3.mono hw0)) hr3).mono ?_
    rintro e w4 ⟨lv, rfl, hO4, hr4, hc4⟩
    have HR4 : Hid (RB w4 w1.heap.size s ga) := hr4
    have HB4 : Hid (Below w.heap.size w w4) := hB3.trans (hc4.below hw1 hB3.size)
    have HO4 : Hid (ge = 0 → OwnC 54 w3.heap.size lv gl w4) := hO4
    have HZ3 : Hid (w.heap.size ≤ w3.heap.size) := hB3.size
    have c0 := HR4.out.c0
    have c1 := HR4.out.c1
    clear hr4 hc4 hO4 hr3 hb3 hB3
    by_cases hge : ge = 0
    · subst hge
      have HQ : Hid (R = _) := (by rw [HRd.out]; simp : R = (gl, 0, 0))
      have HO5 : Hid (OwnC 54 w.heap.size lv gl w4) := (HO4.out rfl).mono HZ3.out
      clear HO4
      go_wp2
      go_ret3
      rw [HQ.out]
      exact ⟨_, rfl, HO5.out, HB4.out⟩
    · have HQ : Hid (R = _) := (by rw [HRd.out]; simp [hge] : R = ([], (ga : Int), ge))
      go_wp2
      go_quiet (fail)
      go_wp2
      go_ret3
      rw [HQ.out]
      exact ⟨_, rfl, ownC_nil _ _ _, bel_drewN HB4.out _⟩

end Sn
end Go.Proofs.YthdfgepnadgkjaaDoor

/-
  The document's starts, cut.
-/
set_option linter.unusedVariables false
set_option linter.unusedSimpArgs false
namespace Go.Proofs.YthdfgepnadgkjaaDoor
open Go.RowKit Go.Shelf
namespace Sn
open Oc Tg Ac

def shrt (r t : List UInt8) : Bool := decide (r.length < t.length) && Lib.hasPrefix t r

set_option maxRecDepth 100000 in
set_option maxHeartbeats 600000 in
theorem starts_any (s t : ByteArray) (hs : s.size ≤ 16777216) (ht : t.size ≤ 16777216) (a : Nat) (ha : a ≤ s.size) (w : World) :
    Calls Tryd.prog 13 #[.string s, .int .i64 a, .string t] w fun e w' => e = .returned (.bool (Lib.hasPrefix (s.data.toList.drop a) t.data.toList)) ∧ w' = w := by
  have hok : ((s.extract a (a + t.size)).toList == t.toList) = Lib.hasPrefix (s.data.toList.drop a) t.data.toList := by
    rw [occ_ext]
    rfl
  have HF : Hid (s.size < a + t.size → Lib.hasPrefix (s.data.toList.drop a) t.data.toList = false) := fun h => by
    cases hp : Lib.hasPrefix (s.data.toList.drop a) t.data.toList with
    | false => rfl
    | true =>
      have := (List.isPrefixOf_iff_prefix.1 hp).length_le
      rw [List.length_drop, size_list, size_list] at this
      by_cases hz : t.size = 0
      · omega
      · omega
  generalize Lib.hasPrefix (s.data.toList.drop a) t.data.toList = b at *
  by_cases hle : a + t.size ≤ s.size
  · have hle' : (a : Int) + (t.size : Int) ≤ (s.size : Int) := by omega
    clear HF
    go_enter Tryd.func13, Tryd.ntmps13
    go_wp2
    go_ret
    exact ⟨rfl, rfl⟩
  · have hb := HF.out (by omega)
    subst hb
    have hle' : ¬ (a : Int) + (t.size : Int) ≤ (s.size : Int) := by omega
    clear HF hok
    go_enter Tryd.func13, Tryd.ntmps13
    go_wp2
    go_ret
    exact ⟨rfl, rfl⟩

set_option maxRecDepth 100000 in
set_option maxHeartbeats 600000 in
theorem cut_any (s t : ByteArray) (hs : s.size ≤ 16777216) (ht : t.size ≤ 16777216) (a : Nat) (ha : a ≤ s.size) (w : World) :
    Calls Tryd.prog 14 #[.string s, .int .i64 a, .string t] w fun e w' => e = .returned (.bool (shrt (s.data.toList.drop a) t.data.toList)) ∧ Below w.heap.size w w' := by
  have hc : shrt (s.data.toList.drop a) t.data.toList = (decide (s.size - a < t.size) && Lib.hasPrefix t.data.toList (s.data.toList.drop a)) := by
    unfold shrt
    rw [List.length_drop, size_list, size_list]
  have hok : ((t.extract 0 (s.size - a)).toList == (s.extract a s.size).toList) = Lib.hasPrefix t.data.toList (s.data.toList.drop a) := by
    have h1 := occ_ext t (s.extract a s.size) 0
    have h2 : (s.extract a s.size).size = s.size - a := by rw [← size_list, ext_list2, List.length_take, List.length_drop, size_list]; omega
    have h3 : (s.extract a s.size).data.toList = s.data.toList.drop a := Lib.extract_to_end s a
    rw [h2, Nat.zero_add, h3] at h1
    rw [h1]
    unfold Lib.occAt Lib.hasPrefix
    rw [List.drop_zero]
  rw [hc]
  clear hc
  generalize Lib.hasPrefix t.data.toList (s.data.toList.drop a) = b at *
  have hd : ((s.size : Int) - (a : Int)) = ((s.size - a : Nat) : Int) := by omega
  have hda : s.size - a ≤ 16777216 := by omega
  by_cases hlt : s.size - a < t.size
  · have hlt' : ((s.size - a : Nat) : Int) < (t.size : Int) := by omega
    rw [decide_eq_true hlt, Bool.true_and]
    go_enter Tryd.func14, Tryd.ntmps14
    go_wp2
    go_quiet (fail)
    go_wp2
    go_ret
    exact ⟨rfl, bel_drewN (Below.refl _ _) _⟩
  · have hlt' : ¬ ((s.size - a : Nat) : Int) < (t.size : Int) := by omega
    rw [decide_eq_false hlt, Bool.false_and]
    clear hok
    go_enter Tryd.func14, Tryd.ntmps14
    go_wp2
    go_quiet (fail)
    go_wp2
    go_ret
    exact ⟨rfl, bel_drewN (Below.refl _ _) _⟩

end Sn
end Go.Proofs.YthdfgepnadgkjaaDoor

/-
  The document's line.
-/
set_option linter.unusedVariables false
set_option linter.unusedSimpArgs false
namespace Go.Proofs.YthdfgepnadgkjaaDoor
open Go.RowKit Go.Shelf
namespace Sn
open Oc Tg Ac

/-- A line of the document's: the value, the length behind which the next begins, the error. -/
def dlnR (r h : List UInt8) : List UInt8 × Nat × Int :=
  if shrt r h = true then ([], 0, 94) else if Lib.hasPrefix r h = false then ([], 0, 93) else
  if shrt ((r.drop h.length).drop ((r.drop h.length).takeWhile fieldB).length) [13, 10] = true then ([], 0, 94)
  else if Lib.hasPrefix ((r.drop h.length).drop ((r.drop h.length).takeWhile fieldB).length) [13, 10] = false then ([], 0, 93)
  else ((r.drop h.length).takeWhile fieldB, h.length + ((r.drop h.length).takeWhile fieldB).length + 2, 0)
theorem getD_drop9 (l : List UInt8) (p j : Nat) : (l.drop p).getD j 0 = l.getD (p + j) 0 := by
  simp [List.getD_eq_getElem?_getD, List.getElem?_drop]

set_option maxRecDepth 100000 in
set_option maxHeartbeats 1500000 in
theorem dline_any (s N H : ByteArray) (hN : N ++ ⟨#[58, 32]⟩ = H) (hs : s.size ≤ 1048576) (hz : H.size ≤ 1000) (hz2 : N.size + 2 = H.size) (a : Nat) (ha : a ≤ s.size) (w : World) :
    Calls Tryd.prog 15 #[.string s, .int .i64 a, .string N] w fun e w' => e = .returned (.tuple #[.string (str (dlnR (s.data.toList.drop a) H.data.toList).1), .int .i64 (if (dlnR (s.data.toList.drop a) H.data.toList).2.2 = 0 then ((a + (dlnR (s.data.toList.drop a) H.data.toList).2.1 : Nat) : Int) else 0), .int .i64 (dlnR (s.data.toList.drop a) H.data.toList).2.2]) ∧ Below w.heap.size w w' := by
  have HC : Hid (∀ W, Calls _ _ _ W _) := fun W => cut_any s H (by omega) (by omega) a ha W
  have HS : Hid (∀ W, Calls _ _ _ W _) := fun W => starts_any s H (by omega) (by omega) a ha W
  have HCe : Hid (∀ (i : Nat) W, i ≤ s.size → Calls Tryd.prog 14 #[.string s, .int .i64 i, .string ⟨#[13, 10]⟩] W fun e w' => e = .returned (.bool (shrt (s.data.toList.drop i) [13, 10])) ∧ Below (World.heap W).size W w') := fun i W hi => cut_any s ⟨#[13, 10]⟩ (by omega) (by decide) i hi W
  have HSe : Hid (∀ (i : Nat) W, i ≤ s.size → Calls Tryd.prog 13 #[.string s, .int .i64 i, .string ⟨#[13, 10]⟩] W fun e w' => e = .returned (.bool (Lib.hasPrefix (s.data.toList.drop i) [13, 10])) ∧ w' = W) := fun i W hi => starts_any s ⟨#[13, 10]⟩ (by omega) (by decide) i hi W
  obtain ⟨R, HR⟩ : ∃ R, Hid (R = dlnR (s.data.toList.drop a) H.data.toList) := ⟨_, rfl⟩
  have HRd : Hid (R = _) := HR.out.trans (by unfold dlnR; exact rfl)
  rw [← HR.out]
  clear HR
  obtain ⟨nx, Hnx⟩ : ∃ nx : Int, Hid (nx = if R.2.2 = 0 then ((a + R.2.1 : Nat) : Int) else 0) := ⟨_, rfl⟩
  rw [← Hnx.out]
  have HPl : Hid (Lib.hasPrefix (s.data.toList.drop a) H.data.toList = true → a + H.size ≤ s.size) := fun hp => by
    have := (List.isPrefixOf_iff_prefix.1 hp).length_le
    rw [List.length_drop, size_list, size_list] at this
    omega
  have hHl : H.data.toList.length = H.size := size_list H
  have hdd : (s.data.toList.drop a).drop H.size = s.data.toList.drop (a + H.size) := by rw [List.drop_drop]
  rw [hHl, hdd] at HRd
  clear hdd
  generalize shrt (s.data.toList.drop a) H.data.toList = b1 at *
  generalize Lib.hasPrefix (s.data.toList.drop a) H.data.toList = b2 at *
  obtain ⟨p, hp⟩ : ∃ p, p = a + H.size := ⟨_, rfl⟩
  rw [← hp] at HRd HPl
  have HX : Hid ((s.data.toList.drop p).length = s.size - p) := (by rw [List.length_drop, size_list] : _ = _)
  have HG : Hid (∀ j, byt s (p + j) = (((s.data.toList.drop p).getD j 0).toNat : Int)) := (fun j => by rw [getD_drop9]; rfl : ∀ j, _)
  have HEx : Hid (∀ j, s.extract p (p + j) = str ((s.data.toList.drop p).take j)) := fun j => ext_take9 s p j
  have HDD : Hid (∀ j, (s.data.toList.drop p).drop j = s.data.toList.drop (p + j)) := (fun j => by rw [List.drop_drop] : ∀ j, _)
  clear hHl
  subst hp
  have HN : Hid (N ++ ⟨#[58, 32]⟩ = H) := hN
  have k1 : (⟨#[58, 32]⟩ : ByteArray).size = 2 := rfl
  clear hN
  go_enter Tryd.func15, Tryd.ntmps15
  generalize (⟨#[58, 32]⟩ : ByteArray) = C at *
  have hs1 : ¬ (9223372036854775807 < N.size + C.size) := by omega
  go_wp2_with fail
  rw [HN.out]
  clear hs1 k1
  refine (HC.out _).mono ?_
  rintro e w1 ⟨rfl, hb1⟩
  have HB1 : Hid (Below w.heap.size w w1) := hb1
  clear hb1
  cases b1 with
  | true =>
    have HQ : Hid (R = _) := (by rw [HRd.out]; simp : R = ([], 0, 94))
    have HX0 : Hid (nx = 0) := (by rw [Hnx.out, HQ.out]; simp : nx = 0)
    go_wp2
    go_ret3
    rw [HX0.out, HQ.out]
    exact ⟨rfl, HB1.out⟩
  | false =>
    go_wp2_with fail
    refine (HS.out _).mono ?_
    rintro e w2 ⟨rfl, hw2⟩
    rw [hw2]
    clear hw2
    cases b2 with
    | false =>
      have HQ : Hid (R = _) := (by rw [HRd.out]; simp : R = ([], 0, 93))
      have HX0 : Hid (nx = 0) := (by rw [Hnx.out, HQ.out]; simp : nx = 0)
      go_wp2
      go_ret3
      rw [HX0.out, HQ.out]
      exact ⟨rfl, HB1.out⟩
    | true =>
      have hpl : a + H.size ≤ s.size := HPl.out rfl
      clear HPl HC HS
      have HRd : Hid (R = if shrt ((s.data.toList.drop (a + H.size)).drop ((s.data.toList.drop (a + H.size)).takeWhile fieldB).length) [13, 10] = true then ([], 0, 94)
        else if Lib.hasPrefix ((s.data.toList.drop (a + H.size)).drop ((s.data.toList.drop (a + H.size)).takeWhile fieldB).length) [13, 10] = false then ([], 0, 93)
        else ((s.data.toList.drop (a + H.size)).takeWhile fieldB, H.size + ((s.data.toList.drop (a + H.size)).takeWhile fieldB).length + 2, 0)) := (by have := HRd.out; simpa using this : R = _)
      have HEnd : Hid (∀ j, ((s.data.toList.drop (a + H.size)).takeWhile fieldB).length = j → R = if shrt (s.data.toList.drop (a + H.size + j)) [13, 10] = true then ([], 0, 94) else if Lib.hasPrefix (s.data.toList.drop (a + H.size + j)) [13, 10] = false then ([], 0, 93) else ((s.data.toList.drop (a + H.size)).take j, H.size + j + 2, 0)) := (fun j hj => by
        have ht : (s.data.toList.drop (a + H.size)).takeWhile fieldB = (s.data.toList.drop (a + H.size)).take j := by
          rw [← hj]
          exact (List.prefix_iff_eq_take.1 (List.takeWhile_prefix fieldB))
        rw [HRd.out, hj, HDD.out, ht] : ∀ j, _ → _)
      clear HRd HDD
      go_wp2
      go_loop [10] (fun i => ∃ j : Nat, a + H.size + j ≤ s.size ∧ i = .int .i64 ((a + H.size + j : Nat) : Int) ∧ Hid (∀ jj, jj < j → fieldB ((s.data.toList.drop (a + H.size)).getD jj 0) = true)) (fun i => s.size - (intOf i).toNat)
      case atStart => exact ⟨0, by omega, by go_num, (fun j hj => by omega : ∀ j, j < 0 → _)⟩
      case round =>
        obtain ⟨j, hj, rfl, hall⟩ := hrel
        by_cases hlt : a + H.size + j < s.size
        · have hby : ((s[a + H.size + j].toNat : Nat) : Int) = byt s (a + H.size + j) := byt_at s _ hlt
          obtain ⟨b0, b1⟩ := byt_bd s (a + H.size + j)
          have HGj := HG.out j
          cases ht : fieldI (byt s (a + H.size + j)) with
          | true =>
            have HA : Hid (∀ jj, jj < j + 1 → fieldB ((s.data.toList.drop (a + H.size)).getD jj 0) = true) := by
              intro jj hjj
              by_cases hjk : jj = j
              · subst hjk; unfold fieldB; rw [← HGj]; exact ht
              · exact hall.out jj (by omega)
            clear HGj
            go_wp2_with (go_at_call 24; refine (IsByte_any _ (by omega) (by omega) _).mono ?_; rintro e w' ⟨rfl, rfl⟩)
            go_round
            case rel => exact ⟨j + 1, by omega, by go_num, HA⟩
            case measure => simp [intOf]; omega
          | false =>
            have HL : Hid (((s.data.toList.drop (a + H.size)).takeWhile fieldB).length = j) := tw_stop fieldB 0 _ j (by rw [HX.out]; omega) hall.out (by unfold fieldB; rw [← HGj]; exact ht)
            clear HGj
            have e9 : ((a + H.size + j : Nat) : Int) = (a : Int) + (H.size : Int) + (j : Int) := by omega
            have HCj : Hid (∀ W, Calls _ _ _ W _) := fun W => HCe.out (a + H.size + j) W (by omega)
            have HSj : Hid (∀ W, Calls _ _ _ W _) := fun W => HSe.out (a + H.size + j) W (by omega)
            rw [e9] at HCj HSj
            have HQ0 : Hid (R = _) := HEnd.out j HL.out
            have hex := HEx.out j
            generalize shrt (s.data.toList.drop (a + H.size + j)) [13, 10] = c1 at *
            generalize Lib.hasPrefix (s.data.toList.drop (a + H.size + j)) [13, 10] = c2 at *
            generalize (s.data.toList.drop (a + H.size)).take j = V at *
            clear HEnd HEx HCe HSe HL hall HX HG e9
            go_wp2_with (go_at_call 24; refine (IsByte_any _ (by omega) (by omega) _).mono ?_; rintro e w' ⟨rfl, rfl⟩)
            refine (HCj.out _).mono ?_
            rintro e w2 ⟨rfl, hb2⟩
            have HB2 : Hid (Below w.heap.size w w2) := HB1.out.trans (hb2.mono HB1.out.size)
            clear hb2 HB1
            cases c1 with
            | true =>
              have HQ : Hid (R = _) := (by rw [HQ0.out]; simp : R = ([], 0, 94))
              have HX0 : Hid (nx = 0) := (by rw [Hnx.out, HQ.out]; simp : nx = 0)
              go_wp2
              go_ret3
              rw [HX0.out, HQ.out]
              exact ⟨rfl, HB2.out⟩
            | false =>
              go_wp2_with fail
              refine (HSj.out _).mono ?_
              rintro e w3 ⟨rfl, hw3⟩
              rw [hw3]
              clear hw3
              cases c2 with
              | false =>
                have HQ : Hid (R = _) := (by rw [HQ0.out]; simp : R = ([], 0, 93))
                have HX0 : Hid (nx = 0) := (by rw [Hnx.out, HQ.out]; simp : nx = 0)
                go_wp2
                go_ret3
                rw [HX0.out, HQ.out]
                exact ⟨rfl, HB2.out⟩
              | true =>
                have HQ : Hid (R = _) := (by rw [HQ0.out]; simp : R = (V, H.size + j + 2, 0))
                have HX0 : Hid (nx = (a : Int) + (H.size : Int) + (j : Int) + 2) := (by rw [Hnx.out, HQ.out]; simp; omega : nx = _)
                have HV1 : Hid (str R.1 = s.extract (a + H.size) (a + H.size + j)) := (by rw [HQ.out]; exact hex.symm : _ = _)
                have HV2 : Hid (R.2.2 = 0) := (by rw [HQ.out] : _ = _)
                go_wp2
                go_ret3
                rw [HX0.out, HV1.out, HV2.out]
                exact ⟨rfl, HB2.out⟩
        · have HL : Hid (((s.data.toList.drop (a + H.size)).takeWhile fieldB).length = j) := (by rw [tw_all fieldB 0 _ (fun jj hjj => hall.out jj (by rw [HX.out] at hjj; omega)), HX.out]; omega : _ = _)
          have HQ : Hid (R = _) := (by
            rw [HEnd.out j HL.out, show s.data.toList.drop (a + H.size + j) = [] from List.drop_of_length_le (by rw [size_list]; omega)]
            rfl : R = ([], 0, 94))
          have HX0 : Hid (nx = 0) := (by rw [Hnx.out, HQ.out]; simp : nx = 0)
          have hje : a + H.size + j = s.size := by omega
          have hje' : (a : Int) + (H.size : Int) + (j : Int) = (s.size : Int) := by omega
          go_wp2
          go_ret3
          rw [HX0.out, HQ.out]
          exact ⟨rfl, HB1.out⟩

end Sn
end Go.Proofs.YthdfgepnadgkjaaDoor
