import Derived.Test.YtdcfhnbagldilaaGreatDoorMgO
import Derived.Lib.AppendStr
set_option linter.unusedVariables false
set_option linter.unusedSimpArgs false
set_option maxRecDepth 100000
namespace Go.Proofs.YtdcfhnbagldilaaGreatDoor
open Go.RowKit Go.Shelf
namespace Ms
open Oc Tg _root_.Go.Proofs.YtdcfhnbagldilaaGreatDoor.Fd _root_.Go.Proofs.YtdcfhnbagldilaaGreatDoor.Ck
theorem cut_sum : ∀ (l : List UInt8), has 58 l = true → (cutA 58 l).length + (cutB 58 l).length + 1 = l.length := by
  intro l h
  induction l with
  | nil => simp [has] at h
  | cons x l ih =>
    by_cases hx : x = 58
    · subst hx
      simp [cutA, cutB]
    · have h2 : has 58 l = true := by simpa [has, hx, Ne.symm hx] using h
      have := ih h2
      simp [cutA, cutB, hx] at this ⊢
      omega
theorem parseL_sz (l : List UInt8) (h : (parseL l).2.2 = 0) : szF (parseL l).1 ≤ l.length + 2 := by
  unfold parseL at h ⊢
  split at h
  · cases h
  · split at h
    · rename_i hh
      split at h
      · split at h
        · split at h
          · have h1 := cut_sum l hh
            have h2 := trim_le (cutB 58 l)
            simp_all
            unfold szF
            simp only
            omega
          · cases h
        · cases h
      · cases h
    · cases h
structure HOk (s : HS) : Prop where
  st : s.lineAt = 0 → s.line.length = s.used ∧ (backB s.line = true → 14 ≤ s.line.length)
  len : sumF s.fs + s.line.length ≤ s.used
  la : s.lineAt ≤ s.used
  fs : s.fs.length ≤ 100
  used : s.used ≤ 65536
def hNext (s : HS) (t : List UInt8) : HS := { s with piece := t, used := s.used + 1 }
theorem gon_back : ∀ a, a < 13 → gonI a 13 = false := by decide
theorem HOk.new (p : List UInt8) (en : Bool) : HOk ⟨p, en, 0, 0, [], 0, false, 0, [], [], 0, 0, 0, false⟩ :=
  ⟨fun _ => ⟨rfl, fun h => by cases h⟩, Nat.le_refl _, Nat.le_refl _, Nat.zero_le _, Nat.zero_le _⟩
theorem HOk.next {s : HS} (h : HOk s) (t : List UInt8) (u : UInt8) (he : (hTake (hNext s t) u s.used).2 = 0) : HOk (hTake (hNext s t) u s.used).1 := by
  have hlen := h.len
  have hla := h.la
  have hus := h.used
  have hfs := h.fs
  unfold hTake at he ⊢
  split at he
  · cases he
  rename_i ha
  rw [if_neg ha]
  split at he
  · cases he
  rename_i hb
  rw [if_neg hb]
  have hb : backB s.line = decide (u = 10) := by simpa [hNext] using hb
  split at he
  · rename_i h10
    rw [if_pos h10]
    rw [decide_eq_true h10] at hb
    have hne : s.line ≠ [] := fun e => by rw [e] at hb; cases hb
    have hdl : s.line.dropLast.length + 1 = s.line.length := by
      rw [List.length_dropLast]
      have := List.length_pos_iff.2 hne
      omega
    have hEe : hEnd (hNext s t) = if s.lineAt = 0 then (hStatus (hNew (hNext s t)) s.line.dropLast, 0) else if s.line.dropLast = [] then hHead (hNew (hNext s t)) s.lineAt else hField (hNew (hNext s t)) s.line.dropLast s.lineAt := rfl
    rw [hEe] at he ⊢
    clear hEe
    by_cases h0 : s.lineAt = 0
    · rw [if_pos h0]
      refine ⟨fun h => ?_, ?_, ?_, hfs, ?_⟩
      · have h : s.used + 1 = 0 := h
        omega
      · show sumF s.fs + 0 ≤ s.used + 1
        omega
      · exact Nat.le_refl _
      · show s.used + 1 ≤ 65536
        omega
    · rw [if_neg h0] at he ⊢
      by_cases hd : s.line.dropLast = []
      · rw [if_pos hd] at he ⊢
        unfold hHead at he ⊢
        by_cases hz : (framingF (hNew (hNext s t)).fs ((hNew (hNext s t)).minor == 0)).2.2 ≠ 0
        · rw [if_pos hz] at he
          exact absurd he hz
        · rw [if_neg hz]
          refine ⟨fun h => ?_, ?_, ?_, hfs, ?_⟩
          · have h : s.used + 1 = 0 := h
            omega
          · show sumF s.fs + 0 ≤ s.used + 1
            omega
          · exact Nat.le_refl _
          · show s.used + 1 ≤ 65536
            omega
      · rw [if_neg hd] at he ⊢
        unfold hField at he ⊢
        by_cases h100 : (hNew (hNext s t)).fs.length = 100
        · rw [if_pos h100] at he
          cases he
        · rw [if_neg h100] at he ⊢
          by_cases hz : (parseL s.line.dropLast).2.2 ≠ 0
          · rw [if_pos hz] at he
            exact absurd he hz
          · rw [if_neg hz]
            have hsz := parseL_sz s.line.dropLast (by simpa using hz)
            have h100 : s.fs.length ≠ 100 := h100
            refine ⟨fun h => ?_, ?_, ?_, ?_, ?_⟩
            · have h : s.used + 1 = 0 := h
              omega
            · show sumF (s.fs ++ [(parseL s.line.dropLast).1]) + 0 ≤ s.used + 1
              have : sumF (s.fs ++ [(parseL s.line.dropLast).1]) = sumF s.fs + szF (parseL s.line.dropLast).1 := by
                unfold sumF
                rw [List.map_append, List.sum_append]
                simp
              omega
            · exact Nat.le_refl _
            · show (s.fs ++ [_]).length ≤ 100
              rw [List.length_append, List.length_singleton]
              omega
            · show s.used + 1 ≤ 65536
              omega
  · rename_i h10
    rw [if_neg h10]
    split at he
    · cases he
    · rename_i hg
      rw [if_neg hg]
      refine ⟨fun h0 => ?_, ?_, ?_, hfs, ?_⟩
      · have h0 : s.lineAt = 0 := h0
        obtain ⟨e1, e2⟩ := h.st h0
        refine ⟨by show (s.line ++ [u]).length = s.used + 1; rw [List.length_append, e1]; rfl, fun hbk => ?_⟩
        have hu : u = 13 := by simpa [backB] using hbk
        show 14 ≤ (s.line ++ [u]).length
        rw [List.length_append, e1]
        show 14 ≤ s.used + 1
        rcases Nat.lt_or_ge s.used 13 with hlt | hge
        · refine absurd ⟨h0, ?_⟩ hg
          rw [hu]
          exact gon_back _ hlt
        · omega
      · show sumF s.fs + (s.line ++ [u]).length ≤ s.used + 1
        rw [List.length_append, List.length_singleton]
        omega
      · show s.lineAt ≤ s.used + 1
        omega
      · show s.used + 1 ≤ 65536
        omega
theorem hTake_piece (s : HS) (u : UInt8) (a : Nat) : (hTake s u a).1.piece = s.piece ∧ (hTake s u a).1.used = s.used ∧ (hTake s u a).1.ended = s.ended := by
  unfold hTake hEnd hHead hField hStatus hNew
  repeat' split
  all_goals exact ⟨rfl, rfl, rfl⟩
def hRun (s : HS) : List UInt8 → HS × Int
  | [] => (s, 0)
  | u :: t => if s.headed = true then (s, 0) else if (hTake (hNext s t) u s.used).2 ≠ 0 then hTake (hNext s t) u s.used else hRun (hTake (hNext s t) u s.used).1 t
end Ms
end Go.Proofs.YtdcfhnbagldilaaGreatDoor
set_option linter.unusedVariables false
set_option linter.unusedSimpArgs false
set_option maxRecDepth 100000
namespace Go.Proofs.YtdcfhnbagldilaaGreatDoor
open Go.RowKit Go.Shelf
namespace Ms
open Oc Tg _root_.Go.Proofs.YtdcfhnbagldilaaGreatDoor.Fd _root_.Go.Proofs.YtdcfhnbagldilaaGreatDoor.Ck
def waits (D : Nat) (w : World) : Nat := match w.cell? ⟨D, 0, none⟩ with
  | some (.string p) => p.size
  | _ => 0
theorem HdS.waits {T : Nat} {ex : List Value} {w : World} {D : Nat} {s : HS} {bs : List Nat} (h : HdS T ex w D s bs) : waits D w = s.piece.length := by
  obtain ⟨vl, vf, H, _⟩ := h
  have c0 : w.cell? ⟨D, 0, none⟩ = some (.string (str s.piece)) := H.str.cell 0 rfl
  unfold Ms.waits
  rw [c0]
  exact str_size _
theorem HdS.readOff {T : Nat} (hT : TOk T) {ex : List Value} {w : World} {D : Nat} {s : HS} {bs : List Nat} (h : HdS T ex w D s bs) (u : UInt8) (t : List UInt8) (hp : s.piece = u :: t) (hl : s.piece.length ≤ 4000000000) (hu : s.used ≤ 4000000000) :
    Calls Tryz.prog 25 #[.pointer (some ⟨D, 0, none⟩), .int .i64 1] w fun x w' => x = .returned (.string (str [u])) ∧ HdS T ex w' D (hNext s t) bs ∧ Goes bs w bs w' := by
  obtain ⟨vl, vf, H, rfl⟩ := h
  have hsz : (str s.piece).size = s.piece.length := str_size _
  have h1 : (str s.piece).extract 0 1 = str [u] := by
    apply eq_list
    rw [str_list, Lib.extract_data, str_list, hp]
    rfl
  have h2 : (str s.piece).extract 1 (str s.piece).size = str t := by
    apply eq_list
    rw [str_list]
    exact (Lib.extract_to_end (str s.piece) 1).trans (by rw [str_list, hp]; rfl)
  have := readOff_raw H.str (str s.piece) s.used 1 rfl rfl (by rw [hsz, hp]; simp) (by rw [hsz]; exact hl) hu
  rw [h1, h2] at this
  refine this.mono ?_
  rintro x w' ⟨rfl, rfl⟩
  have hb := setD (setD (But.refl [D] w) 0 (.string (str t))) 2 (.int .i64 ((s.used : Int) + ((1 : Nat) : Int)))
  refine ⟨rfl, ⟨vl, vf, H.build (s' := hNext s t) hT hb ?_ H.line rfl, rfl⟩, goesH (ftHd hb _ _) (fun g h => .inl h) (fun g h => .inl h)⟩
  have := (H.str.set 0 (.string (str t))).set 2 (.int .i64 ((s.used : Int) + ((1 : Nat) : Int)))
  exact this
set_option maxHeartbeats 4000000 in
theorem readHead_any {T : Nat} (hT : TOk T) {ex : List Value} {w0 w : World} {D : Nat} {s : HS} {bs : List Nat} (HB : Base w0 w bs) (H : HdS T ex w D s bs) (hk : HOk s) (hp : s.piece.length ≤ 4000000000) :
    Calls Tryz.prog 12 #[.pointer (some ⟨D, 0, none⟩)] w fun e w' => e = .returned (.int .i64 (hRun s s.piece).2) ∧ ∃ bs', HdS T ex w' D (hRun s s.piece).1 bs' ∧ Goes bs w bs' w' := by
  have HHB : Hid (Base w0 w bs) := HB
  have HTT : Hid (TOk T) := hT
  have HST : Hid (∃ (s1 : HS) (b1 : List Nat), HdS T ex w D s1 b1 ∧ Goes bs w b1 w ∧ HOk s1 ∧ s1.piece.length ≤ 4000000000 ∧ hRun s s.piece = hRun s1 s1.piece) := ⟨s, bs, H, Goes.refl _ _, hk, hp, rfl⟩
  generalize hRun s s.piece = R at *
  clear H HB hk hp hT
  go_enter Tryz.func12, Tryz.ntmps12
  go_wp2
  go_loopw [] (fun wr => Hid (∃ (s1 : HS) (b1 : List Nat), HdS T ex wr D s1 b1 ∧ Goes bs w b1 wr ∧ HOk s1 ∧ s1.piece.length ≤ 4000000000 ∧ R = hRun s1 s1.piece)) (fun wr => waits D wr)
  case atStart => exact HST
  case round =>
    obtain ⟨s1, b1, h1, hg1, hk1, hp1, hr1⟩ := hrel.out
    have HD1 : Hid (HdS T ex wr D s1 b1) := h1
    have HG1 : Hid (Goes bs w b1 wr) := hg1
    have HK1 : Hid (HOk s1) := hk1
    have HR1 : Hid (R = hRun s1 s1.piece) := hr1
    have HWt : Hid (waits D wr = s1.piece.length) := h1.waits
    obtain ⟨vl, vf, HI, hbs⟩ := h1
    have c0 : wr.cell? ⟨D, 0, none⟩ = some (.string (str s1.piece)) := HI.str.cell 0 rfl
    have c6 : wr.cell? ⟨D, 6, none⟩ = some (.bool s1.headed) := HI.str.cell 6 rfl
    have hus := hk1.used
    clear hrel hg1 hk1 hr1 HI hbs HST
    by_cases hh : s1.headed = true
    · have HQ : Hid (R = (s1, 0)) := (by
        rw [HR1.out]
        cases s1.piece with
        | nil => rfl
        | cons u t => show (if _ then _ else _) = _; rw [if_pos hh] : R = _)
      rw [hh] at c6
      clear hh
      go_wp2
      go_ret
      rw [HQ.out]
      exact ⟨rfl, b1, HD1.out, HG1.out⟩
    have hh : s1.headed = false := by simpa using hh
    rw [hh] at c6
    cases hpc : s1.piece with
    | nil =>
      have HQ : Hid (R = (s1, 0)) := (by rw [HR1.out, hpc]; rfl : R = _)
      rw [hpc] at c0
      have c0' : wr.cell? ⟨D, 0, none⟩ = some (.string ⟨#[]⟩) := c0
      clear hh hpc c0
      go_wp2
      go_ret
      rw [HQ.out]
      exact ⟨rfl, b1, HD1.out, HG1.out⟩
    | cons u t =>
      have hem : (str s1.piece).toList.isEmpty = false := nonempty_of (by rw [str_size, hpc]; simp)
      have HRo : Hid (Calls _ _ _ _ _) := HD1.out.readOff HTT.out u t hpc hp1 (by omega)
      have hz1 : (str [u]).size = 1 := rfl
      have hby : ((((str [u])[0]'(by rw [hz1]; omega)).toNat : Nat) : Int) = (u.toNat : Int) := rfl
      have HR2 : Hid (R = if (hTake (hNext s1 t) u s1.used).2 ≠ 0 then hTake (hNext s1 t) u s1.used else hRun (hTake (hNext s1 t) u s1.used).1 t) := (by
        rw [HR1.out, hpc]
        show (if _ then _ else _) = _
        rw [if_neg (by rw [hh]; simp)] : R = _)
      have HPc : Hid ((hTake (hNext s1 t) u s1.used).1.piece = t) := (hTake_piece _ _ _).1
      have HNx : Hid ((hTake (hNext s1 t) u s1.used).2 = 0 → HOk (hTake (hNext s1 t) u s1.used).1) := fun h => HK1.out.next t u h
      have HLn : Hid (s1.piece.length = t.length + 1) := (by rw [hpc]; rfl : _ = _)
      have HTk : Hid (∀ W b2, Base w0 W b2 → HdS T ex W D (hNext s1 t) b2 → Calls Tryz.prog 26 #[.pointer (some ⟨D, 0, none⟩), .int .u8 (u.toNat : Int), .int .i64 (s1.used : Int)] W fun e w' => e = .returned (.int .i64 (hTake (hNext s1 t) u s1.used).2) ∧ ∃ bs', HdS T ex w' D (hTake (hNext s1 t) u s1.used).1 bs' ∧ Goes b2 W bs' w') := fun W b2 hb h =>
        takeHead_any HTT.out hb h u s1.used (by omega) (fun h0 hbk => (HK1.out.st h0).2 hbk) (by show s1.line.length ≤ _; have := HK1.out.len; omega) (by show s1.lineAt ≤ _; have := HK1.out.la; omega) HK1.out.fs (by show sumF s1.fs ≤ _; have := HK1.out.len; omega)
      clear hh hpc
      generalize hTake (hNext s1 t) u s1.used = Y at *
      obtain ⟨y, z⟩ := Y
      dsimp only at HR2 HPc HNx HTk
      generalize str s1.piece = P at *
      obtain ⟨x, hx⟩ : ∃ x, x = (u.toNat : Int) := ⟨_, rfl⟩
      rw [← hx] at hby HTk
      clear hx
      go_wp2_with fail
      refine HRo.out.mono ?_
      rintro e w1 ⟨rfl, hd1, hg1⟩
      have HD2 : Hid (HdS T ex w1 D (hNext s1 t) b1) := hd1
      have HG2 : Hid (Goes bs w b1 w1) := HG1.out.trans hg1
      clear hd1 hg1 c0 c6
      obtain ⟨vl, vf, HI, hbs⟩ := HD2.out
      have c2 : w1.cell? ⟨D, 2, none⟩ = some (.int .i64 ((s1.used : Int) + 1)) := HI.str.cell 2 rfl
      clear HI hbs
      generalize hsu : str [u] = SU at *
      clear hsu
      go_wp2_with fail
      refine (HTk.out _ _ (HHB.out.goes HG2.out) HD2.out).mono ?_
      rintro e w2 ⟨rfl, b2, hd2, hg2⟩
      have HD3 : Hid (HdS T ex w2 D y b2) := hd2
      have HG3 : Hid (Goes bs w b2 w2) := HG2.out.trans hg2
      clear hd2 hg2
      by_cases hz : z = 0
      · subst hz
        have HQ : Hid (R = hRun y y.piece) := (by rw [HR2.out, if_neg (by simp), HPc.out] : R = _)
        have HW2 : Hid (waits D w2 = y.piece.length) := HD3.out.waits
        have HP2 : Hid (y.piece.length ≤ 4000000000) := (by rw [HPc.out]; have := HLn.out; omega : _ ≤ _)
        have HRel : Hid (∃ (s1 : HS) (b1 : List Nat), HdS T ex w2 D s1 b1 ∧ Goes bs w b1 w2 ∧ HOk s1 ∧ s1.piece.length ≤ 4000000000 ∧ R = hRun s1 s1.piece) := ⟨y, b2, HD3.out, HG3.out, HNx.out rfl, HP2.out, HQ.out⟩
        go_wp2
        go_roundw
        case rel => exact HRel
        case measure =>
          have a1 := HWt.out
          have a2 := HW2.out
          have a3 := HLn.out
          rw [HPc.out] at a2
          omega
      · have hz1 : (z != 0) = true := by simp [hz]
        have HQ : Hid (R = (y, z)) := (by rw [HR2.out, if_pos hz] : R = _)
        clear hz
        go_wp2
        go_ret
        rw [HQ.out]
        exact ⟨rfl, b2, HD3.out, HG3.out⟩
end Ms
end Go.Proofs.YtdcfhnbagldilaaGreatDoor
set_option linter.unusedVariables false
set_option linter.unusedSimpArgs false
set_option maxRecDepth 100000
namespace Go.Proofs.YtdcfhnbagldilaaGreatDoor
open Go.RowKit Go.Shelf
namespace Ms
open Oc Tg _root_.Go.Proofs.YtdcfhnbagldilaaGreatDoor.Fd _root_.Go.Proofs.YtdcfhnbagldilaaGreatDoor.Ck
theorem run_appS (v : Value) (l : List UInt8) (W : World) (S : ByteArray) (ty : TypeId) (hown : Own 0 v l W) (hl : l.length + S.size ≤ 8000000000) :
    ∃ v' w', (Builtin.append_ #[53, 9] ty #[v, .string S]).run Tryz.prog W = .ok v' w' ∧ Own 0 v' (l ++ S.data.toList) w' ∧ W.grownBy w' v.ownBlock ∧ (∀ g, v'.ownBlock = some g → v.ownBlock = some g ∨ W.heap.size ≤ g) := by
  obtain ⟨i0, hi, hz0, hz1, hz2⟩ := info5
  obtain ⟨v', w', hr, h2, h3, h4⟩ := Lib.run_append_own_string (P := Tryz.prog) W 0 53 9 ty 5 i0 Tryz.underlying53 Tryz.underlying9 hi hz0 hz1 hz2 v l.length _ hown S (by unfold maxLen; omega) (by omega) (Nat.zero_le _)
  have hO : Own 0 v' (l ++ S.data.toList) w' := by
    unfold Own
    have e1 : (l ++ S.data.toList).length = l.length + S.size := by rw [List.length_append, size_list]
    have e2 : Lib.byteCells (l ++ S.data.toList) = Lib.byteCells l ++ Lib.strCells S := by
      simp [Lib.byteCells, Lib.strCells]
    rw [e1, e2]
    exact h2
  refine ⟨v', w', hr, hO, h3, ?_⟩
  rcases hown.2 with ⟨rfl, hn⟩ | ⟨g, cap, cur, rfl, hb, hg, hnc, hcm, hcs, htake⟩
  · have h5 : W.ownsRow W.heap.size 5 1 (.slice none 0 0) l.length (Lib.byteCells l) := ⟨hown.1, .inl ⟨rfl, hn⟩⟩
    obtain ⟨v2, w2, hr2, k2, _, _⟩ := Lib.run_append_own_string (P := Tryz.prog) W W.heap.size 53 9 ty 5 i0 Tryz.underlying53 Tryz.underlying9 hi hz0 hz1 hz2 _ l.length _ h5 S (by unfold maxLen; omega) (by omega) (Nat.le_refl _)
    have e := hr.symm.trans hr2
    injection e with e1 e2
    subst e1
    intro g hg
    exact .inr (World.ownsRow.lt k2 g hg).1
  · intro k hk
    by_cases hroom : l.length + S.size ≤ cap
    · have hr2 := Lib.run_append_room_string (P := Tryz.prog) W 53 9 ty 5 i0 Tryz.underlying53 Tryz.underlying9 hi hz1 g l.length cap cur hg S hroom (by omega)
      have e := hr.symm.trans hr2
      injection e with e1 e2
      subst e1
      exact .inl hk
    · have holds : ∀ j u, (Lib.byteCells l)[j]? = some u → W.cell? ((⟨g, 0, none⟩ : Addr).add j) = some u := World.ownsRow.cells hown (g := g) rfl
      have hr2 := Lib.run_append_grow_string (P := Tryz.prog) W 53 9 ty 5 i0 (.int .u8 0) Tryz.underlying53 Tryz.underlying9 hi hz0 ⟨g, 0, none⟩ l.length cap (Lib.byteCells l) (by rw [hz1]; simpa using hown.1) holds S (by omega) (by omega) (by rw [hz2]; exact growslice_fits (by omega) (by omega))
      have e := hr.symm.trans hr2
      injection e with e1 e2
      subst e1
      have e3 : some W.heap.size = some k := hk
      injection e3 with e3
      exact .inr (Nat.le_of_eq e3)
theorem step_appS {ops : Array Oper} {o : Oper} {a : Act} {K : Act → World → Prop} {Q : Exit → Act → World → Prop} {E' : Prop} (hgd : o.guard = none) (s t : Operand)
    (ho : o.op = .call { callee := .builtin .append, args := #[s, t], argTypes := #[53, 9] }) (v : Value) (l : List UInt8) (W : World) (S : ByteArray)
    (hs : a.eval s = v) (hown : Own 0 v l W) (hx : a.eval t = .string S) (hlen : l.length + S.size ≤ 8000000000)
    (h : ∀ b cp w', Hid (Own 0 (.slice b (l.length + S.size) cp) (l ++ S.data.toList) w') → Hid (But v.ownBlock.toList W w') → Hid (∀ g, Value.ownBlock (.slice b (l.length + S.size) cp) = some g → v.ownBlock = some g ∨ W.heap.size ≤ g) → K (a.put o.dst (.slice b (l.length + S.size) cp)) w') :
    if Region.wanted o (yielded ops a.tmps) = true then Oper.wp Tryz.prog o a W K Q else E' := by
  have hw : Region.wanted o (yielded ops a.tmps) = true := by simp [Region.wanted, hgd]
  rw [if_pos hw]
  obtain ⟨v', w', hr, h2, h3, h4⟩ := run_appS v l W S o.type hown hlen
  unfold Oper.wp execOp
  simp only [ho, resolve, invoke, builtin, Sem.run_bind, Sem.run_pure, Result.andThen_ok, List.map_toArray, List.map_cons, List.map_nil, hs, hx, hr]
  obtain ⟨b, cp, rfl, _, _, _⟩ := own_form h2
  have e : (l ++ S.data.toList).length = l.length + S.size := by rw [List.length_append, size_list]
  rw [e] at h2 h4 ⊢
  exact h b cp w' h2 ((But.refl _ W).grown h3 (fun k hk => by rw [hk]; simp)) h4
def lcB (s : HS) (bd : List UInt8) (vl vb vf : Value) (ex : List Value) : List Value :=
  .string (str s.piece) :: .bool s.ended :: .int .i64 (s.used : Int) :: .int .i64 s.wrong :: vl :: .int .i64 (s.lineAt : Int) :: .bool s.headed :: vb :: .pointer none :: .int .i64 s.st :: .string (str s.rs) :: vf :: .string (str bd) :: .int .i64 s.minor :: .slice none 0 0 :: .int .i64 s.kind :: .int .i64 s.len :: .bool s.per :: ex
structure IsB (T : Nat) (ex : List Value) (w : World) (D : Nat) (s : HS) (body bd : List UInt8) (vl vb vf : Value) : Prop where
  str : Blk T w D (lcB s bd vl vb vf ex)
  body : Own 0 vb body w
  fs : OwnF 47 0 vf s.fs w
def PlB (T : Nat) (ex : List Value) (w : World) (D : Nat) (s : HS) (body bd : List UInt8) (bs : List Nat) : Prop := ∃ vl vb vf, IsB T ex w D s body bd vl vb vf ∧ bs = ftH D vb vf
theorem IsB.below {T : Nat} {ex : List Value} {w w' : World} {D : Nat} {s : HS} {body bd : List UInt8} {vl vb vf : Value} (h : IsB T ex w D s body bd vl vb vf) (b : Below w.heap.size w w') : IsB T ex w' D s body bd vl vb vf :=
  ⟨h.str.below b, (But.of_below b).owns h.body (fun _ _ e => by cases e), (But.of_below b).owns h.fs (fun _ _ e => by cases e)⟩
theorem IsB.build {T : Nat} {ex : List Value} {w w' : World} {D : Nat} {s s' : HS} {body bd bd' : List UInt8} {vl vb vf : Value} (hT : TOk T) (H : IsB T ex w D s body bd vl vb vf) (hb : But [D] w w') (hc : Blk T w' D (lcB s' bd' vl vb vf ex)) (hf : s'.fs = s.fs) : IsB T ex w' D s' body bd' vl vb vf :=
  ⟨hc, H.str.keep H.body hT.1 hb, by rw [hf]; exact H.str.keep H.fs hT.2 hb⟩
theorem HdS.plain {T : Nat} {ex : List Value} {w : World} {D : Nat} {s : HS} {bs : List Nat} (h : HdS T ex w D s bs) : ∃ bs', PlB T ex w D s [] [] bs' ∧ Goes bs w bs' w := by
  obtain ⟨vl, vf, H, rfl⟩ := h
  exact ⟨_, ⟨vl, .slice none 0 0, vf, ⟨H.str, World.ownsRow_nil _ _ _ _, H.fs⟩, rfl⟩, But.refl _ _, fun x hx => .inl (by unfold ftH at *; simp [Value.ownBlock] at hx ⊢; rcases hx with e | e <;> simp [e])⟩
def took (s : HS) (body : List UInt8) (m : Nat) : Nat := min (m - body.length) s.piece.length
def bNext (s : HS) (k : Nat) : HS := { s with piece := s.piece.drop k, used := s.used + k }
set_option maxHeartbeats 4000000 in
theorem readBody_any {T : Nat} (hT : TOk T) {ex : List Value} {w : World} {D : Nat} {s : HS} {body bd : List UInt8} {bs : List Nat} (H : PlB T ex w D s body bd bs) (m : Nat) (hm : m ≤ 9223372036854775807) (hbm : body.length ≤ m) (hbl : body.length ≤ 4000000000) (hp : s.piece.length ≤ 3000000000) (hu : s.used ≤ 4000000000) :
    Calls Tryz.prog 78 #[.pointer (some ⟨D, 0, none⟩), .int .i64 (m : Int)] w fun e w' => e = .returned (.tuple #[]) ∧ ∃ bs', PlB T ex w' D (bNext s (took s body m)) (body ++ s.piece.take (took s body m)) bd bs' ∧ Goes bs w bs' w' := by
  obtain ⟨vl, vb, vf, H, hbs⟩ := H
  obtain ⟨va, c, rfl, hac, hcm, hva⟩ := own_form H.body
  have HBS : Hid (bs = ftH D (.slice va body.length c) vf) := hbs
  have HTT : Hid (TOk T) := hT
  have HI0 : Hid (IsB T ex w D s body bd vl (.slice va body.length c) vf) := H
  have c0 : w.cell? ⟨D, 0, none⟩ = some (.string (str s.piece)) := H.str.cell 0 rfl
  have c7 : w.cell? ⟨D, 7, none⟩ = some (.slice va body.length c) := H.str.cell 7 rfl
  have hps : (str s.piece).size = s.piece.length := str_size _
  generalize hk : took s body m = k at *
  have hkm0 : min (m - body.length) s.piece.length = k := hk
  have hkm : min ((m : Int) - (body.length : Int)) ((s.piece.length : Nat) : Int) = (k : Int) := by omega
  have hkp : k ≤ s.piece.length := by omega
  clear H hbs hk hva hkm0
  have hpz : (str s.piece).size ≤ 3000000000 := by omega
  unfold maxLen at hcm
  go_enter Tryz.func78, Tryz.ntmps78
  go_wp2_with fail
  go_region
  try rw [hkm]
  obtain ⟨w1, hw1⟩ : ∃ w1, w1 = w.drew := ⟨_, rfl⟩
  have hb1 : Below w.heap.size w w1 := by rw [hw1]; exact (Below.refl _ w).drew
  rw [← hw1]
  have HI1 : Hid (IsB T ex w1 D s body bd vl (.slice va body.length c) vf) := HI0.out.below hb1
  have HG1 : Hid (Goes bs w bs w1) := Goes.below hb1
  clear hw1 hb1 c0 c7 HI0 hkm
  have HI2 : Hid (IsB T ex w1.drew D s body bd vl (.slice va body.length c) vf) := HI1.out.below ((Below.refl _ _).drew)
  have hzk : ((str s.piece).extract 0 k).size = k := by simp; omega
  have HX : Hid (((str s.piece).extract 0 k).data.toList = s.piece.take k) := (by rw [Lib.extract_data, str_list]; rfl : _ = _)
  have HY : Hid ((str s.piece).extract k (str s.piece).size = str (s.piece.drop k)) := (by
    apply eq_list
    rw [str_list]
    exact (Lib.extract_to_end (str s.piece) k).trans (by rw [str_list]) : _ = _)
  have hRo := readOff_raw HI2.out.str (str s.piece) s.used k rfl rfl (by omega) (by omega) hu
  rw [HY.out] at hRo
  obtain ⟨w2, hw2⟩ : ∃ w2, w2 = (w1.drew.setCell ⟨D, 0, none⟩ (.string (str (s.piece.drop k)))).setCell ⟨D, 2, none⟩ (.int .i64 ((s.used : Int) + (k : Int))) := ⟨_, rfl⟩
  have hb2 : But [D] w1.drew w2 := by rw [hw2]; exact setD (setD (But.refl [D] _) 0 _) 2 _
  have hB2 : Blk T w2 D (lcB (bNext s k) bd vl (.slice va body.length c) vf ex) := by
    rw [hw2]
    exact (HI2.out.str.set 0 (.string (str (s.piece.drop k)))).set 2 (.int .i64 ((s.used : Int) + (k : Int)))
  rw [← hw2] at hRo
  have HRo : Hid (Calls _ _ _ _ _) := hRo
  have HI3 : Hid (IsB T ex w2 D (bNext s k) body bd vl (.slice va body.length c) vf) := HI2.out.build (s' := bNext s k) HTT.out hb2 hB2 rfl
  have HG3 : Hid (Goes bs w bs w2) := by
    have h := goesH (vl := .slice va body.length c) (vf := vf) (vl' := .slice va body.length c) (vf' := vf) (ftHd hb2 _ vf) (fun g h => .inl h) (fun g h => .inl h)
    rw [← HBS.out] at h
    exact (HG1.out.trans (Goes.below ((Below.refl _ _).drew))).trans h
  clear hw2 hb2 hB2 hRo HY
  have c7 : w1.cell? ⟨D, 7, none⟩ = some (.slice va body.length c) := HI1.out.str.cell 7 rfl
  have d7 : w1.drew.cell? ⟨D, 7, none⟩ = some (.slice va body.length c) := HI2.out.str.cell 7 rfl
  have e7 : w2.cell? ⟨D, 7, none⟩ = some (.slice va body.length c) := HI3.out.str.cell 7 rfl
  generalize (str s.piece).extract 0 k = X at *
  have hXb : body.length + X.size ≤ 8000000000 := by omega
  clear hzk
  generalize hbln : body.length = n at *
  have HN : Hid (body.length = n) := hbln
  clear hbln
  go_wp2_with fail
  go_region_law (first | (go_simp; go_at_call 25; refine HRo.out.mono ?_; rintro e w3 ⟨rfl, hw3⟩; rw [hw3]; clear hw3; dsimp only) | (refine step_appS rfl (.tmp 22) (.tmp 25) rfl (.slice va n c) body w2 X (by simp [Act.eval, Act.put]) HI3.out.body (by simp [Act.eval, Act.put]) (by have := HN.out; omega) ?_; intro b6 c6 w6 ho6 hb6 hg6; rw [HN.out]; have S6 : Hid (Blk T w6 D _) := HI3.out.str.but hb6.out (fun e => HI3.out.str.ne HI3.out.body HTT.out.1 (by simpa using e) rfl); have e7 := S6.out.cell 7 rfl; have ef := S6.out.free 7))
  all_goals
    have hf6 : OwnF 47 0 vf (bNext s k).fs w6 := hb6.out.owns HI3.out.fs (fun j hj e => ne_rows HI3.out.fs HI3.out.body (by decide) hj (by simpa using e))
    have hA := S6.out.set 7 (.slice b6 (n + X.size) c6)
    have hb7 := setD (But.refl [D] w6) 7 (.slice b6 (n + X.size) c6)
    have HIF : Hid (IsB T ex (w6.setCell ⟨D, 7, none⟩ (.slice b6 (n + X.size) c6)) D (bNext s k) (body ++ s.piece.take k) bd vl (.slice b6 (n + X.size) c6) vf) := by
      have h := ho6.out
      rw [HX.out, HN.out] at h
      exact ⟨hA, S6.out.keep h HTT.out.1 hb7, S6.out.keep hf6 HTT.out.2 hb7⟩
    have HGF : Hid (Goes bs w (ftH D (.slice b6 (n + X.size) c6) vf) (w6.setCell ⟨D, 7, none⟩ (.slice b6 (n + X.size) c6))) := by
      have h := HG3.out
      rw [HBS.out] at h ⊢
      refine h.trans (goesH ?_ ?_ (fun g h => .inl h))
      · exact (hb6.out.mono (fun x hx => by simp at hx; simp [ftH, hx])).trans (ftHd hb7 _ _)
      · have h := hg6.out
        rw [HN.out] at h
        exact h
    generalize (w6.setCell ⟨D, 7, none⟩ (.slice b6 (n + X.size) c6)) = w7 at *
    clear hA hb7 ho6 hb6 hg6 S6 e7 ef hf6
    go_wp2
    go_end0
    exact ⟨rfl, _, ⟨_, _, _, HIF.out, rfl⟩, HGF.out⟩
end Ms
end Go.Proofs.YtdcfhnbagldilaaGreatDoor
set_option linter.unusedVariables false
set_option linter.unusedSimpArgs false
set_option maxRecDepth 100000
namespace Go.Proofs.YtdcfhnbagldilaaGreatDoor
open Go.RowKit Go.Shelf
namespace Ms
open Oc Tg _root_.Go.Proofs.YtdcfhnbagldilaaGreatDoor.Fd _root_.Go.Proofs.YtdcfhnbagldilaaGreatDoor.Ck
theorem PlB.refuse {T : Nat} (hT : TOk T) {ex : List Value} {w : World} {D : Nat} {s : HS} {body bd : List UInt8} {bs : List Nat} (h : PlB T ex w D s body bd bs) (a e : Int) :
    Calls Tryz.prog 64 #[.pointer (some ⟨D, 0, none⟩), .int .i64 a, .int .i64 e] w fun x w' => x = .returned (.int .i64 e) ∧ PlB T ex w' D { s with wrong := a } body bd bs ∧ Goes bs w bs w' := by
  obtain ⟨vl, vb, vf, H, rfl⟩ := h
  refine (refuse_raw H.str ⟨_, rfl⟩ a e).mono ?_
  rintro x w' ⟨rfl, rfl⟩
  have hb := setD (But.refl [D] w) 3 (.int .i64 a)
  exact ⟨rfl, ⟨vl, vb, vf, H.build (s' := { s with wrong := a }) hT hb (H.str.set 3 _) rfl, rfl⟩, goesH (ftHd hb _ _) (fun g h => .inl h) (fun g h => .inl h)⟩
structure BR where
  done : Bool
  err : Int
  s : HS
  body : List UInt8
  bd : List UInt8
def lenR (s : HS) (body : List UInt8) (n m : Nat) : BR :=
  if m < n then ⟨false, 125, { s with wrong := (s.used : Int) }, body, []⟩
  else if body.length + took s body n < n then ⟨false, 0, bNext s (took s body n), body ++ s.piece.take (took s body n), []⟩
  else ⟨true, 0, bNext s (took s body n), body ++ s.piece.take (took s body n), body ++ s.piece.take (took s body n)⟩
set_option maxHeartbeats 4000000 in
theorem readLength_any {T : Nat} (hT : TOk T) {ex : List Value} {w : World} {D : Nat} {s : HS} {body : List UInt8} {bs : List Nat} (H : PlB T ex w D s body [] bs) (n m : Nat) (hsn : s.len = (n : Int)) (hn : n ≤ 1099511627776) (hm : m ≤ 9223372036854775807) (hbn : body.length ≤ n) (hbl : body.length ≤ 4000000000) (hp : s.piece.length ≤ 3000000000) (hu : s.used ≤ 4000000000) :
    Calls Tryz.prog 38 #[.pointer (some ⟨D, 0, none⟩), .int .i64 (m : Int)] w fun e w' => e = .returned (.tuple #[.bool (lenR s body n m).done, .int .i64 (lenR s body n m).err]) ∧ ∃ bs', PlB T ex w' D (lenR s body n m).s (lenR s body n m).body (lenR s body n m).bd bs' ∧ Goes bs w bs' w' := by
  have HDD : Hid (PlB T ex w D s body [] bs) := H
  have HTT : Hid (TOk T) := hT
  have HRb : Hid (Calls _ _ _ _ _) := readBody_any hT H n (by omega) hbn hbl hp hu
  obtain ⟨vl, vb, vf, HI, hbs⟩ := H
  have c2 : w.cell? ⟨D, 2, none⟩ = some (.int .i64 (s.used : Int)) := HI.str.cell 2 rfl
  have c16 : w.cell? ⟨D, 16, none⟩ = some (.int .i64 (n : Int)) := by rw [← hsn]; exact HI.str.cell 16 rfl
  have HE : Hid (lenR s body n m = if m < n then ⟨false, 125, { s with wrong := (s.used : Int) }, body, []⟩ else if body.length + took s body n < n then ⟨false, 0, bNext s (took s body n), body ++ s.piece.take (took s body n), []⟩ else ⟨true, 0, bNext s (took s body n), body ++ s.piece.take (took s body n), body ++ s.piece.take (took s body n)⟩) := rfl
  have hkp : took s body n ≤ s.piece.length := Nat.min_le_right _ _
  have hkl : (s.piece.take (took s body n)).length = took s body n := by rw [List.length_take]; omega
  have HL : Hid ((body ++ s.piece.take (took s body n)).length = body.length + took s body n) := (by rw [List.length_append, hkl] : _ = _)
  generalize lenR s body n m = R at *
  generalize bNext s (took s body n) = s1 at *
  generalize body ++ s.piece.take (took s body n) = B at *
  generalize took s body n = k at *
  have hBl : B.length ≤ 7000000000 := by have := HL.out; omega
  clear HI hbs hT hsn hkl hkp
  by_cases hmn : m < n
  · have hmn' : (m : Int) < (n : Int) := by omega
    have HQ : Hid (R = ⟨false, 125, { s with wrong := (s.used : Int) }, body, []⟩) := (by rw [HE.out, if_pos hmn] : _ = _)
    have HRf : Hid (Calls _ _ _ _ _) := HDD.out.refuse HTT.out (s.used : Int) 125
    clear hmn
    go_enter Tryz.func38, Tryz.ntmps38
    go_wp2_with fail
    refine HRf.out.mono ?_
    rintro e w1 ⟨rfl, hd1, hg1⟩
    have HD1 : Hid (PlB T ex w1 D { s with wrong := (s.used : Int) } body [] bs) := hd1
    have HG1 : Hid (Goes bs w bs w1) := hg1
    clear hd1 hg1
    go_wp2
    go_ret2
    rw [HQ.out]
    exact ⟨rfl, bs, HD1.out, HG1.out⟩
  · have hmn' : ¬ (m : Int) < (n : Int) := by omega
    have HE2 : Hid (R = _) := HE.out.trans (if_neg hmn)
    clear hmn HE
    go_enter Tryz.func38, Tryz.ntmps38
    go_wp2_with fail
    refine HRb.out.mono ?_
    rintro e w1 ⟨rfl, b1, hd1, hg1⟩
    have HD1 : Hid (PlB T ex w1 D s1 B [] b1) := hd1
    have HG1 : Hid (Goes bs w b1 w1) := hg1
    obtain ⟨vl1, vb1, vf1, HI, hbs⟩ := hd1
    obtain ⟨va, c, rfl, hac, hcm, hva⟩ := own_form HI.body
    have HI1 : Hid (IsB T ex w1 D s1 B [] vl1 (.slice va B.length c) vf1) := HI
    have HBS : Hid (b1 = ftH D (.slice va B.length c) vf1) := hbs
    have c7 : w1.cell? ⟨D, 7, none⟩ = some (.slice va B.length c) := HI.str.cell 7 rfl
    have c12 : w1.cell? ⟨D, 12, none⟩ = some (.string (str [])) := HI.str.cell 12 rfl
    have f12 := HI.str.free 12
    have hcv : (convert 53 9 (.slice va B.length c)).run Tryz.prog w1 = .ok (.string (str B)) w1 := own_back HI.body
    clear hg1 HI hbs HRb HDD c2 c16 hva
    generalize hbln : B.length = z at *
    have HZ : Hid (B.length = z) := hbln
    have HL2 : Hid (z = body.length + k) := HL.out
    clear hbln HL
    by_cases hlt : body.length + k < n
    · have HQ : Hid (R = ⟨false, 0, s1, B, []⟩) := HE2.out.trans (if_pos hlt)
      have hz1 : (z : Int) < (n : Int) := by have := HL2.out; omega
      clear hlt
      go_wp2
      go_ret2
      rw [HQ.out]
      exact ⟨rfl, b1, HD1.out, HG1.out⟩
    · have HQ : Hid (R = ⟨true, 0, s1, B, B⟩) := HE2.out.trans (if_neg hlt)
      have hz1 : ¬ (z : Int) < (n : Int) := by have := HL2.out; omega
      clear hlt
      go_wp2
      go_ret2
      rw [HQ.out]
      have hb := setD (But.refl [D] w1) 12 (.string (str B))
      refine ⟨rfl, _, ⟨vl1, .slice va z c, vf1, HI1.out.build (s' := s1) (bd' := B) HTT.out hb (HI1.out.str.set 12 (.string (str B))) rfl, rfl⟩, ?_⟩
      have h := HG1.out
      rw [HBS.out] at h
      exact h.trans (goesH (ftHd hb _ _) (fun g h => .inl h) (fun g h => .inl h))
def endR (s : HS) (body : List UInt8) (m : Nat) : BR :=
  if s.piece.drop (took s body m) ≠ [] then ⟨false, 125, { bNext s (took s body m) with wrong := ((s.used + took s body m : Nat) : Int) }, body ++ s.piece.take (took s body m), []⟩
  else if s.ended = false then ⟨false, 0, bNext s (took s body m), body ++ s.piece.take (took s body m), []⟩
  else ⟨true, 0, { bNext s (took s body m) with per := false }, body ++ s.piece.take (took s body m), body ++ s.piece.take (took s body m)⟩
set_option maxHeartbeats 4000000 in
theorem readToEnd_any {T : Nat} (hT : TOk T) {ex : List Value} {w : World} {D : Nat} {s : HS} {body : List UInt8} {bs : List Nat} (H : PlB T ex w D s body [] bs) (m : Nat) (hm : m ≤ 9223372036854775807) (hbm : body.length ≤ m) (hbl : body.length ≤ 4000000000) (hp : s.piece.length ≤ 3000000000) (hu : s.used ≤ 4000000000) :
    Calls Tryz.prog 39 #[.pointer (some ⟨D, 0, none⟩), .int .i64 (m : Int)] w fun e w' => e = .returned (.tuple #[.bool (endR s body m).done, .int .i64 (endR s body m).err]) ∧ ∃ bs', PlB T ex w' D (endR s body m).s (endR s body m).body (endR s body m).bd bs' ∧ Goes bs w bs' w' := by
  have HTT : Hid (TOk T) := hT
  have HRb : Hid (Calls _ _ _ _ _) := readBody_any hT H m hm hbm hbl hp hu
  have HE : Hid (endR s body m = if s.piece.drop (took s body m) ≠ [] then ⟨false, 125, { bNext s (took s body m) with wrong := ((s.used + took s body m : Nat) : Int) }, body ++ s.piece.take (took s body m), []⟩ else if s.ended = false then ⟨false, 0, bNext s (took s body m), body ++ s.piece.take (took s body m), []⟩ else ⟨true, 0, { bNext s (took s body m) with per := false }, body ++ s.piece.take (took s body m), body ++ s.piece.take (took s body m)⟩) := rfl
  generalize endR s body m = R at *
  have e1 : (bNext s (took s body m)).piece = s.piece.drop (took s body m) := rfl
  have e2 : (bNext s (took s body m)).used = s.used + took s body m := rfl
  have e3 : (bNext s (took s body m)).ended = s.ended := rfl
  rw [← e1, ← e2, ← e3] at HE
  clear e1 e2 e3
  generalize bNext s (took s body m) = s1 at *
  generalize body ++ s.piece.take (took s body m) = B at *
  clear H hT
  go_enter Tryz.func39, Tryz.ntmps39
  go_wp2_with fail
  refine HRb.out.mono ?_
  rintro e w1 ⟨rfl, b1, hd1, hg1⟩
  have HD1 : Hid (PlB T ex w1 D s1 B [] b1) := hd1
  have HG1 : Hid (Goes bs w b1 w1) := hg1
  obtain ⟨vl1, vb1, vf1, HI, hbs⟩ := hd1
  obtain ⟨va, c, rfl, hac, hcm, hva⟩ := own_form HI.body
  have HI1 : Hid (IsB T ex w1 D s1 B [] vl1 (.slice va B.length c) vf1) := HI
  have HBS : Hid (b1 = ftH D (.slice va B.length c) vf1) := hbs
  have c0 : w1.cell? ⟨D, 0, none⟩ = some (.string (str s1.piece)) := HI.str.cell 0 rfl
  have c1 : w1.cell? ⟨D, 1, none⟩ = some (.bool s1.ended) := HI.str.cell 1 rfl
  have c2 : w1.cell? ⟨D, 2, none⟩ = some (.int .i64 (s1.used : Int)) := HI.str.cell 2 rfl
  have c7 : w1.cell? ⟨D, 7, none⟩ = some (.slice va B.length c) := HI.str.cell 7 rfl
  have c12 : w1.cell? ⟨D, 12, none⟩ = some (.string (str [])) := HI.str.cell 12 rfl
  have c17 : w1.cell? ⟨D, 17, none⟩ = some (.bool s1.per) := HI.str.cell 17 rfl
  have f12 := HI.str.free 12
  have f17 := HI.str.free 17
  have hcv : ∀ W, Own 0 (.slice va B.length c) B W → (convert 53 9 (.slice va B.length c)).run Tryz.prog W = .ok (.string (str B)) W := fun W h => own_back h
  have hcv1 := hcv w1 HI.body
  clear hg1 HI hbs HRb hva hcv
  by_cases hpe : s1.piece ≠ []
  · have hem : (str s1.piece).toList.isEmpty = false := nonempty_of (by rw [str_size]; exact fun e => hpe (List.length_eq_zero_iff.1 e))
    have HQ : Hid (R = ⟨false, 125, { s1 with wrong := (s1.used : Int) }, B, []⟩) := HE.out.trans (if_pos hpe)
    have HRf : Hid (Calls _ _ _ _ _) := HD1.out.refuse HTT.out (s1.used : Int) 125
    clear hpe HE
    generalize str s1.piece = P at *
    go_wp2_with fail
    refine HRf.out.mono ?_
    rintro e w2 ⟨rfl, hd2, hg2⟩
    have HD2 : Hid (PlB T ex w2 D { s1 with wrong := (s1.used : Int) } B [] b1) := hd2
    have HG2 : Hid (Goes bs w b1 w2) := HG1.out.trans hg2
    clear hd2 hg2
    go_wp2
    go_ret2
    rw [HQ.out]
    exact ⟨rfl, b1, HD2.out, HG2.out⟩
  · have hpe : s1.piece = [] := by simpa using hpe
    have HE2 : Hid (R = _) := HE.out.trans (if_neg (fun h => h hpe))
    rw [hpe] at c0
    have c0' : w1.cell? ⟨D, 0, none⟩ = some (.string ⟨#[]⟩) := c0
    clear c0 HE
    by_cases hen : s1.ended = false
    · have HQ : Hid (R = ⟨false, 0, s1, B, []⟩) := HE2.out.trans (if_pos hen)
      rw [hen] at c1
      clear hen
      go_wp2
      go_ret2
      rw [HQ.out]
      exact ⟨rfl, b1, HD1.out, HG1.out⟩
    · have HQ : Hid (R = ⟨true, 0, { s1 with per := false }, B, B⟩) := HE2.out.trans (if_neg hen)
      have hen : s1.ended = true := by simpa using hen
      rw [hen] at c1
      clear hen
      generalize hbln : B.length = z at *
      have HZ : Hid (B.length = z) := hbln
      clear hbln
      go_wp2
      go_ret2
      rw [HQ.out]
      have hb := setD (setD (But.refl [D] w1) 12 (.string (str B))) 17 (.bool false)
      refine ⟨rfl, _, ⟨vl1, .slice va z c, vf1, HI1.out.build (s' := { s1 with per := false }) (bd' := B) HTT.out hb ((HI1.out.str.set 12 (.string (str B))).set 17 (.bool false)) rfl, rfl⟩, ?_⟩
      have h := HG1.out
      rw [HBS.out] at h
      exact h.trans (goesH (ftHd hb _ _) (fun g h => .inl h) (fun g h => .inl h))
end Ms
end Go.Proofs.YtdcfhnbagldilaaGreatDoor
set_option linter.unusedVariables false
set_option linter.unusedSimpArgs false
set_option maxRecDepth 100000
namespace Go.Proofs.YtdcfhnbagldilaaGreatDoor
open Go.RowKit Go.Shelf
namespace Ms
open Oc Tg _root_.Go.Proofs.YtdcfhnbagldilaaGreatDoor.Fd _root_.Go.Proofs.YtdcfhnbagldilaaGreatDoor.Ck
theorem dec_bd (l : List UInt8) : 0 ≤ (dec l).1 ∧ (dec l).1 ≤ 1099511627776 := by
  have h0 : 0 ≤ numOf 10 l := by
    have := pre_nonneg 10 (by decide) (str l) (str l).size (Nat.le_refl _)
    rw [pre_all, str_list] at this
    exact this
  unfold dec numR
  split
  · exact ⟨by decide, by decide⟩
  · split
    · exact ⟨by decide, by decide⟩
    · rename_i h
      exact ⟨h0, by show numOf 10 l ≤ _; omega⟩
theorem length_bd (t : List Fl) : 0 ≤ (lengthF t).1 ∧ (lengthF t).1 ≤ 1099511627776 := by
  unfold lengthF lenL
  repeat' split
  all_goals first | exact dec_bd _ | exact ⟨by decide, by decide⟩
theorem framing_bd (t : List Fl) (old : Bool) : 0 ≤ (framingF t old).2.1 ∧ (framingF t old).2.1 ≤ 1099511627776 := by
  have := length_bd t
  unfold framingF frame
  repeat' split
  all_goals first | exact this | exact ⟨by decide, by decide⟩
def LenOk (s : HS) : Prop := s.headed = true → ∃ n : Nat, s.len = (n : Int) ∧ n ≤ 1099511627776
theorem hTake_len {s : HS} (h : LenOk s) (u : UInt8) (a : Nat) : LenOk (hTake s u a).1 := by
  have hh : ∀ s : HS, LenOk s → ∀ a, LenOk (hHead s a).1 := fun s h a => by
    unfold hHead
    split
    · exact h
    · intro _
      have := framing_bd s.fs (s.minor == 0)
      exact ⟨(framingF s.fs (s.minor == 0)).2.1.toNat, by show (framingF s.fs (s.minor == 0)).2.1 = _; omega, by omega⟩
  have hf : ∀ s : HS, LenOk s → ∀ l a, LenOk (hField s l a).1 := fun s h l a => by
    unfold hField
    repeat' split
    all_goals exact h
  unfold hTake
  split
  · exact h
  split
  · exact h
  split
  · unfold hEnd
    split
    · exact h
    split
    · exact hh (hNew s) h _
    · exact hf (hNew s) h _ _
  split
  · exact h
  · exact h
theorem hRun_len : ∀ (l : List UInt8) (s : HS), LenOk s → LenOk (hRun s l).1
  | [], s, h => h
  | u :: t, s, h => by
    unfold hRun
    split
    · exact h
    · have h1 := hTake_len (s := hNext s t) h u s.used
      split
      · exact h1
      · exact hRun_len t _ h1
theorem hRun_ok : ∀ (l : List UInt8) (s : HS), HOk s → (hRun s l).2 = 0 → HOk (hRun s l).1
  | [], s, h, _ => h
  | u :: t, s, h, he => by
    unfold hRun at he ⊢
    by_cases hh : s.headed = true
    · rw [if_pos hh]
      exact h
    · rw [if_neg hh] at he ⊢
      by_cases hz : (hTake (hNext s t) u s.used).2 ≠ 0
      · rw [if_pos hz] at he
        exact absurd he hz
      · rw [if_neg hz] at he ⊢
        exact hRun_ok t _ (h.next t u (by simpa using hz)) he
theorem hRun_piece : ∀ (l : List UInt8) (s : HS), s.piece = l → (hRun s l).1.piece.length ≤ l.length
  | [], s, h => by show s.piece.length ≤ _; rw [h]; exact Nat.le_refl _
  | u :: t, s, h => by
    unfold hRun
    split
    · show s.piece.length ≤ _
      rw [h]
      exact Nat.le_refl _
    · have h1 : (hTake (hNext s t) u s.used).1.piece = t := (hTake_piece _ _ _).1
      split
      · rw [h1]
        simp
      · have := hRun_piece t _ h1
        simp only [List.length_cons]
        omega
theorem div100 (n : Int) (k : Int) (hk : 0 < k) : (n.tdiv 100 == k) = decide (100 * k ≤ n ∧ n ≤ 100 * k + 99) := by
  rw [Bool.eq_iff_iff, beq_iff_eq, decide_eq_true_iff]
  rcases Int.le_total 0 n with h | h
  · rw [Int.tdiv_eq_ediv_of_nonneg h]
    omega
  · have : n.tdiv 100 ≤ 0 := by
      have h2 := Int.tdiv_nonneg (a := -n) (b := 100) (by omega) (by omega)
      rw [Int.neg_tdiv] at h2
      omega
    omega
def i64 (n : Int) : Prop := -9223372036854775808 ≤ n ∧ n ≤ 9223372036854775807
theorem div_in {n : Int} (h : i64 n) : wrap64 (n.tdiv 100) = n.tdiv 100 := by
  obtain ⟨h1, h2⟩ := h
  have h3 : -9223372036854775808 ≤ n.tdiv 100 ∧ n.tdiv 100 ≤ 9223372036854775807 := by
    rcases Int.le_total 0 n with h | h
    · rw [Int.tdiv_eq_ediv_of_nonneg h]
      omega
    · have e : n.tdiv 100 = -((-n) / 100) := by
        rw [← Int.tdiv_eq_ediv_of_nonneg (show 0 ≤ -n by omega), Int.neg_tdiv, Int.neg_neg]
      rw [e]
      omega
  unfold wrap64
  omega
set_option maxHeartbeats 1000000 in
theorem isInformal_any (n : Int) (hn : i64 n) (w : World) : Calls Tryz.prog 90 #[.int .i64 n] w fun e w' => e = .returned (.bool (inf n)) ∧ w' = w := by
  have HQ : Hid ((wrap64 (n.tdiv 100) == 1) = inf n) := (by rw [div_in hn]; exact div100 n 1 (by omega) : _ = _)
  generalize inf n = b at *
  go_enter Tryz.func90, Tryz.ntmps90
  go_wp2
  go_ret
  exact ⟨by rw [← HQ.out]; rfl, rfl⟩
set_option maxHeartbeats 1000000 in
theorem isSuccess_any (n : Int) (hn : i64 n) (w : World) : Calls Tryz.prog 97 #[.int .i64 n] w fun e w' => e = .returned (.bool (decide (200 ≤ n ∧ n ≤ 299))) ∧ w' = w := by
  have HQ : Hid ((wrap64 (n.tdiv 100) == 2) = decide (200 ≤ n ∧ n ≤ 299)) := (by rw [div_in hn]; exact div100 n 2 (by omega) : _ = _)
  generalize decide (200 ≤ n ∧ n ≤ 299) = b at *
  go_enter Tryz.func97, Tryz.ntmps97
  go_wp2
  go_ret
  exact ⟨by rw [← HQ.out]; rfl, rfl⟩
set_option maxHeartbeats 1000000 in
theorem neverBody_any (n : Int) (hn : i64 n) (w : World) : Calls Tryz.prog 61 #[.int .i64 n] w fun e w' => e = .returned (.bool (nvr n)) ∧ w' = w := by
  have HI : Hid (Calls _ _ _ _ _) := isInformal_any n hn w
  have HQ : Hid (nvr n = (inf n || (n == 204 || n == 304))) := rfl
  generalize nvr n = R at *
  generalize inf n = b at *
  go_enter Tryz.func61, Tryz.ntmps61
  go_wp2_with fail
  refine HI.out.mono ?_
  rintro e w' ⟨rfl, hw⟩
  rw [hw]
  cases b with
  | true =>
    go_wp2
    go_ret
    exact ⟨by rw [HQ.out]; rfl, rfl⟩
  | false =>
    by_cases h4 : n = 204
    · subst h4
      go_wp2
      go_ret
      exact ⟨by rw [HQ.out]; rfl, rfl⟩
    · have h4' : (n == 204) = false := by simp [h4]
      go_wp2
      go_ret
      exact ⟨by rw [HQ.out, h4']; rfl, rfl⟩
set_option maxHeartbeats 1000000 in
theorem tunnels_any (m : ByteArray) (n : Int) (hn : i64 n) (w : World) : Calls Tryz.prog 62 #[.string m, .int .i64 n] w fun e w' => e = .returned (.bool (tun m.data.toList n)) ∧ w' = w := by
  have HI : Hid (Calls _ _ _ _ _) := isSuccess_any n hn w
  have HQ : Hid (tun m.data.toList n = (decide (m.data.toList = [67, 79, 78, 78, 69, 67, 84]) && decide (200 ≤ n ∧ n ≤ 299))) := rfl
  generalize tun m.data.toList n = R at *
  generalize decide (200 ≤ n ∧ n ≤ 299) = b at *
  by_cases hm : m.data.toList = [67, 79, 78, 78, 69, 67, 84]
  · have hm' : (m.toList == [67, 79, 78, 78, 69, 67, 84]) = true := by rw [ByteArray.toList_eq, hm]; rfl
    rw [decide_eq_true hm] at HQ
    clear hm
    go_enter Tryz.func62, Tryz.ntmps62
    go_wp2_with fail
    refine HI.out.mono ?_
    rintro e w' ⟨rfl, hw⟩
    rw [hw]
    go_wp2
    go_ret
    exact ⟨by rw [HQ.out]; rfl, rfl⟩
  · have hm' : (m.toList == [67, 79, 78, 78, 69, 67, 84]) = false := by rw [ByteArray.toList_eq]; simpa using hm
    rw [decide_eq_false hm] at HQ
    clear hm
    go_enter Tryz.func62, Tryz.ntmps62
    go_wp2
    go_ret
    exact ⟨by rw [HQ.out]; rfl, rfl⟩
set_option maxHeartbeats 1000000 in
theorem Bodyless_any (m : ByteArray) (n : Int) (hn : i64 n) (w : World) : Calls Tryz.prog 24 #[.string m, .int .i64 n] w fun e w' => e = .returned (.bool (bdl m.data.toList n)) ∧ w' = w := by
  have HI : Hid (∀ W, Calls _ _ _ W _) := fun W => neverBody_any n hn W
  have HU : Hid (∀ W, Calls _ _ _ W _) := fun W => tunnels_any m n hn W
  have HQ : Hid (bdl m.data.toList n = (nvr n || (decide (m.data.toList = [72, 69, 65, 68]) || tun m.data.toList n))) := rfl
  generalize bdl m.data.toList n = R at *
  generalize nvr n = b at *
  generalize tun m.data.toList n = t at *
  go_enter Tryz.func24, Tryz.ntmps24
  go_wp2_with fail
  refine (HI.out _).mono ?_
  rintro e w' ⟨rfl, hw⟩
  rw [hw]
  clear hw
  cases b with
  | true =>
    go_wp2
    go_ret
    exact ⟨by rw [HQ.out]; rfl, rfl⟩
  | false =>
    by_cases hm : m.data.toList = [72, 69, 65, 68]
    · have hm' : (m.toList == [72, 69, 65, 68]) = true := by rw [ByteArray.toList_eq, hm]; rfl
      rw [decide_eq_true hm] at HQ
      clear hm
      go_wp2
      go_ret
      exact ⟨by rw [HQ.out]; rfl, rfl⟩
    · have hm' : (m.toList == [72, 69, 65, 68]) = false := by rw [ByteArray.toList_eq]; simpa using hm
      rw [decide_eq_false hm] at HQ
      clear hm
      go_wp2_with fail
      refine (HU.out _).mono ?_
      rintro e w' ⟨rfl, hw⟩
      rw [hw]
      go_wp2
      go_ret
      exact ⟨by rw [HQ.out]; rfl, rfl⟩
end Ms
end Go.Proofs.YtdcfhnbagldilaaGreatDoor
