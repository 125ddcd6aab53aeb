import Derived.Test.YtdcfhnbagldilaaGreatDoorMgN
import Derived.Maps.AppendAt
set_option linter.unusedVariables false
set_option linter.unusedSimpArgs false
namespace Go.Proofs.YtdcfhnbagldilaaGreatDoor
open Go.RowKit Go.Shelf
namespace Fd
open Oc Tg
def textOf (t : List Fl) : List UInt8 := t.flatMap fun p => lineP p ++ [13, 10]
end Fd
end Go.Proofs.YtdcfhnbagldilaaGreatDoor
set_option linter.unusedVariables false
set_option linter.unusedSimpArgs false
set_option maxRecDepth 100000
namespace Go.Proofs.YtdcfhnbagldilaaGreatDoor
open Go.RowKit Go.Shelf
namespace Ms
open Oc Tg _root_.Go.Proofs.YtdcfhnbagldilaaGreatDoor.Fd _root_.Go.Proofs.YtdcfhnbagldilaaGreatDoor.Ck
theorem IsH.adds {T : Nat} {ex : List Value} {w w6 : World} {D g m cp : Nat} {s : HS} {vl vf : Value} {l' : List Fl} (hT : TOk T) (H : IsH T ex w D s vl vf) (ho : OwnF 47 0 (.slice (some ⟨g, 0, none⟩) m cp) l' w6) (hb : But vf.ownBlock.toList w w6) (hg : vf.ownBlock = some g ∨ w.heap.size ≤ g) :
    IsH T ex (w6.setCell ⟨D, 11, none⟩ (.slice (some ⟨g, 0, none⟩) m cp)) D { s with fs := l' } vl (.slice (some ⟨g, 0, none⟩) m cp) ∧ Goes (ftH D vl vf) w (ftH D vl (.slice (some ⟨g, 0, none⟩) m cp)) (w6.setCell ⟨D, 11, none⟩ (.slice (some ⟨g, 0, none⟩) m cp)) := by
  have hD6 : Blk T w6 D (lcH s vl vf ex) := H.str.but hb (fun e => by
    simp at e
    exact H.str.ne H.fs hT.2 e rfl)
  have hA := hD6.set 11 (.slice (some ⟨g, 0, none⟩) m cp)
  have hb2 := setD (But.refl [D] w6) 11 (.slice (some ⟨g, 0, none⟩) m cp)
  have hl6 : Own 0 vl s.line w6 := hb.owns H.line (fun k hk e => ne_rows H.line H.fs (by decide) hk (by simpa using e))
  refine ⟨⟨hA, hD6.keep hl6 hT.1 hb2, hD6.keep ho hT.2 hb2⟩, goesH ?_ (fun k h => .inl h) ?_⟩
  · exact (hb.mono (fun x hx => by simp at hx; simp [ftH, hx])).trans (ftHd hb2 _ _)
  · intro k hk
    have e : g = k := by simpa [Value.ownBlock] using hk
    subst e
    exact hg
theorem HdS.lt {T : Nat} {ex : List Value} {w : World} {D : Nat} {s : HS} {bs : List Nat} (h : HdS T ex w D s bs) : D < w.heap.size := by
  obtain ⟨vl, vf, H, _⟩ := h
  exact H.str.lt
theorem HdS.refuse {T : Nat} (hT : TOk T) {ex : List Value} {w : World} {D : Nat} {s : HS} {bs : List Nat} (h : HdS T ex w D s bs) (a e : Int) :
    Calls Tryz.prog 64 #[.pointer (some ⟨D, 0, none⟩), .int .i64 a, .int .i64 e] w fun x w' => x = .returned (.int .i64 e) ∧ HdS T ex w' D { s with wrong := a } bs ∧ Goes bs w bs w' := by
  obtain ⟨vl, vf, H, rfl⟩ := h
  refine (refuse_raw H.str ⟨_, rfl⟩ a e).mono ?_
  rintro x w' ⟨rfl, rfl⟩
  have hb := setD (But.refl [D] w) 3 (.int .i64 a)
  exact ⟨rfl, ⟨vl, vf, H.build (s' := { s with wrong := a }) hT hb (H.str.set 3 _) H.line rfl, rfl⟩, goesH (ftHd hb _ _) (fun g h => .inl h) (fun g h => .inl h)⟩
def hField (s : HS) (l : List UInt8) (a : Nat) : HS × Int :=
  if s.fs.length = 100 then ({ s with wrong := (a : Int) }, 65)
  else if (parseL l).2.2 ≠ 0 then ({ s with wrong := (a : Int) + ((parseL l).2.1 : Int) }, (parseL l).2.2)
  else ({ s with fs := s.fs ++ [(parseL l).1] }, 0)
set_option maxHeartbeats 4000000 in
theorem keepField_any {T : Nat} (hT : TOk T) {ex : List Value} {w0 w : World} {D : Nat} {s : HS} {bs : List Nat} (HB : Base w0 w bs) (H : HdS T ex w D s bs) (l : List UInt8) (hl : l.length ≤ 4000000000) (a : Nat) (ha : a ≤ 4000000000) (hfs : s.fs.length ≤ 100) :
    Calls Tryz.prog 101 #[.pointer (some ⟨D, 0, none⟩), .string (str l), .int .i64 (a : Int)] w fun e w' => e = .returned (.int .i64 (hField s l a).2) ∧ ∃ bs', HdS T ex w' D (hField s l a).1 bs' ∧ Goes bs w bs' w' := by
  have HHB : Hid (Base w0 w bs) := HB
  have HDD : Hid (HdS T ex w D s bs) := H
  have HTT : Hid (TOk T) := hT
  have HP : Hid (Calls Tryz.prog 121 #[.string (str l)] w fun e w' => e = .returned (lineV (parseL l)) ∧ Below w.heap.size w w') := by
    have h := ParseLine_any (str l) (by rw [str_size]; exact hl) w HB.at
    rw [str_list] at h
    exact h
  have hpl : (parseL l).2.1 ≤ 5000000000 := by
    have := parseL_le l
    omega
  have HK : Hid (hField s l a = if s.fs.length = 100 then ({ s with wrong := (a : Int) }, 65) else if (parseL l).2.2 ≠ 0 then ({ s with wrong := (a : Int) + ((parseL l).2.1 : Int) }, (parseL l).2.2) else ({ s with fs := s.fs ++ [(parseL l).1] }, 0)) := rfl
  unfold lineV at HP
  generalize parseL l = q at *
  obtain ⟨⟨p1, p2⟩, pl, pe⟩ := q
  simp only at HP HK hpl
  generalize hField s l a = R at *
  generalize str l = L at *
  obtain ⟨n1, hn1⟩ : ∃ n1, n1 = str p1 := ⟨_, rfl⟩
  obtain ⟨n2, hn2⟩ : ∃ n2, n2 = str p2 := ⟨_, rfl⟩
  rw [← hn1, ← hn2] at HP
  have HN1 : Hid (n1 = str p1) := hn1
  have HN2 : Hid (n2 = str p2) := hn2
  clear hn1 hn2 hl HB
  obtain ⟨vl, vf, HI, hbs⟩ := H
  obtain ⟨va, vc, rfl⟩ := ownF_form HI.fs
  have HBS : Hid (bs = ftH D vl (.slice va s.fs.length vc)) := hbs
  have HI0 : Hid (IsH T ex w D s vl (.slice va s.fs.length vc)) := HI
  have c11 : w.cell? ⟨D, 11, none⟩ = some (.slice va s.fs.length vc) := HI.str.cell 11 rfl
  clear HI hbs hT
  by_cases h100 : s.fs.length = 100
  · have hq : ((s.fs.length : Int) == 100) = true := by rw [h100]; rfl
    have HQ : Hid (R = ({ s with wrong := (a : Int) }, 65)) := (by rw [HK.out, if_pos h100] : _ = _)
    clear h100
    go_enter Tryz.func101, Tryz.ntmps101
    go_wp2_with fail
    refine (HDD.out.refuse HTT.out _ _).mono ?_
    rintro e w1 ⟨rfl, hd1, hg1⟩
    have HD1 : Hid (HdS T ex w1 D { s with wrong := (a : Int) } bs) := hd1
    have HG1 : Hid (Goes bs w bs w1) := hg1
    clear hd1 hg1
    go_wp2
    go_ret
    rw [HQ.out]
    exact ⟨rfl, bs, HD1.out, HG1.out⟩
  · have hq : ((s.fs.length : Int) == 100) = false := by simp; omega
    have hfl : s.fs.length + 1 ≤ 2147483648 := by omega
    have HK2 : Hid (R = if pe ≠ 0 then ({ s with wrong := (a : Int) + (pl : Int) }, pe) else ({ s with fs := s.fs ++ [(p1, p2)] }, 0)) := (by rw [HK.out, if_neg h100] : _ = _)
    clear h100 hfs
    go_enter Tryz.func101, Tryz.ntmps101
    go_wp2_with fail
    refine HP.out.mono ?_
    rintro e w1 ⟨rfl, hb1⟩
    have HD1 : Hid (HdS T ex w1 D s bs) := HDD.out.below hb1
    have HG1 : Hid (Goes bs w bs w1) := Goes.below hb1
    have HI1 : Hid (IsH T ex w1 D s vl (.slice va s.fs.length vc)) := HI0.out.below hb1
    clear hb1 HDD HP c11 HI0
    have hBA : Below w1.heap.size w1 (w1.alloc (.cells #[.string n1, .string n2] 47)) := (Below.refl _ w1).alloc (Nat.le_refl _) _
    have HDA : Hid (HdS T ex (w1.alloc (.cells #[.string n1, .string n2] 47)) D s bs) := HD1.out.below hBA
    have HGA : Hid (Goes bs w bs (w1.alloc (.cells #[.string n1, .string n2] 47))) := HG1.out.trans (Goes.below hBA)
    have HIA : Hid (IsH T ex (w1.alloc (.cells #[.string n1, .string n2] 47)) D s vl (.slice va s.fs.length vc)) := HI1.out.below hBA
    have HRA : Hid ((w1.alloc (.cells #[.string n1, .string n2] 47)).heap[w1.heap.size]? = some (.cells #[.string n1, .string n2] 47 (0, 0))) := heap_alloc_new _ _
    have HDlt : Hid (D < w1.heap.size) := HD1.out.lt
    clear hBA
    by_cases he : pe = 0
    · subst he
      have HQ : Hid (R = ({ s with fs := s.fs ++ [(p1, p2)] }, 0)) := (by rw [HK2.out, if_neg (by simp)] : _ = _)
      go_wp2_with fail
      obtain ⟨w3, hw3⟩ : ∃ w3, w3 = w1.alloc (.cells #[.string n1, .string n2] 47) := ⟨_, rfl⟩
      rw [← hw3] at HDA HGA HIA HRA ⊢
      generalize hBz : w1.heap.size = B at *
      clear hw3 hBz
      have hBlt : B < w3.heap.size := (Array.getElem?_eq_some_iff.1 HRA.out).1
      have hDlt : D < w3.heap.size := HDA.out.lt
      have c11 : w3.cell? ⟨D, 11, none⟩ = some (.slice va s.fs.length vc) := HIA.out.str.cell 11 rfl
      have cf : ∀ i, w3.frozen? ⟨D, i, none⟩ = false := HIA.out.str.free
      have b0 : w3.cell? ⟨B, 0, none⟩ = some (.string n1) := by rw [cell_of_row w3 B _ _ _ _ HRA.out]; rfl
      have b1 : w3.cell? ⟨B, 1, none⟩ = some (.string n2) := by rw [cell_of_row w3 B _ _ _ _ HRA.out]; rfl
      have HOD : Hid (OwnF 47 0 (.slice va s.fs.length vc) s.fs w3.drew) := (But.refl [] w3).drew.owns HIA.out.fs (fun _ _ e => by cases e)
      have HSD : Hid (Blk T w3.drew D (lcH s vl (.slice va s.fs.length vc) ex)) := HIA.out.str.but (But.refl [] w3).drew (fun e => by cases e)
      have q1 : ¬ D = w3.heap.size := by omega
      have q2 : ¬ w3.heap.size = D := by omega
      have q3 : ¬ B = w3.heap.size := by omega
      have q4 : ¬ w3.heap.size = B := by omega
      have d10 : w3.drew.cell? ⟨D, 11, none⟩ = some (.slice va s.fs.length vc) := c11
      have d0 : w3.drew.cell? ⟨B, 0, none⟩ = some (.string n1) := b0
      have d1 : w3.drew.cell? ⟨B, 1, none⟩ = some (.string n2) := b1
      have a10 : (w3.alloc (.cells #[.string n1, .string n2] 47)).cell? ⟨D, 11, none⟩ = some (.slice va s.fs.length vc) := ((But.refl [] w3).alloc _).cell c11 (fun e => by cases e)
      generalize hm : s.fs.length = m at *
      have HMM : Hid (s.fs.length = m) := hm
      clear hm
      go_region_law (refine step_appF rfl (.tmp 42) (.tmp 44) rfl (.slice va m vc) s.fs w3.drew (p1, p2) n1 n2 HN1.out HN2.out (by simp [Act.eval, Act.put]) HOD.out (by simp [Act.eval, Act.put]) (by have := HMM.out; omega) ?_; intro g6 c6' w6 ho6 hb6 hg6; rw [HMM.out]; have S6 : Hid (Blk T w6 D _) := HSD.out.but hb6.out (fun e => HSD.out.ne HOD.out HTT.out.2 (by simpa using e) rfl); have e11 := S6.out.cell 11 rfl; have ef := S6.out.free 11)
      all_goals
        have P := IsH.adds HTT.out HIA.out (l' := s.fs ++ [(p1, p2)]) (m := m + 1) (by have := ho6.out; rw [HMM.out] at this; exact this) ((But.refl _ w3).drew.trans hb6.out) hg6.out
        obtain ⟨w7, hw7⟩ : ∃ w7, w7 = w6.setCell ⟨D, 11, none⟩ (.slice (some ⟨g6, 0, none⟩) (m + 1) c6') := ⟨_, rfl⟩
        rw [← hw7] at P ⊢
        clear hw7
        have HIF : Hid (IsH T ex w7 D { s with fs := s.fs ++ [(p1, p2)] } vl (.slice (some ⟨g6, 0, none⟩) (m + 1) c6')) := P.1
        have HGF : Hid (Goes bs w (ftH D vl (.slice (some ⟨g6, 0, none⟩) (m + 1) c6')) w7) := by
          have h2 := HGA.out
          rw [HBS.out] at h2 ⊢
          exact h2.trans P.2
        clear P ho6 hb6 hg6 S6 e11 ef
        go_wp2
        go_ret
        rw [HQ.out]
        exact ⟨rfl, _, ⟨_, _, HIF.out, rfl⟩, HGF.out⟩
    · have he1 : (pe != 0) = true := by simp [he]
      have HQ : Hid (R = ({ s with wrong := (a : Int) + (pl : Int) }, pe)) := (by rw [HK2.out, if_pos he] : _ = _)
      clear he
      have ht : (-9223372036854775808 : Int) ≤ (a : Int) + (pl : Int) ∧ (a : Int) + (pl : Int) ≤ 9223372036854775807 := by omega
      go_wp2_with fail
      refine (HDA.out.refuse HTT.out _ _).mono ?_
      rintro e w3 ⟨rfl, hd3, hg3⟩
      have HD3 : Hid (HdS T ex w3 D { s with wrong := (a : Int) + (pl : Int) } bs) := hd3
      have HG3 : Hid (Goes bs w bs w3) := HGA.out.trans hg3
      clear hd3 hg3
      go_wp2
      go_ret
      rw [HQ.out]
      exact ⟨rfl, bs, HD3.out, HG3.out⟩
end Ms
end Go.Proofs.YtdcfhnbagldilaaGreatDoor
set_option linter.unusedVariables false
set_option linter.unusedSimpArgs false
set_option maxRecDepth 100000
namespace Go.Proofs.YtdcfhnbagldilaaGreatDoor
open Go.RowKit Go.Shelf
namespace Ms
open Oc Tg _root_.Go.Proofs.YtdcfhnbagldilaaGreatDoor.Fd _root_.Go.Proofs.YtdcfhnbagldilaaGreatDoor.Ck
def hHead (s : HS) (a : Nat) : HS × Int :=
  if (framingF s.fs (s.minor == 0)).2.2 ≠ 0 then ({ s with wrong := (a : Int) }, (framingF s.fs (s.minor == 0)).2.2)
  else ({ s with kind := (framingF s.fs (s.minor == 0)).1, len := (framingF s.fs (s.minor == 0)).2.1, per := persistF s.fs (s.minor == 0), line := [], headed := true }, 0)
set_option maxHeartbeats 4000000 in
theorem endHead_any {T : Nat} (hT : TOk T) {ex : List Value} {w0 w : World} {D : Nat} {s : HS} {bs : List Nat} (HB : Base w0 w bs) (H : HdS T ex w D s bs) (a : Nat) (hS : sumF s.fs ≤ 1048576) :
    Calls Tryz.prog 100 #[.pointer (some ⟨D, 0, none⟩), .int .i64 (a : Int)] w fun e w' => e = .returned (.int .i64 (hHead s a).2) ∧ ∃ bs', HdS T ex w' D (hHead s a).1 bs' ∧ Goes bs w bs' w' := by
  have HHB : Hid (Base w0 w bs) := HB
  have HTT : Hid (TOk T) := hT
  obtain ⟨vl, vf, HI, hbs⟩ := H
  have HBS : Hid (bs = ftH D vl vf) := hbs
  have HI0 : Hid (IsH T ex w D s vl vf) := HI
  have HF : Hid (∀ W, RdF vf s.fs W → Tab W → Calls Tryz.prog 119 #[vf, .bool (s.minor == 0)] W fun e w' => e = .returned (frV (framingF s.fs (s.minor == 0))) ∧ Below (World.heap W).size W w') := fun W h t => Framing_any vf s.fs (s.minor == 0) hS W h t
  have HP : Hid (∀ W, RdF vf s.fs W → Tab W → Calls Tryz.prog 120 #[vf, .bool (s.minor == 0)] W fun e w' => e = .returned (.bool (persistF s.fs (s.minor == 0))) ∧ Below (World.heap W).size W w') := fun W h t => Persist_any vf s.fs (s.minor == 0) hS W h t
  have HK : Hid (hHead s a = if (framingF s.fs (s.minor == 0)).2.2 ≠ 0 then ({ s with wrong := (a : Int) }, (framingF s.fs (s.minor == 0)).2.2) else ({ s with kind := (framingF s.fs (s.minor == 0)).1, len := (framingF s.fs (s.minor == 0)).2.1, per := persistF s.fs (s.minor == 0), line := [], headed := true }, 0)) := rfl
  have c11 : w.cell? ⟨D, 11, none⟩ = some vf := HI.str.cell 11 rfl
  have c13 : w.cell? ⟨D, 13, none⟩ = some (.int .i64 s.minor) := HI.str.cell 13 rfl
  unfold frV at HF
  generalize framingF s.fs (s.minor == 0) = F at *
  obtain ⟨k, n, z⟩ := F
  generalize persistF s.fs (s.minor == 0) = P at *
  dsimp only at HF HK
  generalize hHead s a = R at *
  obtain ⟨old, hold⟩ : ∃ old, (s.minor == 0) = old := ⟨_, rfl⟩
  rw [hold] at HF HP
  clear HI hbs hT HB
  go_enter Tryz.func100, Tryz.ntmps100
  go_wp2_with fail
  go_quiet (fail)
  obtain ⟨w1, hw1⟩ : ∃ w1, w1 = w.drewN nq := ⟨_, rfl⟩
  have hb1 : Below w.heap.size w w1 := by rw [hw1]; exact below_drew w nq
  rw [← hw1]
  have HI1 : Hid (IsH T ex w1 D s vl vf) := HI0.out.below hb1
  have HB1 : Hid (Below w.heap.size w w1) := hb1
  clear hw1 hb1 c11 c13 HI0
  go_wp2_with fail
  refine (HF.out _ HI1.out.fs.rd (HHB.out.at.below HB1.out).1).mono ?_
  rintro e w2 ⟨rfl, hb2⟩
  have HI2 : Hid (IsH T ex w2 D s vl vf) := HI1.out.below hb2
  have HB2 : Hid (Below w.heap.size w w2) := bel_trans HB1.out hb2
  clear hb2 HI1 HB1
  by_cases hz : z = 0
  · subst hz
    have HQ : Hid (R = ({ s with kind := k, len := n, per := P, line := [], headed := true }, 0)) := (by rw [HK.out, if_neg (by simp)] : _ = _)
    have hDlt : D < w2.heap.size := HI2.out.str.lt
    have q1 : ¬ D = w2.heap.size := by omega
    have q2 : ¬ w2.heap.size = D := by omega
    have c15 : w2.cell? ⟨D, 15, none⟩ = some (.int .i64 s.kind) := HI2.out.str.cell 15 rfl
    have c16 : w2.cell? ⟨D, 16, none⟩ = some (.int .i64 s.len) := HI2.out.str.cell 16 rfl
    have f15 := HI2.out.str.free 15
    have f16 := HI2.out.str.free 16
    have HI3 : Hid (IsH T ex ((w2.setCell ⟨D, 15, none⟩ (.int .i64 k)).setCell ⟨D, 16, none⟩ (.int .i64 n)) D { s with kind := k, len := n } vl vf) := HI2.out.build (s' := { s with kind := k, len := n }) HTT.out (setD (setD (But.refl [D] w2) 15 (.int .i64 k)) 16 (.int .i64 n)) ((HI2.out.str.set 15 (.int .i64 k)).set 16 (.int .i64 n)) HI2.out.line rfl
    have HG3 : Hid (Goes bs w bs ((w2.setCell ⟨D, 15, none⟩ (.int .i64 k)).setCell ⟨D, 16, none⟩ (.int .i64 n))) := by
      have h := goesH (vl := vl) (vf := vf) (vl' := vl) (vf' := vf) (ftHd (setD (setD (But.refl [D] w2) 15 (.int .i64 k)) 16 (.int .i64 n)) vl vf) (fun g h => .inl h) (fun g h => .inl h)
      rw [← HBS.out] at h
      exact (Goes.below HB2.out).trans h
    go_wp2_with fail
    obtain ⟨w3, hw3⟩ : ∃ w3, w3 = (w2.setCell ⟨D, 15, none⟩ (.int .i64 k)).setCell ⟨D, 16, none⟩ (.int .i64 n) := ⟨_, rfl⟩
    rw [← hw3] at HI3 HG3 ⊢
    clear hw3 c15 c16 f15 f16 q1 q2 hDlt HI2
    have hBA : Below w3.heap.size w3 (w3.alloc (.cells #[.int .i64 k, .int .i64 n] 29)) := (Below.refl _ w3).alloc (Nat.le_refl _) _
    have HI4 : Hid (IsH T ex (w3.alloc (.cells #[.int .i64 k, .int .i64 n] 29)) D { s with kind := k, len := n } vl vf) := HI3.out.below hBA
    have HG4 : Hid (Goes bs w bs (w3.alloc (.cells #[.int .i64 k, .int .i64 n] 29))) := HG3.out.trans (Goes.below hBA)
    clear hBA HI3 HG3
    refine (HP.out _ HI4.out.fs.rd (HHB.out.goes HG4.out).at.1).mono ?_
    rintro e w5 ⟨rfl, hb5⟩
    have HI5 : Hid (IsH T ex w5 D { s with kind := k, len := n } vl vf) := HI4.out.below hb5
    have HG5 : Hid (Goes bs w bs w5) := HG4.out.trans (Goes.below hb5)
    clear hb5 HI4 HG4
    have c17 := HI5.out.str.cell 17 rfl
    have c4 := HI5.out.str.cell 4 rfl
    have c6 := HI5.out.str.cell 6 rfl
    have f17 := HI5.out.str.free 17
    have f4 := HI5.out.str.free 4
    have f6 := HI5.out.str.free 6
    go_wp2
    go_ret
    have hA := ((HI5.out.str.set 17 (.bool P)).set 4 (.slice none 0 0)).set 6 (.bool true)
    have hb := setD (setD (setD (But.refl [D] w5) 17 (.bool P)) 4 (.slice none 0 0)) 6 (.bool true)
    rw [HQ.out]
    refine ⟨rfl, _, ⟨.slice none 0 0, vf, HI5.out.build (s' := { s with kind := k, len := n, per := P, line := [], headed := true }) HTT.out hb hA (World.ownsRow_nil _ _ _ _) rfl, rfl⟩, ?_⟩
    have h := HG5.out
    rw [HBS.out] at h ⊢
    exact h.trans (goesH (ftHd hb _ _) (fun g h => by cases h) (fun g h => .inl h))
  · have hz1 : (z != 0) = true := by simp [hz]
    have HQ : Hid (R = ({ s with wrong := (a : Int) }, z)) := (by rw [HK.out, if_pos hz] : _ = _)
    clear hz
    have hBA : Below w2.heap.size w2 (w2.alloc (.cells #[.int .i64 k, .int .i64 n] 29)) := (Below.refl _ w2).alloc (Nat.le_refl _) _
    have HDA : Hid (HdS T ex (w2.alloc (.cells #[.int .i64 k, .int .i64 n] 29)) D s bs) := (⟨vl, vf, HI2.out.below hBA, HBS.out⟩ : HdS _ _ _ _ _ _)
    have HGA : Hid (Goes bs w bs (w2.alloc (.cells #[.int .i64 k, .int .i64 n] 29))) := Goes.below (bel_trans HB2.out hBA)
    clear hBA
    go_wp2_with fail
    refine (HDA.out.refuse HTT.out _ _).mono ?_
    rintro e w3 ⟨rfl, hd3, hg3⟩
    have HD3 : Hid (HdS T ex w3 D { s with wrong := (a : Int) } bs) := hd3
    have HG3 : Hid (Goes bs w bs w3) := HGA.out.trans hg3
    clear hd3 hg3
    go_wp2
    go_ret
    rw [HQ.out]
    exact ⟨rfl, bs, HD3.out, HG3.out⟩
end Ms
end Go.Proofs.YtdcfhnbagldilaaGreatDoor
set_option linter.unusedVariables false
set_option linter.unusedSimpArgs false
set_option maxRecDepth 100000
namespace Go.Proofs.YtdcfhnbagldilaaGreatDoor
open Go.RowKit Go.Shelf
namespace Ms
open Oc Tg _root_.Go.Proofs.YtdcfhnbagldilaaGreatDoor.Fd _root_.Go.Proofs.YtdcfhnbagldilaaGreatDoor.Ck
def hNew (s : HS) : HS := { s with lineAt := s.used, line := [] }
def hEnd (s : HS) : HS × Int :=
  if s.lineAt = 0 then (hStatus (hNew s) s.line.dropLast, 0)
  else if s.line.dropLast = [] then hHead (hNew s) s.lineAt
  else hField (hNew s) s.line.dropLast s.lineAt
set_option maxHeartbeats 4000000 in
theorem endLine_any {T : Nat} (hT : TOk T) {ex : List Value} {w0 w : World} {D : Nat} {s : HS} {bs : List Nat} (HB : Base w0 w bs) (H : HdS T ex w D s bs) (hne : s.line ≠ []) (h13 : s.lineAt = 0 → 14 ≤ s.line.length) (hl : s.line.length ≤ 4000000000) (hla : s.lineAt ≤ 4000000000) (hfs : s.fs.length ≤ 100) (hS : sumF s.fs ≤ 1048576) :
    Calls Tryz.prog 65 #[.pointer (some ⟨D, 0, none⟩)] w fun e w' => e = .returned (.int .i64 (hEnd s).2) ∧ ∃ bs', HdS T ex w' D (hEnd s).1 bs' ∧ Goes bs w bs' w' := by
  have HHB : Hid (Base w0 w bs) := HB
  have HTT : Hid (TOk T) := hT
  obtain ⟨vl, vf, HI, hbs⟩ := H
  obtain ⟨va, c, rfl, hac, hcm, ha⟩ := own_form HI.line
  obtain ⟨g, rfl⟩ : ∃ g, va = some ⟨g, 0, none⟩ := by
    rcases ha with ⟨_, h0⟩ | h
    · exact absurd (List.length_eq_zero_iff.1 (by omega)) hne
    · exact h
  obtain ⟨m, hm⟩ : ∃ m, s.line.length = m + 1 := ⟨s.line.length - 1, by have := List.length_pos_iff.2 hne; omega⟩
  have hdl : s.line.dropLast.length = m := by rw [List.length_dropLast, hm]; rfl
  have htk : s.line.take m = s.line.dropLast := by rw [List.dropLast_eq_take, hm]; rfl
  have hcv : ∀ q, (convert 53 9 (.slice (some ⟨g, 0, none⟩) m c)).run Tryz.prog (w.drewN q) = .ok (.string (str s.line.dropLast)) (w.drewN q) := fun q => by
    have h := own_take (HI.below (below_drew w q)).line m (by omega)
    rw [htk] at h
    exact own_back h
  have hcv0 := hcv 0
  have HBS : Hid (bs = ftH D (.slice (some ⟨g, 0, none⟩) s.line.length c) vf) := hbs
  have HI0 : Hid (IsH T ex w D s (.slice (some ⟨g, 0, none⟩) s.line.length c) vf) := HI
  have c2 : w.cell? ⟨D, 2, none⟩ = some (.int .i64 (s.used : Int)) := HI.str.cell 2 rfl
  have c4 : w.cell? ⟨D, 4, none⟩ = some (.slice (some ⟨g, 0, none⟩) s.line.length c) := HI.str.cell 4 rfl
  have c5 : w.cell? ⟨D, 5, none⟩ = some (.int .i64 (s.lineAt : Int)) := HI.str.cell 5 rfl
  have HE : Hid (hEnd s = if s.lineAt = 0 then (hStatus (hNew s) s.line.dropLast, 0) else if s.line.dropLast = [] then hHead (hNew s) s.lineAt else hField (hNew s) s.line.dropLast s.lineAt) := rfl
  have HI2' : Hid (∀ W, IsH T ex W D s (.slice (some ⟨g, 0, none⟩) s.line.length c) vf → IsH T ex ((W.setCell ⟨D, 5, none⟩ (.int .i64 (s.used : Int))).setCell ⟨D, 4, none⟩ (.slice (some ⟨g, 0, none⟩) 0 c)) D (hNew s) (.slice (some ⟨g, 0, none⟩) 0 c) vf) := fun W h =>
    h.build (s' := hNew s) hT (setD (setD (But.refl [D] W) 5 (.int .i64 (s.used : Int))) 4 (.slice (some ⟨g, 0, none⟩) 0 c)) ((h.str.set 5 (.int .i64 (s.used : Int))).set 4 (.slice (some ⟨g, 0, none⟩) 0 c)) (own_zero h.line) rfl
  have HM : Hid (s.line.dropLast = [] ∧ (str s.line.dropLast).toList.isEmpty = true ∨ s.line.dropLast ≠ [] ∧ (str s.line.dropLast).toList.isEmpty = false) := by
    by_cases h : s.line.dropLast = []
    · exact .inl ⟨h, empty_of (by rw [h]; rfl)⟩
    · exact .inr ⟨h, nonempty_of (by rw [str_size]; exact fun e => h (List.length_eq_zero_iff.1 e))⟩
  have HKs : Hid (∀ W b1, HdS T ex W D (hNew s) b1 → s.lineAt = 0 → Calls Tryz.prog 99 #[.pointer (some ⟨D, 0, none⟩), .string (str s.line.dropLast)] W fun e w' => e = .returned (.tuple #[]) ∧ HdS T ex w' D (hStatus (hNew s) s.line.dropLast) b1 ∧ Goes b1 W b1 w') := fun W b1 h h0 => keepStatus_any hT h s.line.dropLast (by have := h13 h0; omega) (by omega)
  have HKh : Hid (∀ W b1, Base w0 W b1 → HdS T ex W D (hNew s) b1 → Calls Tryz.prog 100 #[.pointer (some ⟨D, 0, none⟩), .int .i64 (s.lineAt : Int)] W fun e w' => e = .returned (.int .i64 (hHead (hNew s) s.lineAt).2) ∧ ∃ bs', HdS T ex w' D (hHead (hNew s) s.lineAt).1 bs' ∧ Goes b1 W bs' w') := fun W b1 hb h => endHead_any hT hb h s.lineAt hS
  have HKf : Hid (∀ W b1, Base w0 W b1 → HdS T ex W D (hNew s) b1 → Calls Tryz.prog 101 #[.pointer (some ⟨D, 0, none⟩), .string (str s.line.dropLast), .int .i64 (s.lineAt : Int)] W fun e w' => e = .returned (.int .i64 (hField (hNew s) s.line.dropLast s.lineAt).2) ∧ ∃ bs', HdS T ex w' D (hField (hNew s) s.line.dropLast s.lineAt).1 bs' ∧ Goes b1 W bs' w') := fun W b1 hb h => keepField_any hT hb h s.line.dropLast (by omega) s.lineAt hla hfs
  unfold maxLen at hcm
  generalize hEnd s = R at *
  generalize hNew s = s1 at *
  rw [hm] at c4 HI0 HBS HI2' hac
  generalize str s.line.dropLast = L at *
  generalize s.line.dropLast = l at *
  clear HI hbs hT HB ha htk hdl h13 hl hfs hS hm hne
  have hmc : m < c := by omega
  have hm0 : m ≤ c := by omega
  go_enter Tryz.func65, Tryz.ntmps65
  go_wp2_with fail
  go_quiet (fail)
  obtain ⟨w1, hw1⟩ : ∃ w1, w1 = w.drewN nq := ⟨_, rfl⟩
  have hb1 : Below w.heap.size w w1 := by rw [hw1]; exact below_drew w nq
  rw [← hw1]
  have HI1 : Hid (IsH T ex w1 D s (.slice (some ⟨g, 0, none⟩) (m + 1) c) vf) := HI0.out.below hb1
  have HB1 : Hid (Below w.heap.size w w1) := hb1
  clear hw1 hb1 c2 c4 c5 HI0 hcv hcv0
  have c2 : w1.cell? ⟨D, 2, none⟩ = some (.int .i64 (s.used : Int)) := HI1.out.str.cell 2 rfl
  have c4 : w1.cell? ⟨D, 4, none⟩ = some (.slice (some ⟨g, 0, none⟩) (m + 1) c) := HI1.out.str.cell 4 rfl
  have c5 : w1.cell? ⟨D, 5, none⟩ = some (.int .i64 (s.lineAt : Int)) := HI1.out.str.cell 5 rfl
  have f4 := HI1.out.str.free 4
  have f5 := HI1.out.str.free 5
  have e2 : w1.drew.cell? ⟨D, 2, none⟩ = some (.int .i64 (s.used : Int)) := c2
  have e4 : w1.drew.cell? ⟨D, 4, none⟩ = some (.slice (some ⟨g, 0, none⟩) (m + 1) c) := c4
  have e5 : w1.drew.cell? ⟨D, 5, none⟩ = some (.int .i64 (s.lineAt : Int)) := c5
  have HId : Hid (IsH T ex w1.drew D s (.slice (some ⟨g, 0, none⟩) (m + 1) c) vf) := HI1.out.below ((Below.refl _ w1).drew)
  have HBd : Hid (Below w.heap.size w w1.drew) := HB1.out.drew
  have HI2 : Hid (IsH T ex ((w1.setCell ⟨D, 5, none⟩ (.int .i64 (s.used : Int))).setCell ⟨D, 4, none⟩ (.slice (some ⟨g, 0, none⟩) 0 c)).drew D s1 (.slice (some ⟨g, 0, none⟩) 0 c) vf) := (HI2'.out w1 HI1.out).below ((Below.refl _ _).drew)
  have HG2 : Hid (Goes bs w (ftH D (.slice (some ⟨g, 0, none⟩) 0 c) vf) ((w1.setCell ⟨D, 5, none⟩ (.int .i64 (s.used : Int))).setCell ⟨D, 4, none⟩ (.slice (some ⟨g, 0, none⟩) 0 c)).drew) := by
    have h := goesH (vl := .slice (some ⟨g, 0, none⟩) (m + 1) c) (vf := vf) (vl' := .slice (some ⟨g, 0, none⟩) 0 c) (vf' := vf) (ftHd (setD (setD (But.refl [D] w1) 5 (.int .i64 (s.used : Int))) 4 (.slice (some ⟨g, 0, none⟩) 0 c)) _ vf) (fun g h => .inl h) (fun g h => .inl h)
    rw [← HBS.out] at h
    exact ((Goes.below HB1.out).trans h).trans (Goes.below ((Below.refl _ _).drew))
  go_wp2_with fail
  go_region_law (fail)
  all_goals
    obtain ⟨w2, hw2⟩ : ∃ w2, w2 = ((w1.setCell ⟨D, 5, none⟩ (.int .i64 (s.used : Int))).setCell ⟨D, 4, none⟩ (.slice (some ⟨g, 0, none⟩) 0 c)).drew := ⟨_, rfl⟩
    rw [← hw2] at HI2 HG2 ⊢
    clear hw2 c2 c4 c5 e2 e4 e5 f4 f5 HId HBd HI1 HB1 HI2'
    have HD2 : Hid (HdS T ex w2 D s1 (ftH D (.slice (some ⟨g, 0, none⟩) 0 c) vf)) := ⟨_, _, HI2.out, rfl⟩
    generalize ftH D (.slice (some ⟨g, 0, none⟩) 0 c) vf = b2 at *
    clear HI2
    by_cases h0 : s.lineAt = 0
    · have h0' : ((s.lineAt : Int) == 0) = true := by rw [h0]; rfl
      have HQ : Hid (R = (hStatus s1 l, 0)) := (by rw [HE.out, if_pos h0] : _ = _)
      have HK := HKs.out w2 b2 HD2.out h0
      have HK2 : Hid (Calls _ _ _ _ _) := HK
      clear HK h0 HKs HKh HKf
      go_wp2_with fail
      refine HK2.out.mono ?_
      rintro e w3 ⟨rfl, hd3, hg3⟩
      have HD3 : Hid (HdS T ex w3 D (hStatus s1 l) b2) := hd3
      have HG3 : Hid (Goes bs w b2 w3) := HG2.out.trans hg3
      clear hd3 hg3
      go_wp2
      go_ret
      rw [HQ.out]
      exact ⟨rfl, b2, HD3.out, HG3.out⟩
    · have h0' : ((s.lineAt : Int) == 0) = false := by simp [h0]
      rcases HM.out with ⟨hs0, hL⟩ | ⟨hs0, hL⟩
      · have HQ : Hid (R = hHead s1 s.lineAt) := (by rw [HE.out, if_neg h0, if_pos hs0] : _ = _)
        have HK2 : Hid (Calls _ _ _ _ _) := HKh.out w2 b2 (HHB.out.goes HG2.out) HD2.out
        generalize hHead s1 s.lineAt = Y at *
        clear HKs HKh HKf h0 hs0 HM HE
        go_wp2_with fail
        refine HK2.out.mono ?_
        rintro e w3 ⟨rfl, b3, hd3, hg3⟩
        have HD3 : Hid (HdS T ex w3 D Y.1 b3) := hd3
        have HG3 : Hid (Goes bs w b3 w3) := HG2.out.trans hg3
        clear hd3 hg3
        go_wp2
        go_ret
        rw [HQ.out]
        exact ⟨rfl, b3, HD3.out, HG3.out⟩
      · have HQ : Hid (R = hField s1 l s.lineAt) := (by rw [HE.out, if_neg h0, if_neg hs0] : _ = _)
        have HK2 : Hid (Calls _ _ _ _ _) := HKf.out w2 b2 (HHB.out.goes HG2.out) HD2.out
        generalize hField s1 l s.lineAt = Y at *
        clear HKs HKh HKf h0 hs0 HM HE
        go_wp2_with fail
        refine HK2.out.mono ?_
        rintro e w3 ⟨rfl, b3, hd3, hg3⟩
        have HD3 : Hid (HdS T ex w3 D Y.1 b3) := hd3
        have HG3 : Hid (Goes bs w b3 w3) := HG2.out.trans hg3
        clear hd3 hg3
        go_wp2
        go_ret
        rw [HQ.out]
        exact ⟨rfl, b3, HD3.out, HG3.out⟩
end Ms
end Go.Proofs.YtdcfhnbagldilaaGreatDoor
set_option linter.unusedVariables false
set_option linter.unusedSimpArgs false
set_option maxRecDepth 100000
namespace Go.Proofs.YtdcfhnbagldilaaGreatDoor
open Go.RowKit Go.Shelf
namespace Ms
open Oc Tg _root_.Go.Proofs.YtdcfhnbagldilaaGreatDoor.Fd _root_.Go.Proofs.YtdcfhnbagldilaaGreatDoor.Ck
theorem wp_appB {ops : Array Oper} {rest : List Oper} {o : Oper} {a : Act} {Q : Exit → Act → World → Prop} (hgd : o.guard = none) (s t : Operand)
    (ho : o.op = .call { callee := .builtin .append, args := #[s, t], argTypes := #[53, 53] }) (v : Value) (l : List UInt8) (W : World) (c : Int) (u : UInt8) (hc : c = (u.toNat : Int))
    (hs : a.eval s = v) (hown : Own 0 v l W) (hx : a.eval t = .slice (some ⟨W.heap.size, 0, none⟩) 1 1) (hlen : l.length ≤ 4000000000)
    (h : ∀ g cp w', Hid (Own 0 (.slice (some ⟨g, 0, none⟩) (l.length + 1) cp) (l ++ [u]) w') → Hid (But v.ownBlock.toList W w') → Hid (v.ownBlock = some g ∨ W.heap.size ≤ g) → wpList Tryz.prog ops Q rest (a.put o.dst (.slice (some ⟨g, 0, none⟩) (l.length + 1) cp)) w') :
    wpList Tryz.prog ops Q (o :: rest) a (W.alloc (.cells #[.int .u8 c] 5)) := by
  obtain ⟨i0, hi, hz0, hz1, hz2⟩ := info5
  subst hc
  refine wpList_append_own_at _ hgd s t 53 ho 0 5 i0 (.int .u8 0) 1 1 Tryz.underlying53 hi hz0 hz1 hz2 rfl (by decide) v l.length _ hs (World.ownsRow.alloc hown _) ⟨W.heap.size, 0, none⟩ 1 1 [.int .u8 (u.toNat : Int)] hx rfl (cell_one_new _ _ _) ?_ ?_ ?_ (by omega) ?_
  · intro y hy
    simp at hy
    subst hy
    rfl
  · unfold maxLen; omega
  · omega
  · intro v' w' h2 h3 h4 h5
    have ho' : Own 0 v' (l ++ [u]) w' := own_snoc h2
    obtain ⟨b, cp, rfl, hle, _, hb⟩ := own_form ho'
    obtain ⟨g, rfl⟩ : ∃ g, b = some ⟨g, 0, none⟩ := by
      rcases hb with ⟨_, h0⟩ | hb
      · rw [h0, List.length_append, List.length_singleton] at hle
        omega
      · exact hb
    have hl1 : (l ++ [u]).length = l.length + 1 := by simp
    rw [hl1] at ho' h5 ⊢
    refine h g cp w' ho' (((But.refl _ W).alloc _).grown h3 (fun k hk => by rw [hk]; simp)) ?_
    rcases h5 with e | e
    · exact .inl e.symm
    · refine .inr ?_
      have e2 : some g = some (W.alloc (.cells #[.int .u8 (u.toNat : Int)] 5)).heap.size := e
      injection e2 with e2
      rw [e2]
      simp
theorem IsH.puts {T : Nat} {ex : List Value} {w w6 : World} {D g m cp : Nat} {s : HS} {vl vf : Value} {l' : List UInt8} (hT : TOk T) (H : IsH T ex w D s vl vf) (ho : Own 0 (.slice (some ⟨g, 0, none⟩) m cp) l' w6) (hb : But vl.ownBlock.toList w w6) (hg : vl.ownBlock = some g ∨ w.heap.size ≤ g) :
    IsH T ex (w6.setCell ⟨D, 4, none⟩ (.slice (some ⟨g, 0, none⟩) m cp)) D { s with line := l' } (.slice (some ⟨g, 0, none⟩) m cp) vf ∧ Goes (ftH D vl vf) w (ftH D (.slice (some ⟨g, 0, none⟩) m cp) vf) (w6.setCell ⟨D, 4, none⟩ (.slice (some ⟨g, 0, none⟩) m cp)) := by
  have hD6 : Blk T w6 D (lcH s vl vf ex) := H.str.but hb (fun e => by
    simp at e
    exact H.str.ne H.line hT.1 e rfl)
  have hA := hD6.set 4 (.slice (some ⟨g, 0, none⟩) m cp)
  have hb2 := setD (But.refl [D] w6) 4 (.slice (some ⟨g, 0, none⟩) m cp)
  have hf6 : OwnF 47 0 vf s.fs w6 := hb.owns H.fs (fun k hk e => ne_rows H.fs H.line (by decide) hk (by simpa using e))
  refine ⟨⟨hA, hD6.keep ho hT.1 hb2, hD6.keep hf6 hT.2 hb2⟩, goesH ?_ ?_ (fun k h => .inl h)⟩
  · exact (hb.mono (fun x hx => by simp at hx; simp [ftH, hx])).trans (ftHd hb2 _ _)
  · intro k hk
    have e : g = k := by simpa [Value.ownBlock] using hk
    subst e
    exact hg
def hTake (s : HS) (u : UInt8) (a : Nat) : HS × Int :=
  if a = 65536 then ({ s with wrong := (a : Int) }, 125)
  else if backB s.line ≠ decide (u = 10) then ({ s with wrong := (a : Int) }, 122)
  else if u = 10 then hEnd s
  else if s.lineAt = 0 ∧ gonI a (u.toNat : Int) = false then ({ s with wrong := (a : Int) }, 122)
  else ({ s with line := s.line ++ [u] }, 0)
set_option maxHeartbeats 4000000 in
theorem takeHead_any {T : Nat} (hT : TOk T) {ex : List Value} {w0 w : World} {D : Nat} {s : HS} {bs : List Nat} (HB : Base w0 w bs) (H : HdS T ex w D s bs) (u : UInt8) (a : Nat) (ha : a ≤ 4000000000) (h13 : s.lineAt = 0 → backB s.line = true → 14 ≤ s.line.length) (hl : s.line.length ≤ 3000000000) (hla : s.lineAt ≤ 4000000000) (hfs : s.fs.length ≤ 100) (hS : sumF s.fs ≤ 1048576) :
    Calls Tryz.prog 26 #[.pointer (some ⟨D, 0, none⟩), .int .u8 (u.toNat : Int), .int .i64 (a : Int)] w fun e w' => e = .returned (.int .i64 (hTake s u a).2) ∧ ∃ bs', HdS T ex w' D (hTake s u a).1 bs' ∧ Goes bs w bs' w' := by
  have HHB : Hid (Base w0 w bs) := HB
  have HTT : Hid (TOk T) := hT
  obtain ⟨vl, vf, HI, hbs⟩ := H
  obtain ⟨va, c, rfl, hac, hcm, hva⟩ := own_form HI.line
  have HBS : Hid (bs = ftH D (.slice va s.line.length c) vf) := hbs
  have hb1 : Below w.heap.size w (w.alloc (.cells #[.int .u8 13] 5)) := (Below.refl _ w).alloc (Nat.le_refl _) _
  have HI1 : Hid (IsH T ex (w.alloc (.cells #[.int .u8 13] 5)) D s (.slice va s.line.length c) vf) := HI.below hb1
  have HG1 : Hid (Goes bs w bs (w.alloc (.cells #[.int .u8 13] 5))) := Goes.below hb1
  have HHs : Hid (Calls Tryz.prog 63 #[.slice va s.line.length c, .slice (some ⟨w.heap.size, 0, none⟩) 1 1] (w.alloc (.cells #[.int .u8 13] 5)) fun e w' => e = .returned (.bool (backB s.line)) ∧ w' = w.alloc (.cells #[.int .u8 13] 5)) := HasSuffix_one _ s.line w.heap.size _ (by omega) HI1.out.line (by simp)
  have c4 : w.cell? ⟨D, 4, none⟩ = some (.slice va s.line.length c) := HI.str.cell 4 rfl
  have HE : Hid (hTake s u a = if a = 65536 then ({ s with wrong := (a : Int) }, 125) else if backB s.line ≠ decide (u = 10) then ({ s with wrong := (a : Int) }, 122) else if u = 10 then hEnd s else if s.lineAt = 0 ∧ gonI a (u.toNat : Int) = false then ({ s with wrong := (a : Int) }, 122) else ({ s with line := s.line ++ [u] }, 0)) := rfl
  have hult := u.toNat_lt
  have hu0 : (0 : Int) ≤ (u.toNat : Int) := by omega
  have hu1 : (u.toNat : Int) < 256 := by omega
  have hu10 : ((u.toNat : Int) == 10) = decide (u = 10) := by
    by_cases h : u = 10
    · subst h; rfl
    · rw [decide_eq_false h, beq_eq_false_iff_ne]
      intro e
      exact h (UInt8.toNat_inj.1 (by show u.toNat = 10; omega))
  have HGo : Hid (∀ W, Calls Tryz.prog 66 #[.int .i64 (a : Int), .int .u8 (u.toNat : Int)] W fun e w' => e = .returned (.bool (gonI a (u.toNat : Int))) ∧ Below (World.heap W).size W w') := fun W => goesOn_any a ha (u.toNat : Int) hu0 hu1 W
  have HEn : Hid (∀ W b1, Base w0 W b1 → HdS T ex W D s b1 → backB s.line = true → Calls Tryz.prog 65 #[.pointer (some ⟨D, 0, none⟩)] W fun e w' => e = .returned (.int .i64 (hEnd s).2) ∧ ∃ bs', HdS T ex w' D (hEnd s).1 bs' ∧ Goes b1 W bs' w') := fun W b1 hb h hbk => endLine_any hT hb h (fun e => by rw [e] at hbk; cases hbk) (fun h0 => h13 h0 hbk) (by omega) hla hfs hS
  unfold maxLen at hcm
  generalize hTake s u a = R at *
  generalize hEnd s = Y at *
  generalize gonI a (u.toNat : Int) = G at *
  obtain ⟨x, hx⟩ : ∃ x, x = (u.toNat : Int) := ⟨_, rfl⟩
  rw [← hx] at HGo hu0 hu1 hu10 ⊢
  have HX : Hid (x = (u.toNat : Int)) := hx
  generalize hbk : backB s.line = bk at *
  clear HI hbs hT HB hb1 hx hult hva hbk h13
  go_enter Tryz.func26, Tryz.ntmps26
  go_wp2_with fail
  refine HHs.out.mono ?_
  rintro e w1' ⟨rfl, hw1'⟩
  rw [hw1']
  obtain ⟨w1, hw1⟩ : ∃ w1, w1 = w.alloc (.cells #[.int .u8 13] 5) := ⟨_, rfl⟩
  rw [← hw1] at HI1 HG1 ⊢
  clear hw1' hw1 HHs c4
  have HD1 : Hid (HdS T ex w1 D s bs) := ⟨_, _, HI1.out, HBS.out⟩
  have HRf : Hid (∀ z : Int, Calls Tryz.prog 64 #[.pointer (some ⟨D, 0, none⟩), .int .i64 (a : Int), .int .i64 z] w1 fun x w' => x = .returned (.int .i64 z) ∧ HdS T ex w' D { s with wrong := (a : Int) } bs ∧ Goes bs w1 bs w') := fun z => HD1.out.refuse HTT.out _ _
  by_cases ha1 : a = 65536
  · have haq : ((a : Int) == 65536) = true := by rw [ha1]; rfl
    have HQ : Hid (R = ({ s with wrong := (a : Int) }, 125)) := (by rw [HE.out, if_pos ha1] : _ = _)
    clear ha1
    go_wp2_with fail
    refine (HRf.out 125).mono ?_
    rintro e w2 ⟨rfl, hd2, hg2⟩
    have HD2 : Hid (HdS T ex w2 D { s with wrong := (a : Int) } bs) := hd2
    have HG2 : Hid (Goes bs w bs w2) := HG1.out.trans hg2
    clear hd2 hg2
    go_wp2
    go_ret
    rw [HQ.out]
    exact ⟨rfl, bs, HD2.out, HG2.out⟩
  have haq : ((a : Int) == 65536) = false := by simp; omega
  have HE2 : Hid (R = _) := HE.out.trans (if_neg ha1)
  clear HE ha1
  by_cases hbu : bk = decide (u = 10)
  · have hbq : (bk != decide (u = 10)) = false := by rw [hbu]; simp
    have HE3 : Hid (R = _) := HE2.out.trans (if_neg (fun h => h hbu))
    clear HE2
    by_cases h10 : u = 10
    · have hd : decide (u = 10) = true := decide_eq_true h10
      rw [hd] at hu10 hbu hbq
      have HQ : Hid (R = Y) := HE3.out.trans (if_pos h10)
      subst hbu
      have HEn2 : Hid (Calls _ _ _ _ _) := HEn.out w1 bs (HHB.out.goes HG1.out) HD1.out rfl
      clear HE3 h10 hd HEn HRf HGo
      go_wp2_with fail
      refine HEn2.out.mono ?_
      rintro e w2 ⟨rfl, b2, hd2, hg2⟩
      have HD2 : Hid (HdS T ex w2 D Y.1 b2) := hd2
      have HG2 : Hid (Goes bs w b2 w2) := HG1.out.trans hg2
      clear hd2 hg2
      go_wp2
      go_ret
      rw [HQ.out]
      exact ⟨rfl, b2, HD2.out, HG2.out⟩
    have hd : decide (u = 10) = false := decide_eq_false h10
    rw [hd] at hu10 hbu hbq
    have HE4 : Hid (R = _) := HE3.out.trans (if_neg h10)
    subst hbu
    clear HE3 h10 hd HEn
    have c4 : w1.cell? ⟨D, 4, none⟩ = some (.slice va s.line.length c) := HI1.out.str.cell 4 rfl
    have c5 : w1.cell? ⟨D, 5, none⟩ = some (.int .i64 (s.lineAt : Int)) := HI1.out.str.cell 5 rfl
    by_cases h0 : s.lineAt = 0
    · have h0' : ((s.lineAt : Int) == 0) = true := by rw [h0]; rfl
      cases G with
      | false =>
        have HQ : Hid (R = ({ s with wrong := (a : Int) }, 122)) := HE4.out.trans (if_pos ⟨h0, rfl⟩)
        clear h0 HE4
        go_wp2_with fail
        refine (HGo.out _).mono ?_
        rintro e w2 ⟨rfl, hb2⟩
        have HRf2 : Hid (Calls _ _ _ _ _) := (HD1.out.below hb2).refuse HTT.out (a : Int) 122
        have HG2 : Hid (Goes bs w bs w2) := HG1.out.trans (Goes.below hb2)
        clear hb2
        go_wp2_with fail
        refine HRf2.out.mono ?_
        rintro e w3 ⟨rfl, hd3, hg3⟩
        have HD3 : Hid (HdS T ex w3 D { s with wrong := (a : Int) } bs) := hd3
        have HG3 : Hid (Goes bs w bs w3) := HG2.out.trans hg3
        clear hd3 hg3
        go_wp2
        go_ret
        rw [HQ.out]
        exact ⟨rfl, bs, HD3.out, HG3.out⟩
      | true =>
        have HQ : Hid (R = ({ s with line := s.line ++ [u] }, 0)) := HE4.out.trans (if_neg (fun h => by cases h.2))
        clear h0 HE4 HRf
        go_wp2_with fail
        refine (HGo.out _).mono ?_
        rintro e w2 ⟨rfl, hb2⟩
        have HI2 : Hid (IsH T ex w2 D s (.slice va s.line.length c) vf) := HI1.out.below hb2
        have HG2 : Hid (Goes bs w bs w2) := HG1.out.trans (Goes.below hb2)
        clear hb2 c4 c5
        have c4 : w2.cell? ⟨D, 4, none⟩ = some (.slice va s.line.length c) := HI2.out.str.cell 4 rfl
        generalize hm : s.line.length = m at *
        have HMM : Hid (s.line.length = m) := hm
        clear hm
        go_wp2_with (at_builtin; go_must (refine wp_appB rfl (.tmp 52) (.tmp 54) rfl (.slice va m c) s.line w2 x u HX.out (by simp [Act.eval, Act.put]) HI2.out.line (by simp [Act.eval, Act.put]) (by have := HMM.out; omega) ?_); intro g6 c6' w6 ho6 hb6 hg6; rw [HMM.out]; have S6 : Hid (Blk T w6 D _) := HI2.out.str.but hb6.out (fun e => HI2.out.str.ne HI2.out.line HTT.out.1 (by simpa using e) rfl); have e4 := S6.out.cell 4 rfl; have ef := S6.out.free 4)
        have P := IsH.puts HTT.out HI2.out (l' := s.line ++ [u]) (m := m + 1) (by have := ho6.out; rw [HMM.out] at this; exact this) hb6.out hg6.out
        obtain ⟨w7, hw7⟩ : ∃ w7, w7 = w6.setCell ⟨D, 4, none⟩ (.slice (some ⟨g6, 0, none⟩) (m + 1) c6') := ⟨_, rfl⟩
        rw [← hw7] at P ⊢
        clear hw7
        have HIF : Hid (IsH T ex w7 D { s with line := s.line ++ [u] } (.slice (some ⟨g6, 0, none⟩) (m + 1) c6') vf) := P.1
        have HGF : Hid (Goes bs w (ftH D (.slice (some ⟨g6, 0, none⟩) (m + 1) c6') vf) w7) := by
          have h2 := HG2.out
          rw [HBS.out] at h2 ⊢
          exact h2.trans P.2
        clear P ho6 hb6 hg6 S6 e4 ef
        go_ret
        rw [HQ.out]
        exact ⟨rfl, _, ⟨_, _, HIF.out, rfl⟩, HGF.out⟩
    · have h0' : ((s.lineAt : Int) == 0) = false := by simp [h0]
      have HQ : Hid (R = ({ s with line := s.line ++ [u] }, 0)) := HE4.out.trans (if_neg (fun h => h0 h.1))
      clear h0 HE4 HRf
      generalize hm : s.line.length = m at *
      have HMM : Hid (s.line.length = m) := hm
      clear hm
      go_wp2_with (at_builtin; go_must (refine wp_appB rfl (.tmp 52) (.tmp 54) rfl (.slice va m c) s.line w1 x u HX.out (by simp [Act.eval, Act.put]) HI1.out.line (by simp [Act.eval, Act.put]) (by have := HMM.out; omega) ?_); intro g6 c6' w6 ho6 hb6 hg6; rw [HMM.out]; have S6 : Hid (Blk T w6 D _) := HI1.out.str.but hb6.out (fun e => HI1.out.str.ne HI1.out.line HTT.out.1 (by simpa using e) rfl); have e4 := S6.out.cell 4 rfl; have ef := S6.out.free 4)
      have P := IsH.puts HTT.out HI1.out (l' := s.line ++ [u]) (m := m + 1) (by have := ho6.out; rw [HMM.out] at this; exact this) hb6.out hg6.out
      obtain ⟨w7, hw7⟩ : ∃ w7, w7 = w6.setCell ⟨D, 4, none⟩ (.slice (some ⟨g6, 0, none⟩) (m + 1) c6') := ⟨_, rfl⟩
      rw [← hw7] at P ⊢
      clear hw7
      have HIF : Hid (IsH T ex w7 D { s with line := s.line ++ [u] } (.slice (some ⟨g6, 0, none⟩) (m + 1) c6') vf) := P.1
      have HGF : Hid (Goes bs w (ftH D (.slice (some ⟨g6, 0, none⟩) (m + 1) c6') vf) w7) := by
        have h2 := HG1.out
        rw [HBS.out] at h2 ⊢
        exact h2.trans P.2
      clear P ho6 hb6 hg6 S6 e4 ef
      go_ret
      rw [HQ.out]
      exact ⟨rfl, _, ⟨_, _, HIF.out, rfl⟩, HGF.out⟩
  · have HQ : Hid (R = ({ s with wrong := (a : Int) }, 122)) := HE2.out.trans (if_pos hbu)
    clear HE2
    by_cases h10 : u = 10
    · rw [decide_eq_true h10] at hu10 hbu
      have hbf : bk = false := by simpa using hbu
      subst hbf
      clear hbu h10
      go_wp2_with fail
      refine (HRf.out 122).mono ?_
      rintro e w2 ⟨rfl, hd2, hg2⟩
      have HD2 : Hid (HdS T ex w2 D { s with wrong := (a : Int) } bs) := hd2
      have HG2 : Hid (Goes bs w bs w2) := HG1.out.trans hg2
      clear hd2 hg2
      go_wp2
      go_ret
      rw [HQ.out]
      exact ⟨rfl, bs, HD2.out, HG2.out⟩
    · rw [decide_eq_false h10] at hu10 hbu
      have hbf : bk = true := by simpa using hbu
      subst hbf
      clear hbu h10
      go_wp2_with fail
      refine (HRf.out 122).mono ?_
      rintro e w2 ⟨rfl, hd2, hg2⟩
      have HD2 : Hid (HdS T ex w2 D { s with wrong := (a : Int) } bs) := hd2
      have HG2 : Hid (Goes bs w bs w2) := HG1.out.trans hg2
      clear hd2 hg2
      go_wp2
      go_ret
      rw [HQ.out]
      exact ⟨rfl, bs, HD2.out, HG2.out⟩
end Ms
end Go.Proofs.YtdcfhnbagldilaaGreatDoor
