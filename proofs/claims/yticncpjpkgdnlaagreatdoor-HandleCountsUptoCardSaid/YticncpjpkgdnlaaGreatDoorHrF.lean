/-
  handle: Refer.
-/
import Derived.Test.YticncpjpkgdnlaaGreatDoorHrD
import Derived.Test.YticncpjpkgdnlaaGreatDoorHrE
import Derived.Test.YticncpjpkgdnlaaGreatDoorFBd
import Derived.Test.YticncpjpkgdnlaaGreatDoorMgB
import Derived.Lib.OthersKept
set_option linter.unusedVariables false
set_option linter.unusedSimpArgs false
set_option maxRecDepth 100000
namespace Go.Proofs.YticncpjpkgdnlaaGreatDoor
open Go.RowKit Go.Shelf
namespace Hn
open Oc _root_.Go.Proofs.YticncpjpkgdnlaaGreatDoor.Fd

theorem bd_iterAt {B b : Nat} {l : List Value} {w : World} (h : Bd B b l w) {k : Nat} {s : ByteArray} {pos : Nat} (hk : w.heap[k]? = some (.stringIter s pos)) (pos' : Nat) : Bd B b l (w.iterAt k s pos') := by
  have one : ∀ p, BdAt B b p l w → BdAt B b p l (w.iterAt k s pos') := by
    intro p h
    obtain ⟨v, hb, o, n⟩ := h
    have hkb : b ≠ k := by
      intro e1
      rw [e1, hk] at hb
      cases hb
    refine ⟨v, (Lib.iterAt_other w k b s pos' hkb).trans hb, ⟨o.1, o.2.imp id fun ⟨g, c, cur, e, hg, hh, r⟩ => ⟨g, c, cur, e, hg, ?_, r⟩⟩, n⟩
    have hkg : g ≠ k := by
      intro e1
      rw [e1, hk] at hh
      cases hh
    exact (Lib.iterAt_other w k g s pos' hkg).trans hh
  exact h.imp (one _) (one _)

/-- The world in the loop: the builder, the iterator. -/
structure WlR (s : ByteArray) (n b : Nat) (w0 wr : World) (pos : Nat) (acc : List UInt8) : Prop where
  bd : Bd (b + 2) b (Lib.byteCells acc) wr
  it : wr.heap[b + 1]? = some (.stringIter s pos)
  bel : Below n w0 wr
  hn : n ≤ b
theorem WlR.size {s : ByteArray} {n b : Nat} {w0 wr : World} {pos : Nat} {acc : List UInt8} (h : WlR s n b w0 wr pos acc) : b + 2 ≤ wr.heap.size := (Array.getElem?_eq_some_iff.1 h.it).1
theorem WlR.next {s : ByteArray} {n b : Nat} {w0 wr : World} {pos : Nat} {acc : List UInt8} (h : WlR s n b w0 wr pos acc) (p2 : Nat) : WlR s n b w0 (wr.iterAt (b + 1) s p2) p2 acc :=
  ⟨bd_iterAt h.bd h.it p2, Lib.iterAt_heap wr (b + 1) s pos p2 h.it, Lib.below_iterAt h.bel (by have := h.hn; omega) s p2, h.hn⟩
theorem WlR.below {s : ByteArray} {n b : Nat} {w0 wr w' : World} {pos : Nat} {acc : List UInt8} (h : WlR s n b w0 wr pos acc) (hb : Below wr.heap.size wr w') : WlR s n b w0 w' pos acc :=
  ⟨h.bd.below hb, (hb.block _ (by have := h.size; omega)).trans h.it, h.bel.trans (hb.mono (by have := h.size; have := h.hn; omega)), h.hn⟩
theorem WlR.write {s : ByteArray} {n b : Nat} {w0 wr w' : World} {pos : Nat} {acc acc' : List UInt8} (h : WlR s n b w0 wr pos acc) (hf : Fr (b + 2) b wr w') (hd : Bd (b + 2) b (Lib.byteCells acc') w') : WlR s n b w0 w' pos acc' :=
  ⟨hd, (hf.block _ (by omega) (by omega)).trans h.it, h.bel.trans (hf.below (by have := h.hn; omega) h.hn), h.hn⟩
theorem WlR.at {s : ByteArray} {n b : Nat} {w0 wr : World} {pos : Nat} {acc : List UInt8} (h : WlR s n b w0 wr pos acc) : wr.iterPos (b + 1) = pos := by
  unfold World.iterPos
  rw [h.it]
theorem bd_write {B b : Nat} {acc : List UInt8} {P : ByteArray} {w : World} (h : Bd B b (Lib.byteCells acc ++ Lib.strCells P) w) : Bd B b (Lib.byteCells (acc ++ P.data.toList)) w := by
  have e := cells_str P.data.toList
  rw [str_self] at e
  rw [cells_app, ← e]
  exact h
/-- How it stands, plainly. -/
structure PlR (ps : List PrA) (l : List UInt8) (R : Option (List UInt8)) (pos fr : Nat) (nm : Bool) (acc : List UInt8) : Prop where
  eq : R = stR ps nm acc (sub l fr pos) (l.drop pos)
  len : acc.length + (pos - fr) ≤ pos * 1048577
  fp : fr ≤ pos
  le : pos ≤ l.length
theorem PlR.open {ps : List PrA} {l : List UInt8} {R : Option (List UInt8)} {pos fr : Nat} {acc : List UInt8} (h : PlR ps l R pos fr false acc) (hp : pos < l.length) (hu : l.getD pos 0 = 123) : PlR ps l R (pos + 1) (pos + 1) true (acc ++ sub l fr pos) := by
  refine ⟨?_, ?_, Nat.le_refl _, hp⟩
  · rw [h.eq, drop_one l pos hp, hu, stR_open, sub_self]
  · have := h.len
    rw [List.length_append, sub_len l fr pos h.le]
    omega
theorem PlR.shut {ps : List PrA} {l : List UInt8} {R : Option (List UInt8)} {pos fr : Nat} {acc : List UInt8} (h : PlR ps l R pos fr true acc) (hp : pos < l.length) (hu : l.getD pos 0 = 125) (hn : isNm (sub l fr pos) = true) (hv : (valA ps (sub l fr pos)).length ≤ 1048576) : PlR ps l R (pos + 1) (pos + 1) false (acc ++ valA ps (sub l fr pos)) := by
  refine ⟨?_, ?_, Nat.le_refl _, hp⟩
  · rw [h.eq, drop_one l pos hp, hu, stR_shut _ _ _ _ hn, sub_self]
  · have := h.len
    rw [List.length_append]
    omega
theorem PlR.bad {ps : List PrA} {l : List UInt8} {R : Option (List UInt8)} {pos fr : Nat} {acc : List UInt8} (h : PlR ps l R pos fr true acc) (hp : pos < l.length) (hu : l.getD pos 0 = 125) (hn : isNm (sub l fr pos) = false) : R = none := by
  rw [h.eq, drop_one l pos hp, hu, stR_bad _ _ _ _ hn]
theorem PlR.bad2 {ps : List PrA} {l : List UInt8} {R : Option (List UInt8)} {pos fr : Nat} {acc : List UInt8} (h : PlR ps l R pos fr false acc) (hp : pos < l.length) (hu : l.getD pos 0 = 125) : R = none := by
  rw [h.eq, drop_one l pos hp, hu, stR_bad2]
theorem PlR.on {ps : List PrA} {s : ByteArray} {R : Option (List UInt8)} {pos fr c wd : Nat} {nm : Bool} {acc : List UInt8} (h : PlR ps s.data.toList R pos fr nm acc) (hp : pos < s.data.toList.length) (hd : Utf8.decode s pos = (c, wd))
    (hc : ((s.data.toList.getD pos 0).toNat < 128 ∧ c = (s.data.toList.getD pos 0).toNat ∧ wd = 1) ∨ (128 ≤ (s.data.toList.getD pos 0).toNat ∧ 128 ≤ c)) (h1 : c ≠ 125) (h2 : nm = false → c ≠ 123) : PlR ps s.data.toList R (pos + wd) fr nm acc := by
  have hsz : s.data.toList.length = s.size := size_list s
  rcases hc with ⟨a1, a2, a3⟩ | ⟨a1, a2⟩
  · subst a3
    have n1 : s.data.toList.getD pos 0 ≠ 125 := fun e => h1 (by rw [a2, e]; rfl)
    have n2 : nm = false → s.data.toList.getD pos 0 ≠ 123 := fun q e => h2 q (by rw [a2, e]; rfl)
    refine ⟨?_, ?_, by have := h.fp; omega, hp⟩
    · rw [h.eq, drop_one _ pos hp, stR_on _ _ _ _ _ _ n1 n2, sub_one _ fr pos h.fp hp]
    · have := h.len
      have := h.fp
      omega
  · have hw := dec_wide s pos (by omega) a1
    have ht := dec_take s pos (by omega) a1
    rw [hd] at hw ht
    dsimp only at hw ht
    refine ⟨?_, ?_, by have := h.fp; omega, by omega⟩
    · rw [h.eq, drop_w _ pos wd, stR_high _ _ _ _ _ _ ht, sub_on _ fr pos wd h.fp h.le]
    · have := h.len
      have := h.fp
      have : 1048577 * (pos + wd) = 1048577 * pos + 1048577 * wd := Nat.mul_add _ _ _
      omega

theorem valA_len {ps : List PrA} (hM : ∀ p ∈ ps, p.2.1.length ≤ 1048576) (n : List UInt8) : (valA ps n).length ≤ 1048576 := by
  unfold valA
  split
  · rename_i p hp
    exact hM p (List.mem_of_find?_eq_some hp)
  · simp

set_option maxHeartbeats 4000000 in
theorem Refer_any (s : ByteArray) (hs : s.size ≤ 1048576) (v : Value) (ps : List PrA) (hM : ∀ p ∈ ps, p.2.1.length ≤ 1048576) (hl : ps.length ≤ 4294967296) (w : World) (hrd : RdA v ps w) :
    Calls Tryz.prog 42 #[.string s, v] w fun e w' => e = .returned (.tuple #[.string (str (refR ps s.data.toList).1), .int .i64 (refR ps s.data.toList).2]) ∧ Below w.heap.size w w' := by
  have hsz : s.data.toList.length = s.size := size_list s
  have HIf : Hid (∀ W, Calls _ _ _ W _) := fun W => IsField_any s (by unfold maxLen; omega) W
  have HTr : Hid (∀ W, Calls _ _ _ W _) := fun W => Trim_any s (by unfold maxLen; omega) W
  have HNm : Hid (∀ (P : ByteArray) W, P.size ≤ 1048576 → Calls Tryz.prog 51 #[.string P] W fun e w' => e = .returned (.bool (isNm P.data.toList)) ∧ Below W.heap.size W w') := fun P W h => isName_any P (by unfold maxLen; omega) W
  have HVl : Hid (∀ (P : ByteArray) W, Below w.heap.size w W → Calls Tryz.prog 78 #[v, .string P] W fun e w' => e = .returned (.string (str (valA ps P.data.toList))) ∧ Below W.heap.size W w') := fun P W h => by
    have := valueOf_any v ps P.data.toList hl W (hrd.below h)
    rw [str_self] at this
    exact this
  have HVL : Hid (∀ n, (valA ps n).length ≤ 1048576) := valA_len hM
  have HWr : Hid (∀ (b : Nat) (acc : List UInt8) (P : ByteArray) W, Bd (b + 2) b (Lib.byteCells acc) W → acc.length + P.size ≤ 140737488355328 → b + 2 ≤ W.heap.size → Calls Tryz.prog 44 #[.pointer (some ⟨b, 0, none⟩), .string P] W fun e w' => e = .returned (.tuple #[.int .i64 P.size, .nilIface]) ∧ Bd (b + 2) b (Lib.byteCells (acc ++ P.data.toList)) w' ∧ Fr (b + 2) b W w') := fun b acc P W h1 h2 h3 =>
    (WriteString_bd (b + 2) b _ P W h1 (by rw [_root_.Go.Proofs.YticncpjpkgdnlaaGreatDoor.Fd.cells_len]; exact h2) h3).mono (fun e w' h => ⟨h.1, bd_write h.2.1, h.2.2⟩)
  have HSt : Hid (∀ (b : Nat) (acc : List UInt8) W, Bd (b + 2) b (Lib.byteCells acc) W → b + 2 ≤ W.heap.size → Calls Tryz.prog 46 #[.pointer (some ⟨b, 0, none⟩)] W fun e w' => e = .returned (.string (str acc)) ∧ Below b W w') := fun b acc W h1 h2 =>
    (String_bd (b + 2) b acc W h1 h2).mono (fun e w' h => ⟨h.1, h.2.1.mono (by omega)⟩)
  have HBad : Hid ((s.data.toList = [] ∨ isFld s.data.toList = false ∨ trim s.data.toList ≠ s.data.toList) → refR ps s.data.toList = ([], 180)) := fun h => if_pos h
  obtain ⟨R, hR⟩ : ∃ R, R = refG ps none s.data.toList := ⟨_, rfl⟩
  have HNo : Hid (R = none → refR ps s.data.toList = ([], 180)) := fun h => by
    unfold refR
    split
    · rfl
    · rw [← hR, h]
  have HOk : Hid (∀ x, R = some x → ¬ (s.data.toList = [] ∨ isFld s.data.toList = false ∨ trim s.data.toList ≠ s.data.toList) → refR ps s.data.toList = (x, 0)) := fun x h hn => by
    unfold refR
    rw [if_neg hn, ← hR, h]
  have HP0 : Hid (PlR ps s.data.toList R 0 0 false []) := by
    refine ⟨?_, by simp, Nat.le_refl _, Nat.zero_le _⟩
    rw [sub_self, hR]
    show _ = (refG ps none (List.drop 0 s.data.toList)).map _
    rw [List.drop_zero]
    simp
  have HTs : Hid ((str (trim s.data.toList)).toList == s.toList) = Hid (decide (trim s.data.toList = s.data.toList) = true) ∨ True := .inr trivial
  have HTq : Hid (((str (trim s.data.toList)).toList == s.toList) = decide (trim s.data.toList = s.data.toList)) := by
    have := veqA (trim s.data.toList) s.data.toList
    rw [str_self] at this
    exact this
  have HTn : Hid (((str (trim s.data.toList)).toList != s.toList) = !decide (trim s.data.toList = s.data.toList)) := by
    show (!((str (trim s.data.toList)).toList == s.toList)) = _
    rw [HTq.out]
  generalize refR ps s.data.toList = Y at *
  clear hR HTs hrd hM
  by_cases hz : s.size = 0
  · have he := empty_of hz
    have HF : Hid (Y = ([], 180)) := HBad.out (.inl (List.length_eq_zero_iff.1 (hsz.trans hz)))
    clear HIf HTr HNm HVl HWr HSt HTq HTn HP0
    go_enter Tryz.func42, Tryz.ntmps42
    go_wp2
    go_ret2
    exact ⟨by rw [HF.out]; rfl, Below.refl _ _⟩
  have he := nonempty_of hz
  have HNe : Hid (s.data.toList ≠ []) := list_ne hz
  generalize hTS : str (trim s.data.toList) = TS at *
  clear hTS
  go_enter Tryz.func42, Tryz.ntmps42
  go_wp2_with fail
  refine (HIf.out _).mono ?_
  rintro e w1 ⟨rfl, hb1⟩
  have HB1 : Hid (Below w.heap.size w w1) := hb1
  clear hb1
  by_cases hfld : isFld s.data.toList = true
  case neg =>
    have hfld : isFld s.data.toList = false := by simpa using hfld
    have HF : Hid (Y = ([], 180)) := HBad.out (.inr (.inl hfld))
    rw [hfld]
    clear hfld
    go_wp2
    go_ret2
    exact ⟨by rw [HF.out]; rfl, HB1.out⟩
  rw [hfld]
  have HFld : Hid (isFld s.data.toList = true) := hfld
  clear hfld
  go_wp2_with fail
  refine (HTr.out _).mono ?_
  rintro e w2 ⟨rfl, hb2⟩
  have HB2 : Hid (Below w.heap.size w w2) := bel_trans HB1.out hb2
  clear hb2
  by_cases htr : trim s.data.toList = s.data.toList
  case neg =>
    have HF : Hid (Y = ([], 180)) := HBad.out (.inr (.inr htr))
    have t1 : (TS.toList == s.toList) = false := by rw [HTq.out]; exact decide_eq_false htr
    have t2 : (TS.toList != s.toList) = true := by rw [HTn.out, decide_eq_false htr]; rfl
    clear htr
    go_wp2
    go_ret2
    exact ⟨by rw [HF.out]; rfl, HB2.out⟩
  have t1 : (TS.toList == s.toList) = true := by rw [HTq.out]; exact decide_eq_true htr
  have t2 : (TS.toList != s.toList) = false := by rw [HTn.out, decide_eq_true htr]; rfl
  have HGd : Hid (¬ (s.data.toList = [] ∨ isFld s.data.toList = false ∨ trim s.data.toList ≠ s.data.toList)) := fun h => by
    rcases h with h | h | h
    · exact HNe.out h
    · rw [HFld.out] at h; cases h
    · exact h htr
  obtain ⟨b, hb⟩ : ∃ b, w2.heap.size = b := ⟨_, rfl⟩
  obtain ⟨w3, hw3⟩ : ∃ w3, w3 = (w2.alloc (.cells #[.pointer none, .slice none 0 0] 58)).iter s 0 := ⟨_, rfl⟩
  have HW3 : Hid (WlR s w.heap.size b w w3 0 []) := by
    have hb3 : b ≤ b := Nat.le_refl _
    refine ⟨?_, ?_, ?_, ?_⟩
    · have h := Bd.new w2 (b + 2)
      rw [hb] at h
      rw [hw3]
      exact h.below ((Below.refl _ _).alloc (Nat.le_refl _) _)
    · have h := World.iter_heap (w2.alloc (.cells #[.pointer none, .slice none 0 0] 58)) s 0
      rw [show (w2.alloc (.cells #[.pointer none, .slice none 0 0] 58)).heap.size = b + 1 by simp [hb]] at h
      rw [hw3]
      exact h
    · rw [hw3]
      have h2 : w.heap.size ≤ w2.heap.size := HB2.out.size
      exact (HB2.out.alloc h2 _).alloc (by simp; omega) _
    · have h2 : w.heap.size ≤ w2.heap.size := HB2.out.size
      omega
  clear HIf HTr HNe HFld HTq HTn HBad htr HB1
  go_wp2
  try rw [← hw3]
  clear hw3 t1 t2 he
  try rw [hb]
  go_loopw [7, 8] (fun fv nv wr => ∃ (pos fr : Nat) (nm : Bool) (acc : List UInt8), fv = .int .i64 fr ∧ nv = .bool nm ∧ Hid (WlR s w.heap.size b w wr pos acc) ∧ Hid (PlR ps s.data.toList R pos fr nm acc)) (fun _ _ wr => s.size - wr.iterPos (b + 1))
  case atStart => exact ⟨0, 0, false, [], rfl, rfl, HW3, HP0⟩
  case round =>
    obtain ⟨pos, fr, nm, acc, rfl, rfl, hw, hp⟩ := hrel
    have hle := hp.out.le
    have hfp := hp.out.fp
    have hln := hp.out.len
    have hat := hw.out.at
    have HMs : Hid (wr.iterPos (b + 1) = pos) := hat
    have hfr : (0 : Int) ≤ (fr : Int) := by omega
    have hfp2 : (fr : Int) ≤ (pos : Int) := by omega
    have hle2 : (pos : Int) ≤ (s.size : Int) := by omega
    have hpz : (pos : Int) ≤ 1048576 := by omega
    have HPl : Hid ((s.extract fr pos).data.toList = sub s.data.toList fr pos) := ext_sub s fr pos
    have HPs : Hid ((s.extract fr pos).size ≤ 1048576 ∧ acc.length + (s.extract fr pos).size ≤ 2000000000000) := by
      have h : (s.extract fr pos).size = pos - fr := by rw [← size_list, ext_sub, sub_len _ _ _ hle]
      rw [h]
      constructor
      · omega
      · omega
    by_cases hlt : pos < s.size
    · obtain ⟨c, wd, hdec, hw1, hc1, hcc⟩ := rune_at s pos hlt
      obtain ⟨wn, hwn⟩ : ∃ wn, wn = wr.iterAt (b + 1) s (pos + wd) := ⟨_, rfl⟩
      have hnx : ∀ ty, (Instr.next (.pointer (some ⟨b + 1, 0, none⟩)) true ty).run Tryz.prog wr = .ok (.tuple #[.bool true, .int .i64 pos, .int .i32 (c : Nat)]) wn := fun ty => by
        have h := Lib.run_next_any_at (P := Tryz.prog) wr (b + 1) s pos ty hw.out.it hlt
        rw [hdec] at h
        rw [hwn]
        exact h
      have HWn : Hid (WlR s w.heap.size b w wn (pos + wd) acc) := (by rw [hwn]; exact hw.out.next _ : WlR _ _ _ _ _ _ _)
      have HU : Hid (∀ n : Nat, n < 128 → c = n → wd = 1 ∧ (s.data.toList.getD pos 0).toNat = n) := fun n hn hcn => by
        rcases hcc with ⟨a1, a2, a3⟩ | ⟨a1, a2⟩
        · exact ⟨a3, by omega⟩
        · omega
      have HOn : Hid (c ≠ 125 → (nm = false → c ≠ 123) → PlR ps s.data.toList R (pos + wd) fr nm acc) := fun h1 h2 => hp.out.on (by omega) hdec hcc h1 h2
      have HPp : Hid (PlR ps s.data.toList R pos fr nm acc) := hp
      have HLt : Hid (pos < s.data.toList.length) := (by omega : pos < s.data.toList.length)
      have HWd : Hid (1 ≤ wd) := hw1
      clear hwn hdec hcc hp hw hat hln hw1
      by_cases h3 : c = 123
      · obtain ⟨rfl, hu⟩ := HU.out 123 (by decide) h3
        have hu2 : s.data.toList.getD pos 0 = 123 := UInt8.toNat_inj.1 hu
        have q3 : ((c : Int) == 123) = true := by simp [h3]
        have q5 : ((c : Int) == 125) = false := by simp [h3]
        cases nm with
        | false =>
          have HPo : Hid (PlR ps s.data.toList R (pos + 1) (pos + 1) true (acc ++ sub s.data.toList fr pos)) := HPp.out.open HLt.out hu2
          clear hu hu2 h3 HOn HPp
          go_wp2_with fail
          generalize hPe : s.extract fr pos = P at *
          clear hPe
          refine (HWr.out b acc P wn HWn.out.bd (by have := HPs.out.2; omega) HWn.out.size).mono ?_
          rintro e w4 ⟨rfl, hd4, hf4⟩
          have HW4 : Hid (WlR s w.heap.size b w w4 (pos + 1) (acc ++ sub s.data.toList fr pos)) := (by rw [HPl.out] at hd4; exact HWn.out.write hf4 hd4 : WlR _ _ _ _ _ _ _)
          have HM4 : Hid (w4.iterPos (b + 1) = pos + 1) := HW4.out.at
          clear hd4 hf4
          go_wp2
          go_roundw
          case rel => exact ⟨pos + 1, pos + 1, true, _, by go_num, rfl, HW4, HPo⟩
          case measure => rw [HMs.out, HM4.out]; omega
        | true =>
          have HPo : Hid (PlR ps s.data.toList R (pos + 1) fr true acc) := HOn.out (by omega) (fun h => by cases h)
          have HM4 : Hid (wn.iterPos (b + 1) = pos + 1) := HWn.out.at
          clear hu hu2 h3 HOn HPp
          go_wp2
          go_roundw
          case rel => exact ⟨pos + 1, fr, true, acc, rfl, rfl, HWn, HPo⟩
          case measure => rw [HMs.out, HM4.out]; omega
      · have q3 : ((c : Int) == 123) = false := by simp; omega
        by_cases h5 : c = 125
        · obtain ⟨rfl, hu⟩ := HU.out 125 (by decide) h5
          have hu2 : s.data.toList.getD pos 0 = 125 := UInt8.toNat_inj.1 hu
          have q5 : ((c : Int) == 125) = true := by simp [h5]
          cases nm with
          | false =>
            have HF : Hid (Y = ([], 180)) := HNo.out (HPp.out.bad2 HLt.out hu2)
            clear hu hu2 h5 HOn HPp
            go_wp2
            go_ret2
            exact ⟨by rw [HF.out]; rfl, HWn.out.bel⟩
          | true =>
            have HSh : Hid (isNm (sub s.data.toList fr pos) = true → PlR ps s.data.toList R (pos + 1) (pos + 1) false (acc ++ valA ps (sub s.data.toList fr pos))) := fun h => HPp.out.shut HLt.out hu2 h (HVL.out _)
            have HBd : Hid (isNm (sub s.data.toList fr pos) = false → Y = ([], 180)) := fun h => HNo.out (HPp.out.bad HLt.out hu2 h)
            have HLn : Hid (acc.length + (pos - fr) ≤ pos * 1048577) := HPp.out.len
            clear hu hu2 h5 HOn HPp
            go_wp2_with fail
            generalize hPe : s.extract fr pos = P at *
            clear hPe
            refine (HNm.out P wn HPs.out.1).mono ?_
            rintro e w4 ⟨rfl, hb4⟩
            have HW4 : Hid (WlR s w.heap.size b w w4 (pos + 1) acc) := HWn.out.below hb4
            clear hb4
            rw [HPl.out]
            by_cases hn : isNm (sub s.data.toList fr pos) = true
            · have HPo : Hid (PlR ps s.data.toList R (pos + 1) (pos + 1) false (acc ++ valA ps (sub s.data.toList fr pos))) := HSh.out hn
              have HVs : Hid ((str (valA ps (sub s.data.toList fr pos))).size ≤ 1048576) := (by rw [str_size]; exact HVL.out _ : _ ≤ _)
              have HVq : Hid ((str (valA ps (sub s.data.toList fr pos))).data.toList = valA ps (sub s.data.toList fr pos)) := str_list _
              rw [hn]
              clear hn HSh HBd
              go_wp2_with fail
              refine (HVl.out P w4 HW4.out.bel).mono ?_
              rintro e w5 ⟨rfl, hb5⟩
              have HW5 : Hid (WlR s w.heap.size b w w5 (pos + 1) acc) := HW4.out.below hb5
              clear hb5
              rw [HPl.out]
              generalize str (valA ps (sub s.data.toList fr pos)) = V at *
              go_wp2_with fail
              refine (HWr.out b acc V w5 HW5.out.bd (by have := HPs.out.2; have := HVs.out; omega) HW5.out.size).mono ?_
              rintro e w6 ⟨rfl, hd6, hf6⟩
              have HW6 : Hid (WlR s w.heap.size b w w6 (pos + 1) (acc ++ valA ps (sub s.data.toList fr pos))) := (by rw [HVq.out] at hd6; exact HW5.out.write hf6 hd6 : WlR _ _ _ _ _ _ _)
              have HM6 : Hid (w6.iterPos (b + 1) = pos + 1) := HW6.out.at
              clear hd6 hf6
              go_wp2
              go_roundw
              case rel => exact ⟨pos + 1, pos + 1, false, _, by go_num, rfl, HW6, HPo⟩
              case measure => rw [HMs.out, HM6.out]; omega
            · have hn : isNm (sub s.data.toList fr pos) = false := by simpa using hn
              have HF : Hid (Y = ([], 180)) := HBd.out hn
              rw [hn]
              clear hn HSh HBd
              go_wp2
              go_ret2
              exact ⟨by rw [HF.out]; rfl, HW4.out.bel⟩
        · have q5 : ((c : Int) == 125) = false := by simp; omega
          have HPo : Hid (PlR ps s.data.toList R (pos + wd) fr nm acc) := HOn.out h5 (fun _ => h3)
          have HM4 : Hid (wn.iterPos (b + 1) = pos + wd) := HWn.out.at
          clear h3 h5 HOn HPp
          go_wp2
          go_roundw
          case rel => exact ⟨pos + wd, fr, nm, acc, rfl, rfl, HWn, HPo⟩
          case measure => rw [HMs.out, HM4.out]; have := HWd.out; omega
    · have hnx : ∀ ty, (Instr.next (.pointer (some ⟨b + 1, 0, none⟩)) true ty).run Tryz.prog wr = _ := fun ty => Lib.run_next_end_at wr (b + 1) s pos ty hw.out.it hlt
      obtain rfl : pos = s.size := by omega
      have hdr : s.data.toList.drop s.size = [] := by rw [← hsz]; exact List.drop_length
      cases nm with
      | true =>
        have HF : Hid (Y = ([], 180)) := HNo.out (by rw [hp.out.eq, hdr]; rfl)
        have HBl : Hid (Below w.heap.size w wr) := hw.out.bel
        clear hdr hln hat
        go_wp2
        go_ret2
        exact ⟨by rw [HF.out]; rfl, HBl.out⟩
      | false =>
        have HF : Hid (Y = (acc ++ sub s.data.toList fr s.size, 0)) := HOk.out _ (by rw [hp.out.eq, hdr, stR_end]) HGd.out
        have HWw : Hid (WlR s w.heap.size b w wr s.size acc) := hw
        clear hdr hln hat
        go_wp2_with fail
        generalize hPe : s.extract fr s.size = P at *
        clear hPe
        refine (HWr.out b acc P wr HWw.out.bd (by have := HPs.out.2; omega) HWw.out.size).mono ?_
        rintro e w4 ⟨rfl, hd4, hf4⟩
        have HW4 : Hid (WlR s w.heap.size b w w4 s.size (acc ++ sub s.data.toList fr s.size)) := (by rw [HPl.out] at hd4; exact HWw.out.write hf4 hd4 : WlR _ _ _ _ _ _ _)
        clear hd4 hf4
        go_wp2_with fail
        refine (HSt.out b _ w4 HW4.out.bd HW4.out.size).mono ?_
        rintro e w5 ⟨rfl, hb5⟩
        have HB5 : Hid (Below w.heap.size w w5) := HW4.out.bel.trans (hb5.mono HW4.out.hn)
        clear hb5
        generalize hZ : str (acc ++ sub s.data.toList fr s.size) = Z at *
        have HZ : Hid (str (acc ++ sub s.data.toList fr s.size) = Z) := hZ
        clear hZ
        go_wp2
        go_ret2
        refine ⟨?_, HB5.out⟩
        rw [HF.out]
        dsimp only
        rw [HZ.out]
        rfl

end Hn
end Go.Proofs.YticncpjpkgdnlaaGreatDoor
