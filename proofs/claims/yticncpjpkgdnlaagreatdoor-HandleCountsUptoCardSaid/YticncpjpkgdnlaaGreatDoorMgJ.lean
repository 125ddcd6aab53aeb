/- Several texts as one. -/
import Derived.Test.YticncpjpkgdnlaaGreatDoorKoB
import Derived.Test.YticncpjpkgdnlaaGreatDoorMgD
/-
  cookie: Parse (written by mkko.py).
-/
set_option linter.unusedVariables false
set_option linter.unusedSimpArgs false
set_option maxRecDepth 100000
namespace Go.Proofs.YticncpjpkgdnlaaGreatDoor
open Go.RowKit Go.Shelf
namespace Ko
open Oc Tg _root_.Go.Proofs.YticncpjpkgdnlaaGreatDoor.Fd _root_.Go.Proofs.YticncpjpkgdnlaaGreatDoor.Ck _root_.Go.Proofs.YticncpjpkgdnlaaGreatDoor.Ms _root_.Go.Proofs.YticncpjpkgdnlaaGreatDoor.Hn

theorem split_short (b : UInt8) : ∀ l : List UInt8, (∀ z ∈ splitB b l, z.length ≤ l.length) ∧ (splitB b l).length ≤ l.length + 1
  | [] => by simp [splitB]
  | c :: t => by
    obtain ⟨h1, h2⟩ := split_short b t
    rw [splitB_cons]
    by_cases hc : (c == b) = true
    · rw [if_pos hc]
      refine ⟨fun z hz => ?_, by simp; omega⟩
      rcases List.mem_cons.1 hz with rfl | hz
      · simp
      · have := h1 z hz
        simp; omega
    · rw [if_neg hc]
      cases hs : splitB b t with
      | nil => simp
      | cons h r =>
        rw [hs] at h1 h2
        refine ⟨fun z hz => ?_, by simp at h2 ⊢; omega⟩
        rcases List.mem_cons.1 hz with rfl | hz
        · have := h1 h (by simp)
          simp; omega
        · have := h1 z (by simp [hz])
          simp; omega
theorem infoK : (Tryz.prog.info? 148).map (fun i => (i.zero, i.size, i.bytes)) = some (some (.agg #[.string ⟨#[]⟩, .string ⟨#[]⟩]), 2, 32) := by kernel_rfl
def okP (p : List UInt8) : Bool := !(trim p).isEmpty && ckR p
def fP (p : List UInt8) : Fl := (cutN p, cutV p)
/-- The cookies that a text tells. -/
def cks (T : List (List UInt8)) : List Fl := (T.filter okP).map fP
def ckL (l : List UInt8) : List Fl := cks (splitB 59 l)
theorem cks_yes (T : List (List UInt8)) (k : Nat) (h : k < T.length) (hg : okP (T.getD k []) = true) : cks (T.take (k + 1)) = cks (T.take k) ++ [fP (T.getD k [])] := by
  unfold cks
  rw [List.take_add_one, List.getElem?_eq_getElem h, List.filter_append, List.map_append]
  rw [List.getD_eq_getElem?_getD, List.getElem?_eq_getElem h] at hg ⊢
  simp at hg
  simp [hg]
theorem cks_no (T : List (List UInt8)) (k : Nat) (h : k < T.length) (hg : okP (T.getD k []) = false) : cks (T.take (k + 1)) = cks (T.take k) := by
  unfold cks
  rw [List.take_add_one, List.getElem?_eq_getElem h, List.filter_append, List.map_append]
  rw [List.getD_eq_getElem?_getD, List.getElem?_eq_getElem h] at hg
  simp at hg
  simp [hg]
theorem cks_len (T : List (List UInt8)) (k : Nat) : (cks (T.take k)).length ≤ T.length := by
  unfold cks
  rw [List.length_map]
  exact Nat.le_trans (List.length_filter_le _ _) (by rw [List.length_take]; omega)

set_option maxHeartbeats 2000000 in
theorem Parse_any (l : List UInt8) (hl : l.length ≤ 4000000) (w : World) (ml : Tg.ML w) (tb : Tab w) :
    Calls Tryz.prog 110 #[.string (str l)] w fun e w' => ∃ u n, e = .returned (.tuple #[u, .int .i64 n]) ∧ OwnF 148 w.heap.size u (ckL l) w' ∧ Below w.heap.size w w' := by
  obtain ⟨hsh, hct⟩ := split_short 59 l
  have HSp : Hid (Calls _ _ _ _ _) := (by
    have h := Tg.Split_any (str l) 59 (by rw [str_size]; omega) w ml
    rw [str_list] at h
    exact h : Calls Tryz.prog 163 #[.string (str l), .string ⟨#[59]⟩] w fun e w' => ∃ a c, e = .returned (.slice a (splitB 59 l).length c) ∧ Tg.RdS (.slice a (splitB 59 l).length c) (splitB 59 l) w' ∧ Below w.heap.size w w')
  have HSh : Hid (∀ z ∈ splitB 59 l, z.length ≤ 4000000) := fun z hz => Nat.le_trans (hsh z hz) hl
  have HTr : Hid (∀ (p : List UInt8) W, p.length ≤ 4000000 → Calls Tryz.prog 77 #[.string (str p)] W fun e w' => e = .returned (.string (str (trim p))) ∧ Below W.heap.size W w') := fun p W hp => by
    have h := Trim_any (str p) (by rw [str_size]; unfold maxLen; omega) W
    rw [str_list] at h
    exact h
  have HRc : Hid (∀ (p : List UInt8) W, p.length ≤ 4000000 → Below w.heap.size w W → Calls Tryz.prog 164 #[.string (str p)] W fun e w' => ∃ n v, e = .returned (.tuple #[.agg #[.string n, .string v], .bool (ckR p)]) ∧ (ckR p = true → n = str (cutN p) ∧ v = str (cutV p)) ∧ Below W.heap.size W w') := fun p W hp hb => readCookie_any p hp W (ml.below hb) (tb.below hb (Nat.le_refl _))
  unfold ckL
  have hT : (splitB 59 l).length ≤ 4000001 := by omega
  clear hsh hct ml tb hl
  generalize splitB 59 l = T at *
  generalize str l = s at *
  go_enter Tryz.func110, Tryz.ntmps110
  go_wp2_with fail
  refine HSp.out.mono ?_
  rintro e w1 ⟨a, c, rfl, hr, hb1⟩
  have HR : Hid (Tg.RdS (.slice a T.length c) T w1) := hr
  have HB1 : Hid (Below w.heap.size w w1) := hb1
  clear hr hb1 HSp
  go_wp2
  go_loopw [4, 5, 13] (fun ov nv i wr => ∃ (k : Nat) (n : Int), k ≤ T.length ∧ i = .int .i64 k ∧ nv = .int .i64 n ∧ Hid (0 ≤ n ∧ n ≤ (k : Int)) ∧ Hid (OwnF 148 w1.heap.size ov (cks (T.take k)) wr) ∧ Hid (Below w1.heap.size w1 wr)) (fun _ _ i _ => T.length - (intOf i).toNat)
  case atStart => exact ⟨0, 0, Nat.zero_le _, rfl, rfl, (by omega : (0 : Int) ≤ 0 ∧ (0 : Int) ≤ ((0 : Nat) : Int)), (ownF_nil _ _ _ : OwnF _ _ _ [] _), Below.refl _ _⟩
  case round =>
    obtain ⟨k, n, hk, rfl, rfl, hn, hown, hbl⟩ := hrel
    by_cases hlt : k < T.length
    · obtain ⟨a', c', e', hcs⟩ := HR.out.below hbl.out
      injection e' with e1 _ e2
      subst e1 e2
      rcases hcs with h | ⟨g, o, rfl, hlc, hcell⟩
      · rw [h] at hlt; simp at hlt
      have p0 := hcell k hlt
      have hpl : (T.getD k []).length ≤ 4000000 := HSh.out _ (by rw [List.getD_eq_getElem?_getD, List.getElem?_eq_getElem hlt]; exact List.getElem_mem hlt)
      have HT1 : Hid (∀ W, Calls Tryz.prog 77 #[.string (str (T.getD k []))] W fun e w' => e = .returned (.string (str (trim (T.getD k [])))) ∧ Below W.heap.size W w') := fun W => HTr.out _ W hpl
      have HR1 : Hid (∀ W, Below w.heap.size w W → Calls Tryz.prog 164 #[.string (str (T.getD k []))] W fun e w' => ∃ n v, e = .returned (.tuple #[.agg #[.string n, .string v], .bool (ckR (T.getD k []))]) ∧ (ckR (T.getD k []) = true → n = str (cutN (T.getD k [])) ∧ v = str (cutV (T.getD k []))) ∧ Below W.heap.size W w') := fun W h => HRc.out _ W hpl h
      have YES : okP (T.getD k []) = true → Hid (cks (T.take (k + 1)) = cks (T.take k) ++ [fP (T.getD k [])]) := fun h => cks_yes T k hlt h
      have NO : okP (T.getD k []) = false → Hid (cks (T.take (k + 1)) = cks (T.take k)) := fun h => cks_no T k hlt h
      have HG : Hid (okP (T.getD k []) = (!(trim (T.getD k [])).isEmpty && ckR (T.getD k []))) := rfl
      have hlk : (cks (T.take k)).length + 1 ≤ 2147483648 := by have := cks_len T k; omega
      have hn1 : IntKind.i64.wrap (n + 1) = n + 1 := by have := hn.out; rw [IntKind.wrap_i64]; omega
      have HN1 : Hid (0 ≤ n + 1 ∧ n + 1 ≤ ((k + 1 : Nat) : Int)) := (by have := hn.out; omega : _ ∧ _)
      have HN0 : Hid (0 ≤ n ∧ n ≤ ((k + 1 : Nat) : Int)) := (by have := hn.out; omega : _ ∧ _)
      clear hcell hpl
      generalize T.getD k [] = p at *
      have hze : (trim p).isEmpty = (str (trim p)).toList.isEmpty := by rw [ByteArray.toList_eq, str_list]
      rw [hze] at HG
      generalize str (trim p) = Z at *
      generalize okP p = ok at *
      generalize ckR p = ck at *
      by_cases hz : Z.size = 0
      · have he := empty_of hz
        have no := NO (by rw [HG.out, he]; rfl)
        clear YES NO HG
        go_wp2_with fail
        refine (HT1.out _).mono ?_
        rintro e w2 ⟨rfl, hb2⟩
        have HB2 : Hid (Below w1.heap.size w1 w2) := bel_trans hbl.out hb2
        have HO2 : Hid (OwnF 148 w1.heap.size _ (cks (T.take (k + 1))) w2) := (by rw [no.out]; exact hown.out.below hb2 : OwnF _ _ _ _ w2)
        clear hb2
        go_wp2
        go_roundw
        case rel => exact ⟨k + 1, n, by omega, by go_num, rfl, HN0, HO2, HB2⟩
        case measure => simp [intOf]; omega
      · have he := nonempty_of hz
        have HGc : Hid (ok = ck) := (by rw [HG.out, he]; rfl : _ = _)
        clear HG
        go_wp2_with fail
        refine (HT1.out _).mono ?_
        rintro e w2 ⟨rfl, hb2⟩
        have HB2 : Hid (Below w1.heap.size w1 w2) := bel_trans hbl.out hb2
        have HO2 : Hid (OwnF 148 w1.heap.size _ (cks (T.take k)) w2) := hown.out.below hb2
        clear hb2
        go_wp2_with fail
        refine (HR1.out w2 (HB1.out.trans (HB2.out.mono HB1.out.size))).mono ?_
        rintro e w3 ⟨nm, vl, rfl, hck, hb3⟩
        have HB3 : Hid (Below w1.heap.size w1 w3) := bel_trans HB2.out hb3
        have HO3 : Hid (OwnF 148 w1.heap.size _ (cks (T.take k)) w3) := HO2.out.below hb3
        obtain ⟨w4, hw4⟩ : ∃ w4, w4 = w3.alloc (.cells #[.string nm, .string vl] 148) := ⟨_, rfl⟩
        have hb4 : Below w3.heap.size w3 w4 := by rw [hw4]; exact (Below.refl _ w3).alloc (Nat.le_refl _) _
        have HM4 : Hid (Blk 148 w4 w3.heap.size [.string nm, .string vl]) := (by rw [hw4]; exact heap_alloc_new w3 _ : Blk _ _ _ _)
        have HB4 : Hid (Below w1.heap.size w1 w4) := bel_trans HB3.out hb4
        have HO4 : Hid (OwnF 148 w1.heap.size _ (cks (T.take k)) w4) := HO3.out.below hb4
        have HW4 : Hid (w3.alloc (.cells #[.string nm, .string vl] 148) = w4) := hw4.symm
        have hs4 : w1.heap.size ≤ w4.heap.size := HB4.out.size
        clear hb3 hb4 hw4 HB3 HO3 HO2
        cases ck with
        | true =>
          have yes := YES HGc.out
          obtain ⟨hnm, hvl⟩ := hck rfl
          have HNm : Hid (nm = str (fP p).1) := hnm
          have HVl : Hid (vl = str (fP p).2) := hvl
          have m0 := HM4.out.cell 0 rfl
          have m1 := HM4.out.cell 1 rfl
          clear YES NO hck hnm hvl
          go_wp2_with (first | rw [HW4.out] | (at_builtin; go_must (refine wp_appF 148 145 infoK Tryz.underlying145 rfl (.tmp 29) (.tmp 31) rfl w1.heap.size _ (cks (T.take k)) _ (fP p) _ _ HNm.out HVl.out rfl HO4.out _ rfl (by simp) hlk hs4 ?_); intro v6 w6 hown6 hb6))
          have HO6 : Hid (OwnF 148 w1.heap.size v6 (cks (T.take (k + 1))) w6) := (by rw [yes.out]; exact hown6 : OwnF _ _ v6 _ w6)
          have HB6 : Hid (Below w1.heap.size w1 w6) := HB4.out.trans hb6
          clear hown6 hb6
          go_roundw
          case rel => exact ⟨k + 1, n, by omega, by go_num, rfl, HN0, HO6, HB6⟩
          case measure => simp [intOf]; omega
        | false =>
          have no := NO HGc.out
          have HO5 : Hid (OwnF 148 w1.heap.size _ (cks (T.take (k + 1))) w4) := (by rw [no.out]; exact HO4.out : OwnF _ _ _ _ w4)
          clear YES NO hck
          go_wp2_with (first | rw [HW4.out] | fail)
          try rw [HW4.out]
          go_roundw
          case rel => exact ⟨k + 1, n + 1, by omega, by go_num, rfl, HN1, HO5, HB4⟩
          case measure => simp [intOf]; omega
    · obtain rfl : k = T.length := by omega
      rw [List.take_length] at hown
      obtain ⟨oa, oc, rfl⟩ := ownF_form hown.out
      go_wp2
      refine bodyPost_ret (v := .tuple #[.slice oa (cks T).length oc, .int .i64 n]) (by simp [results, Tryz.results110, go_sem]) rfl ⟨_, n, rfl, own_upF hown.out HB1.out.size, HB1.out.trans (hbl.out.mono HB1.out.size)⟩

end Ko
end Go.Proofs.YticncpjpkgdnlaaGreatDoor

/-
  cookie: counted (written by mkko.py).
-/
set_option linter.unusedVariables false
set_option linter.unusedSimpArgs false
set_option maxRecDepth 100000
namespace Go.Proofs.YticncpjpkgdnlaaGreatDoor
open Go.RowKit Go.Shelf
namespace Ko
open Oc Tg _root_.Go.Proofs.YticncpjpkgdnlaaGreatDoor.Fd _root_.Go.Proofs.YticncpjpkgdnlaaGreatDoor.Ck _root_.Go.Proofs.YticncpjpkgdnlaaGreatDoor.Ms _root_.Go.Proofs.YticncpjpkgdnlaaGreatDoor.Hn

def ckN : List UInt8 := [67, 111, 111, 107, 105, 101]
theorem vals_ck (v : List UInt8) : vals ckN [(ckN, v)] = [v] := by rfl

set_option maxHeartbeats 2000000 in
theorem counted_one (av : Value) (v nm ds : List UInt8) (hv : v.length ≤ 1048576) (hd : ds.length ≤ 1048576) (w : World) (hrd : RdF av [(ckN, v)] w) (ml : Tg.ML w) (tb : Tab w) (hck : ckL v = [(nm, ds)]) (c : Int) (hc : (numR 10 ds 999999999).1 = c) :
    Calls Tryz.prog 67 #[av, .string (str nm)] w fun e w' => e = .returned (.int .i64 c) ∧ Below w.heap.size w w' := by
  subst hc
  have HA : Hid (Calls Tryz.prog 105 #[av, .string ⟨#[67, 111, 111, 107, 105, 101]⟩] w fun e w' => ∃ u, e = .returned u ∧ Oc.OwnS w.heap.size u [v] w' ∧ Below w.heap.size w w') := (by
    have h := All_any av [(ckN, v)] ckN (by decide) (fun p hp => by
      rcases List.mem_singleton.1 hp with rfl
      exact ⟨(by decide : ckN.length ≤ 1048576), hv⟩) (by simp) w hrd
    rw [vals_ck] at h
    exact h : Calls _ _ _ _ _)
  have HP : Hid (∀ W, Below w.heap.size w W → Calls Tryz.prog 110 #[.string (str v)] W fun e w' => ∃ a c n, e = .returned (.tuple #[.slice a 1 c, .int .i64 n]) ∧ OwnF 148 W.heap.size (.slice a 1 c) [(nm, ds)] w' ∧ Below W.heap.size W w') := fun W h => by
    refine (Parse_any v (by omega) W (ml.below h) (tb.below h (Nat.le_refl _))).mono ?_
    rintro e w' ⟨u, n, rfl, ho, hb⟩
    rw [hck] at ho
    obtain ⟨a, c, rfl⟩ := ownF_form ho
    exact ⟨a, c, n, rfl, ho, hb⟩
  have HD : Hid (∀ W, Calls Tryz.prog 111 #[.string (str ds), .int .i64 999999999] W fun e w' => e = .returned (.tuple #[.int .i64 (numR 10 ds 999999999).1, .int .i64 (numR 10 ds 999999999).2]) ∧ Below W.heap.size W w') := fun W => by
    have h := Decimal_any (str ds) (by rw [str_size]; unfold maxLen; omega) 999999999 (by decide) (by decide) W
    rw [str_list] at h
    exact h
  generalize (numR 10 ds 999999999).1 = x at *
  generalize (numR 10 ds 999999999).2 = y at *
  obtain ⟨a0, c0, rfl, _⟩ := hrd
  clear hv hd ml tb hck
  go_enter Tryz.func67, Tryz.ntmps67
  go_wp2_with fail
  refine HA.out.mono ?_
  rintro e w1 ⟨u, rfl, ho, hb1⟩
  obtain ⟨a, c, rfl⟩ := ho.form
  obtain ⟨g, rfl, hc, hcell⟩ := ho.cell 0 (by simp)
  have hcell : w1.cell? ⟨g, 0, none⟩ = some (.string (str v)) := hcell
  have HB1 : Hid (Below w.heap.size w w1) := hb1
  have HC1 : Hid (w1.cell? ⟨g, 0, none⟩ = some (.string (str v))) := hcell
  rw [show [v].length = 1 from rfl]
  clear ho hb1 hc hcell HA
  go_wp2
  go_loopw [16] (fun i wr => i = .int .i64 0 ∧ w1 = wr) (fun i _ => 0)
  case atStart => exact ⟨rfl, rfl⟩
  case round =>
    obtain ⟨rfl, rfl⟩ := hrel
    have c0 := HC1.out
    go_wp2_with fail
    refine (HP.out _ HB1.out).mono ?_
    rintro e w2 ⟨pa, pc, n, rfl, ho, hb2⟩
    have HB2 : Hid (Below w.heap.size w w2) := bel_tr HB1.out hb2 HB1.out.size
    obtain ⟨a', c', e', hcs⟩ := (OwnF.rd ho : RdF _ _ _)
    injection e' with e1 e0 e2
    clear e0
    subst e1 e2
    rcases hcs with h | ⟨g2, o2, rfl, hlc, hcell2⟩
    · cases h
    obtain ⟨px, py⟩ := hcell2 0 (by simp)
    have HX : Hid (w2.cell? ⟨g2, o2, none⟩ = some (.string (str nm))) := (by simpa [nth] using px : _ = _)
    have HY : Hid (w2.cell? ⟨g2, o2 + 1, none⟩ = some (.string (str ds))) := (by simpa [nth] using py : _ = _)
    clear px py hcell2 hlc ho hb2 c0 HP
    go_wp2
    go_loopw [27] (fun i wr => i = .int .i64 0 ∧ w2 = wr) (fun i _ => 0)
    case atStart => exact ⟨rfl, rfl⟩
    case round =>
      obtain ⟨rfl, rfl⟩ := hrel
      have x0 := HX.out
      have y0 := HY.out
      obtain ⟨w3, hw3⟩ : ∃ w3, w3 = w2.alloc (.cells #[.string (str nm), .string (str ds)] 148) := ⟨_, rfl⟩
      have hb3 : Below w2.heap.size w2 w3 := by rw [hw3]; exact (Below.refl _ w2).alloc (Nat.le_refl _) _
      have HM3 : Hid (Blk 148 w3 w2.heap.size [.string (str nm), .string (str ds)]) := (by rw [hw3]; exact heap_alloc_new w2 _ : Blk _ _ _ _)
      have HB3 : Hid (Below w.heap.size w w3) := bel_tr HB2.out hb3 HB2.out.size
      have HW3 : Hid (w2.alloc (.cells #[.string (str nm), .string (str ds)] 148) = w3) := hw3.symm
      have m0 := HM3.out.cell 0 rfl
      have m1 := HM3.out.cell 1 rfl
      clear hw3 hb3
      go_wp2_with (first | rw [HW3.out] | fail)
      try rw [HW3.out]
      refine (HD.out _).mono ?_
      rintro e w4 ⟨rfl, hb4⟩
      have HB4 : Hid (Below w.heap.size w w4) := bel_tr HB3.out hb4 HB3.out.size
      clear hb4
      go_wp2
      go_ret
      exact ⟨rfl, HB4.out⟩

end Ko
end Go.Proofs.YticncpjpkgdnlaaGreatDoor

/-
  cookie: check, pair, the closure that lays pieces (written by mkko.py).
-/
set_option linter.unusedVariables false
set_option linter.unusedSimpArgs false
set_option maxRecDepth 100000
namespace Go.Proofs.YticncpjpkgdnlaaGreatDoor
open Go.RowKit Go.Shelf
namespace Ko
open Oc Tg _root_.Go.Proofs.YticncpjpkgdnlaaGreatDoor.Fd _root_.Go.Proofs.YticncpjpkgdnlaaGreatDoor.Ck _root_.Go.Proofs.YticncpjpkgdnlaaGreatDoor.Ms _root_.Go.Proofs.YticncpjpkgdnlaaGreatDoor.Hn

set_option maxHeartbeats 1000000 in
theorem hasRightAge_c (n d : ByteArray) (w : World) : Calls Tryz.prog 169 #[.agg #[.string n, .string d, .string ⟨#[47]⟩, .string ⟨#[]⟩, .int .i64 0, .bool false, .int .i64 0, .bool false, .bool false, .bool false, .int .i64 0]] w fun e w' => e = .returned (.bool true) ∧ Below w.heap.size w w' := by
  obtain ⟨w1, hw1⟩ : ∃ w1, w1 = w.alloc (.cells #[.string n, .string d, .string ⟨#[47]⟩, .string ⟨#[]⟩, .int .i64 0, .bool false, .int .i64 0, .bool false, .bool false, .bool false, .int .i64 0] 98) := ⟨_, rfl⟩
  have hb1 : Below w.heap.size w w1 := by rw [hw1]; exact (Below.refl _ w).alloc (Nat.le_refl _) _
  have HM1 : Hid (Blk 98 w1 w.heap.size [.string n, .string d, .string ⟨#[47]⟩, .string ⟨#[]⟩, .int .i64 0, .bool false, .int .i64 0, .bool false, .bool false, .bool false, .int .i64 0]) := (by rw [hw1]; exact heap_alloc_new w _ : Blk _ _ _ _)
  have HB1 : Hid (Below w.heap.size w w1) := hb1
  have HW1 : Hid (w1 = _) := hw1
  have c5 := HM1.out.cell 5 rfl
  have c4 := HM1.out.cell 4 rfl
  clear hw1 hb1
  go_enter Tryz.func169, Tryz.ntmps169
  go_wp2
  try rw [← HW1.out]
  go_ret
  exact ⟨rfl, HB1.out⟩

set_option maxHeartbeats 1000000 in
theorem hasRightExpires_c (n d : ByteArray) (w : World) : Calls Tryz.prog 170 #[.agg #[.string n, .string d, .string ⟨#[47]⟩, .string ⟨#[]⟩, .int .i64 0, .bool false, .int .i64 0, .bool false, .bool false, .bool false, .int .i64 0]] w fun e w' => e = .returned (.bool true) ∧ Below w.heap.size w w' := by
  obtain ⟨w1, hw1⟩ : ∃ w1, w1 = w.alloc (.cells #[.string n, .string d, .string ⟨#[47]⟩, .string ⟨#[]⟩, .int .i64 0, .bool false, .int .i64 0, .bool false, .bool false, .bool false, .int .i64 0] 98) := ⟨_, rfl⟩
  have hb1 : Below w.heap.size w w1 := by rw [hw1]; exact (Below.refl _ w).alloc (Nat.le_refl _) _
  have HM1 : Hid (Blk 98 w1 w.heap.size [.string n, .string d, .string ⟨#[47]⟩, .string ⟨#[]⟩, .int .i64 0, .bool false, .int .i64 0, .bool false, .bool false, .bool false, .int .i64 0]) := (by rw [hw1]; exact heap_alloc_new w _ : Blk _ _ _ _)
  have HB1 : Hid (Below w.heap.size w w1) := hb1
  have HW1 : Hid (w1 = _) := hw1
  have c7 := HM1.out.cell 7 rfl
  have c6 := HM1.out.cell 6 rfl
  clear hw1 hb1
  go_enter Tryz.func170, Tryz.ntmps170
  go_wp2
  try rw [← HW1.out]
  go_ret
  exact ⟨rfl, HB1.out⟩

set_option maxHeartbeats 1000000 in
theorem isPath_slash (w : World) : Calls Tryz.prog 167 #[.string ⟨#[47]⟩] w fun e w' => e = .returned (.bool true) ∧ Below w.heap.size w w' := by
  have HH : Hid (∀ w, Calls Tryz.prog 230 #[.string ⟨#[47]⟩, .string ⟨#[59]⟩] w fun e w' => e = .returned (.bool true) ∧ Below w.heap.size w w') := fun w => by
    have h := hasSigns_any ⟨#[47]⟩ ⟨#[59]⟩ (by decide) w
    rw [show sgn ⟨#[59]⟩ ⟨#[47]⟩ = true by decide +kernel] at h
    exact h
  have HP : Hid (∀ w, Calls Tryz.prog 133 #[.string ⟨#[47]⟩, .string ⟨#[47]⟩] w fun e w' => e = .returned (.bool true) ∧ w' = w) := fun w => Tryz.strings_HasPrefix ⟨#[47]⟩ ⟨#[47]⟩ w
  go_enter Tryz.func167, Tryz.ntmps167
  go_wp2_with (first | (go_at_call 133; refine (HP.out _).mono ?_; rintro e w' ⟨rfl, rfl⟩) | fail)
  refine (HH.out _).mono ?_
  rintro e w2 ⟨rfl, hb⟩
  go_wp2
  go_ret
  exact ⟨rfl, hb⟩

set_option maxHeartbeats 1000000 in
theorem pair_any (n d : ByteArray) (hn : n.size + d.size ≤ 8000000) (w : World) : Calls Tryz.prog 113 #[.agg #[.string n, .string d]] w fun e w' => e = .returned (.string (n ++ ⟨#[61]⟩ ++ d)) ∧ Below w.heap.size w w' := by
  obtain ⟨w1, hw1⟩ : ∃ w1, w1 = w.alloc (.cells #[.string n, .string d] 148) := ⟨_, rfl⟩
  have hb1 : Below w.heap.size w w1 := by rw [hw1]; exact (Below.refl _ w).alloc (Nat.le_refl _) _
  have HM1 : Hid (Blk 148 w1 w.heap.size [.string n, .string d]) := (by rw [hw1]; exact heap_alloc_new w _ : Blk _ _ _ _)
  have HB1 : Hid (Below w.heap.size w w1) := hb1
  have HW1 : Hid (w1 = _) := hw1
  have c0 := HM1.out.cell 0 rfl
  have c1 := HM1.out.cell 1 rfl
  have hq1 : ¬ 9223372036854775807 < n.size + 1 := by omega
  have hq2 : ¬ 9223372036854775807 < n.size + 1 + d.size := by omega
  clear hw1 hb1 hn
  go_enter Tryz.func113, Tryz.ntmps113
  go_wp2
  try rw [← HW1.out]
  go_ret
  exact ⟨rfl, HB1.out⟩

set_option maxHeartbeats 2000000 in
theorem check_c (n d : ByteArray) (hn : n.size ≤ 4000000) (hd : d.size ≤ 4000000) (hk : cokB n d = true) (w : World) (tb : Tab w) : Calls Tryz.prog 112 #[.agg #[.string n, .string d, .string ⟨#[47]⟩, .string ⟨#[]⟩, .int .i64 0, .bool false, .int .i64 0, .bool false, .bool false, .bool false, .int .i64 0]] w fun e w' => e = .returned (.int .i64 0) ∧ Below w.heap.size w w' := by
  have HK : Hid (∀ W, Below w.heap.size w W → Calls Tryz.prog 166 #[.agg #[.string n, .string d]] W fun e w' => e = .returned (.bool true) ∧ Below W.heap.size W w') := fun W h => by
    have h := isCookie_any n d hn hd W (tb.below h (Nat.le_refl _))
    rw [hk] at h
    exact h
  have HPa : Hid (∀ W, Calls Tryz.prog 167 #[.string ⟨#[47]⟩] W fun e w' => e = .returned (.bool true) ∧ Below W.heap.size W w') := fun W => isPath_slash W
  have HAg : Hid (∀ W, Calls Tryz.prog 169 #[.agg #[.string n, .string d, .string ⟨#[47]⟩, .string ⟨#[]⟩, .int .i64 0, .bool false, .int .i64 0, .bool false, .bool false, .bool false, .int .i64 0]] W fun e w' => e = .returned (.bool true) ∧ Below W.heap.size W w') := fun W => hasRightAge_c n d W
  have HEx : Hid (∀ W, Calls Tryz.prog 170 #[.agg #[.string n, .string d, .string ⟨#[47]⟩, .string ⟨#[]⟩, .int .i64 0, .bool false, .int .i64 0, .bool false, .bool false, .bool false, .int .i64 0]] W fun e w' => e = .returned (.bool true) ∧ Below W.heap.size W w') := fun W => hasRightExpires_c n d W
  obtain ⟨w1, hw1⟩ : ∃ w1, w1 = w.alloc (.cells #[.string n, .string d, .string ⟨#[47]⟩, .string ⟨#[]⟩, .int .i64 0, .bool false, .int .i64 0, .bool false, .bool false, .bool false, .int .i64 0] 98) := ⟨_, rfl⟩
  have hb1 : Below w.heap.size w w1 := by rw [hw1]; exact (Below.refl _ w).alloc (Nat.le_refl _) _
  have HM1 : Hid (Blk 98 w1 w.heap.size [.string n, .string d, .string ⟨#[47]⟩, .string ⟨#[]⟩, .int .i64 0, .bool false, .int .i64 0, .bool false, .bool false, .bool false, .int .i64 0]) := (by rw [hw1]; exact heap_alloc_new w _ : Blk _ _ _ _)
  have HB1 : Hid (Below w.heap.size w w1) := hb1
  have HW1 : Hid (w1 = _) := hw1
  have c0 := HM1.out.cell 0 rfl
  have c1 := HM1.out.cell 1 rfl
  clear hw1 hb1 tb hn hd hk
  go_enter Tryz.func112, Tryz.ntmps112
  go_wp2_with fail
  try rw [← HW1.out]
  refine (HK.out _ HB1.out).mono ?_
  rintro e w2 ⟨rfl, hb⟩
  have HM2 : Hid (Blk 98 w2 w.heap.size [.string n, .string d, .string ⟨#[47]⟩, .string ⟨#[]⟩, .int .i64 0, .bool false, .int .i64 0, .bool false, .bool false, .bool false, .int .i64 0]) := HM1.out.below hb
  have HB2 : Hid (Below w.heap.size w w2) := bel_tr HB1.out hb HB1.out.size
  clear hb
  clear c0 c1
  have c2 := HM2.out.cell 2 rfl
  go_wp2_with fail
  refine (HPa.out _).mono ?_
  rintro e w3 ⟨rfl, hb⟩
  have HM3 : Hid (Blk 98 w3 w.heap.size [.string n, .string d, .string ⟨#[47]⟩, .string ⟨#[]⟩, .int .i64 0, .bool false, .int .i64 0, .bool false, .bool false, .bool false, .int .i64 0]) := HM2.out.below hb
  have HB3 : Hid (Below w.heap.size w w3) := bel_tr HB2.out hb HB2.out.size
  clear hb
  clear c2
  have c0 := HM3.out.cell 0 rfl
  have c1 := HM3.out.cell 1 rfl
  have c2 := HM3.out.cell 2 rfl
  have c3 := HM3.out.cell 3 rfl
  have c4 := HM3.out.cell 4 rfl
  have c5 := HM3.out.cell 5 rfl
  have c6 := HM3.out.cell 6 rfl
  have c7 := HM3.out.cell 7 rfl
  have c8 := HM3.out.cell 8 rfl
  have c9 := HM3.out.cell 9 rfl
  have c10 := HM3.out.cell 10 rfl
  go_wp2_with fail
  refine (HAg.out _).mono ?_
  rintro e w4 ⟨rfl, hb⟩
  have HM4 : Hid (Blk 98 w4 w.heap.size [.string n, .string d, .string ⟨#[47]⟩, .string ⟨#[]⟩, .int .i64 0, .bool false, .int .i64 0, .bool false, .bool false, .bool false, .int .i64 0]) := HM3.out.below hb
  have HB4 : Hid (Below w.heap.size w w4) := bel_tr HB3.out hb HB3.out.size
  clear hb
  clear c0 c1 c2 c3 c4 c5 c6 c7 c8 c9 c10
  have c0 := HM4.out.cell 0 rfl
  have c1 := HM4.out.cell 1 rfl
  have c2 := HM4.out.cell 2 rfl
  have c3 := HM4.out.cell 3 rfl
  have c4 := HM4.out.cell 4 rfl
  have c5 := HM4.out.cell 5 rfl
  have c6 := HM4.out.cell 6 rfl
  have c7 := HM4.out.cell 7 rfl
  have c8 := HM4.out.cell 8 rfl
  have c9 := HM4.out.cell 9 rfl
  have c10 := HM4.out.cell 10 rfl
  go_wp2_with fail
  refine (HEx.out _).mono ?_
  rintro e w5 ⟨rfl, hb⟩
  have HM5 : Hid (Blk 98 w5 w.heap.size [.string n, .string d, .string ⟨#[47]⟩, .string ⟨#[]⟩, .int .i64 0, .bool false, .int .i64 0, .bool false, .bool false, .bool false, .int .i64 0]) := HM4.out.below hb
  have HB5 : Hid (Below w.heap.size w w5) := bel_tr HB4.out hb HB4.out.size
  clear hb
  clear c0 c1 c2 c3 c4 c5 c6 c7 c8 c9 c10
  have c10 := HM5.out.cell 10 rfl
  go_wp2
  go_ret
  exact ⟨rfl, HB5.out⟩

set_option maxHeartbeats 1000000 in
theorem add_no (x : ByteArray) (P : Nat) (w : World) : Calls Tryz.prog 114 #[.bool false, .string x, .pointer (some ⟨P, 0, none⟩)] w fun e w' => e = .returned (.tuple #[]) ∧ w' = w := by
  go_enter Tryz.func114, Tryz.ntmps114
  go_wp2
  go_end0
  exact ⟨rfl, rfl⟩

/-- A text appended to a slice of the call's own: only that slice's block turns. -/
theorem wp_appSk {ops : Array Oper} {rest : List Oper} {o : Oper} {a : Act} {Q : Exit → Act → World → Prop} (hgd : o.guard = none) (s x : Operand)
    (ho : o.op = .call { callee := .builtin .append, args := #[s, x], argTypes := #[75, 75] }) (B : Nat) (v : Value) (t : List (List UInt8)) (W : World) (l : List UInt8)
    (hs : a.eval s = v) (hown : Oc.OwnS B v t W) (hx : a.eval x = .slice (some ⟨W.heap.size, 0, none⟩) 1 1) (hlen : t.length + 1 ≤ 4294967296) (hB : B ≤ W.heap.size)
    (h : ∀ v' w', Oc.OwnS B v' (t ++ [l]) w' → Below B W w' → But v.ownBlock.toList (W.alloc (.cells #[.string (str l)] 9)) w' → wpList Tryz.prog ops Q rest (a.put o.dst v') w') : wpList Tryz.prog ops Q (o :: rest) a (W.alloc (.cells #[.string (str l)] 9)) := by
  obtain ⟨i0, hi, hz0, hz1, hz2⟩ := Oc.infoS
  refine wpList_append_own _ hgd s x 75 ho B 9 i0 (.string ⟨#[]⟩) 1 16 Tryz.underlying75 hi hz0 hz1 hz2 rfl (by decide) v t.length _ hs (World.ownsRow.alloc hown _) ⟨W.heap.size, 0, none⟩ 1 1 [.string (str l)] hx rfl ?_ ?_ ?_ ?_ ?_ ?_
  · intro j u hj
    match j, hj with
    | 0, hj => simp at hj; subst hj; simp [Addr.add]
  · intro u hu; simp at hu; subst hu; rfl
  · unfold maxLen; omega
  · omega
  · simp; omega
  · intro v' w' h1 h2 _
    refine h v' w' ?_ (((Below.refl B W).alloc hB _).grown h2 (by simp; omega) (fun k hk => (World.ownsRow.lt hown k hk).1)) ((But.refl _ _).grown h2 (fun k hk => by rw [hk]; simp))
    unfold Oc.OwnS
    rw [List.length_append]
    simpa [Oc.encS] using h1

set_option maxHeartbeats 1000000 in
theorem add_yes (x : List UInt8) (P : Nat) (v : Value) (t : List (List UInt8)) (ht : t.length ≤ 1000) (B : Nat) (hP : B ≤ P) (w : World) (hM : Blk 75 w P [v]) (ho : Oc.OwnS B v t w) (hB : B ≤ w.heap.size) : Calls Tryz.prog 114 #[.bool true, .string (str x), .pointer (some ⟨P, 0, none⟩)] w fun e w' => e = .returned (.tuple #[]) ∧ ∃ u, Oc.OwnS B u (t ++ [x]) w' ∧ Blk 75 w' P [u] ∧ Below B w w' := by
  have HM : Hid (Blk 75 w P [v]) := hM
  have HO : Hid (Oc.OwnS B v t w) := ho
  have m0 := HM.out.cell 0 rfl
  have HNe : Hid (∀ g, v.ownBlock = some g → g ≠ P) := fun g hg => hM.ne ho (by decide) hg
  obtain ⟨a, c, rfl⟩ := ho.form
  clear hM ho
  go_enter Tryz.func114, Tryz.ntmps114
  go_wp2_with (at_builtin; go_must (refine wp_appSk rfl (.tmp 6) (.tmp 8) rfl B _ t _ x rfl HO.out rfl (by omega) hB ?_); intro v1 w1 o1 b1 k1; have HO1 : Hid (Oc.OwnS B v1 (t ++ [x]) w1) := o1; have HB1 : Hid (Below B w w1) := b1; have HM1 : Hid (Blk 75 w1 P [.slice a t.length c]) := ((HM.out.below ((Below.refl _ w).alloc (Nat.le_refl _) _)).but k1 (fun h => HNe.out P (Option.mem_toList.1 h) rfl) : Blk _ _ _ _); have n0 := HM1.out.cell 0 rfl; have nf := HM1.out.free 0; obtain ⟨a1, c1, rfl⟩ := o1.form; clear o1 b1 k1)
  go_end0
  have hbt : But [P] w1 (w1.setCell ⟨P, 0, none⟩ (.slice a1 (t.length + 1) c1)) := setD (But.refl [P] w1) 0 _
  have e : (t ++ [x]).length = t.length + 1 := by rw [List.length_append]; rfl
  have HO2 := HO1.out
  rw [e] at HO2
  refine ⟨rfl, .slice a1 (t.length + 1) c1, HM1.out.keep HO2 (by decide) hbt, HM1.out.set 0 _, HB1.out.trans (hbt.below (Nat.le_trans hB HB1.out.size) (fun y hy => by simp at hy; omega))⟩

end Ko
end Go.Proofs.YticncpjpkgdnlaaGreatDoor
