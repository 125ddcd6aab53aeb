/-
  The law ChunkCuts: the walk.
-/
import Derived.Test.YtdbnlpnnfnodnabDoorCkM
import Derived.Test.YtdbnlpnnfnodnabDoorCkR
set_option linter.unusedVariables false
set_option linter.unusedSimpArgs false
set_option maxRecDepth 100000
namespace Go.Proofs.YtdbnlpnnfnodnabDoor
open Go.RowKit Go.Shelf
namespace Ck
open Oc Tg _root_.Go.Proofs.YtdbnlpnnfnodnabDoor.Fd

theorem i64_of_wf {x : Int} (h : (Lit.int .i64 x).wf = true) : -9223372036854775808 ≤ x ∧ x ≤ 9223372036854775807 := by
  simpa [Lit.wf, IntKind.min, IntKind.max, IntKind.signed, IntKind.bits] using h

set_option maxHeartbeats 16000000 in
theorem walk_ChunkCuts (t : ByteArray) (ht : t.size ≤ 1048576) (v : Value) (l : List Int) (hl : l.length ≤ 1048576) (m r f : Int) (hm : (Lit.int .i64 m).wf = true) (hr : (Lit.int .i64 r).wf = true) (hf : (Lit.int .i64 f).wf = true) (w : World) (R : RdI w v l) (env : Env w) :
    Calls Tryd.prog 3 #[.string t, v, .agg #[.int .i64 m, .int .i64 r, .int .i64 f]] w fun e w' => e = .returned (.bool true) ∧ Below w.heap.size w w' := by
  obtain ⟨m0, m1⟩ := i64_of_wf hm
  obtain ⟨r0, r1⟩ := i64_of_wf hr
  obtain ⟨f0, f1⟩ := i64_of_wf hf
  have HR : Hid (RdI w v l) := R
  have HEn : Hid (Env w) := env
  obtain ⟨va, vc, rfl, hvc, hvb, _⟩ := R
  have hBA : Below w.heap.size w (w.alloc (.cells #[.int .i64 m, .int .i64 r, .int .i64 f] 24)) := (Below.refl _ w).alloc (Nat.le_refl _) _
  have HBA : Hid (Below w.heap.size w (w.alloc (.cells #[.int .i64 m, .int .i64 r, .int .i64 f] 24))) := hBA
  have HRA : Hid ((w.alloc (.cells #[.int .i64 m, .int .i64 r, .int .i64 f] 24)).heap[w.heap.size]? = some (.cells #[.int .i64 m, .int .i64 r, .int .i64 f] 24 (0, 0))) := heap_alloc_new _ _
  have HAw : Hid (Calls Tryd.prog 4 #[] (w.alloc (.cells #[.int .i64 m, .int .i64 r, .int .i64 f] 24)) fun e w' => e = .returned (.bool true) ∧ Below (w.alloc (.cells #[.int .i64 m, .int .i64 r, .int .i64 f] 24)).heap.size (w.alloc (.cells #[.int .i64 m, .int .i64 r, .int .i64 f] 24)) w') := awake_any _ (env.below hBA)
  clear hBA env
  go_enter Tryd.func3, Tryd.ntmps3
  go_wp2_with fail
  refine HAw.out.mono ?_
  rintro e w1 ⟨rfl, hb1⟩
  have HB1 : Hid (Below w.heap.size w w1) := bel_trans HBA.out hb1
  have HR1 : Hid (w1.heap[w.heap.size]? = some (.cells #[.int .i64 m, .int .i64 r, .int .i64 f] 24 (0, 0))) := (But.of_below hb1).heap HRA.out (fun e => by cases e)
  clear hb1 HAw HBA HRA
  have k0 : w1.cell? ⟨w.heap.size, 0, none⟩ = some (.int .i64 m) := by rw [cell_of_row w1 w.heap.size _ _ _ _ HR1.out]; rfl
  have k1 : w1.cell? ⟨w.heap.size, 1, none⟩ = some (.int .i64 r) := by rw [cell_of_row w1 w.heap.size _ _ _ _ HR1.out]; rfl
  have k2 : w1.cell? ⟨w.heap.size, 2, none⟩ = some (.int .i64 f) := by rw [cell_of_row w1 w.heap.size _ _ _ _ HR1.out]; rfl
  generalize hB0 : w.heap.size = B0 at *
  by_cases g1 : m < 0
  · go_wp2
    go_ret
    refine ⟨rfl, ?_⟩
    have h := HB1.out
    rw [← hB0] at h
    exact h
  by_cases g2 : r < 0
  · go_wp2
    go_ret
    refine ⟨rfl, ?_⟩
    have h := HB1.out
    rw [← hB0] at h
    exact h
  by_cases g3 : f < 0
  · go_wp2
    go_ret
    refine ⟨rfl, ?_⟩
    have h := HB1.out
    rw [← hB0] at h
    exact h
  have HOK : Hid (Ok (new m r f) 0) := Ok.new m r f ⟨by omega, m1⟩ ⟨by omega, r1⟩ ⟨by omega, f1⟩
  have HNw : Hid (∀ w, Calls Tryd.prog 5 #[.int .i64 m, .int .i64 r, .int .i64 f] w fun e w' => e = .returned (.tuple #[.pointer (some ⟨w.heap.size, 0, none⟩), .int .i64 0]) ∧ Dec w' w.heap.size (new m r f) [w.heap.size] ∧ Below w.heap.size w w') := fun w => New_ok m r f (by omega) (by omega) (by omega) w
  go_wp2_with fail
  refine (HNw.out _).mono ?_
  rintro e w2 ⟨rfl, hd2, hb2⟩
  have HD2 : Hid (Dec w2 w1.heap.size (new m r f) [w1.heap.size]) := hd2
  have HB2 : Hid (Below w1.heap.size w1 w2) := hb2
  have j0 : w2.cell? ⟨B0, 0, none⟩ = some (.int .i64 m) := (But.of_below hb2).cell k0 (fun e => by cases e)
  have j1 : w2.cell? ⟨B0, 1, none⟩ = some (.int .i64 r) := (But.of_below hb2).cell k1 (fun e => by cases e)
  have j2 : w2.cell? ⟨B0, 2, none⟩ = some (.int .i64 f) := (But.of_below hb2).cell k2 (fun e => by cases e)
  clear hd2 hb2 k0 k1 k2
  go_wp2_with fail
  refine (HNw.out _).mono ?_
  rintro e w3 ⟨rfl, hd3, hb3⟩
  have HD3 : Hid (Dec w3 w2.heap.size (new m r f) [w2.heap.size]) := hd3
  have HDa : Hid (Dec w3 w1.heap.size (new m r f) [w1.heap.size]) := HD2.out.below hb3
  have HB3 : Hid (Below w1.heap.size w1 w3) := bel_trans HB2.out hb3
  have HLt : Hid (w1.heap.size < w2.heap.size) := HD2.out.lt _ (by simp)
  clear hd3 hb3 j0 j1 j2 HD2 HNw HR1
  have HEn1 : Hid (Env w1) := by
    have h := HEn.out
    have hb := HB1.out
    rw [← hB0] at hb
    exact h.below hb
  have HBs1 : Hid (Base w1 w3 [w1.heap.size]) := ⟨HEn1.out, HB3.out, fun x hx => by simp at hx; omega⟩
  have HBs2 : Hid (Base w1 w3 [w2.heap.size]) := ⟨HEn1.out, HB3.out, fun x hx => by simp at hx; have := HLt.out; omega⟩
  have HFd : Hid (Calls Tryd.prog 6 #[.pointer (some ⟨w1.heap.size, 0, none⟩), .string t] w3 fun ex w' => ex = .returned (.tuple #[.int .i64 (feedN (new m r f) t.data.toList), .int .i64 (feedE (new m r f) t.data.toList)]) ∧ ∃ bs', Dec w' w1.heap.size (feedS (new m r f) t.data.toList) bs' ∧ Goes [w1.heap.size] w3 bs' w') := Feed_any HBs1.out HDa.out HOK.out t (by omega)
  have HM0 : Hid ((new m r f).mode ≠ 5) := (by show (0 : Nat) ≠ 5; decide : (new m r f).mode ≠ 5)
  have HT0 : Hid ((new m r f).total = 0) := rfl
  generalize new m r f = s0 at *
  generalize hD1 : w1.heap.size = D1 at *
  generalize hD2 : w2.heap.size = D2 at *
  clear g1 g2 g3 m0 m1 r0 r1 f0 f1 hm hr hf
  go_wp2_with fail
  refine HFd.out.mono ?_
  rintro e w4 ⟨rfl, bsA, hdA, hgA⟩
  have HDA : Hid (Dec w4 D1 (feedS s0 t.data.toList) bsA) := hdA
  have HDB : Hid (Dec w4 D2 s0 [D2]) := HD3.out.but hgA.but (fun x hx => by simp at hx ⊢; have := HLt.out; omega)
  have HDis : Hid (∀ x, x ∈ ([D2] : List Nat) → x ∉ bsA) := (fun x hx e => by
    simp at hx
    have h3 := HD3.out.lt D2 (by simp)
    rcases hgA.sub x e with e | e
    · simp at e; have := HLt.out; omega
    · omega : ∀ x, x ∈ ([D2] : List Nat) → x ∉ bsA)
  have HBsB : Hid (Base w1 w4 [D2]) := by
    refine ⟨HEn1.out, ?_, HBs2.out.new⟩
    have := hgA.bel (w0 := w1) HBs1.out.new (by rw [hD1]; exact HB3.out)
    exact this
  have HBw4 : Hid (Below B0 w w4) := by
    have h := HBsB.out.bel
    show Below B0 w w4
    rw [← hB0]
    have hb1 := HB1.out
    rw [← hB0] at hb1
    exact bel_trans hb1 h
  have hfn0 := eat_le t.data.toList s0
  clear hdA hgA HFd HDa HD3 HB3 HBs1 HBs2 HB2
  go_wp2
  have HRw : Hid (RdI w (.slice va l.length vc) l) := HR.out
  go_loopw [10, 12, 13, 79] (fun ev tv rv iv wr => ∃ (i p : Nat) (st : DS) (bsB : List Nat), i ≤ l.length ∧ iv = .int .i64 i ∧ tv = .int .i64 p ∧ rv = .string (t.extract p t.size) ∧ ev = .int .i64 st.err ∧ Hid (Part s0 t.data.toList p st) ∧ Hid (Dec wr D1 (feedS s0 t.data.toList) bsA) ∧ Hid (Dec wr D2 st bsB) ∧ Hid (∀ x, x ∈ bsB → x ∉ bsA) ∧ Hid (Base w1 wr bsB) ∧ Hid (Below B0 w wr)) (fun _ _ _ iv _ => l.length - (intOf iv).toNat)
  case atStart =>
    refine ⟨0, 0, s0, [D2], Nat.zero_le _, rfl, rfl, ?_, ?_, Part.start HOK.out _ HT0.out, HDA.out, HDB.out, HDis.out, HBsB.out, HBw4.out⟩
    · rw [show t.extract 0 t.size = t from eq_list (by rw [drop_ext]; rfl)]
    · rw [(HOK.out.live HM0.out).2]
  case round =>
    obtain ⟨i, p, st, bsB, hi, rfl, rfl, rfl, rfl, hpt, hda, hdb, hdis, hbb, hbw⟩ := hrel
    have hbw' : Below w.heap.size w wr := by rw [hB0]; exact hbw.out
    have HBz0 : Hid (Below w.heap.size w wr) := hbw'
    have hsz := HBz0.out.size
    clear hbw'
    have HPL : Hid (p ≤ t.size) := (by have := hpt.out.le; rw [size_list] at this; exact this : p ≤ t.size)
    have HDb0 : Hid (Calls Tryd.prog 7 #[.pointer (some ⟨D2, 0, none⟩)] wr fun e w' => e = .returned (.bool st.done) ∧ w' = wr) := Done_any hdb.out
    have HEb0 : Hid (Calls Tryd.prog 8 #[.pointer (some ⟨D2, 0, none⟩)] wr fun e w' => e = .returned (.int .i64 st.err) ∧ w' = wr) := Err_any hdb.out
    have hsR : (t.extract p t.size).size = t.size - p := size_ext t p HPL.out
    have HSR : Hid ((t.extract p t.size).size = t.size - p) := hsR
    have HDR : Hid ((t.extract p t.size).data.toList = t.data.toList.drop p) := drop_ext t p
    have hsR2 : (t.extract p t.size).size ≤ 1048576 := by omega
    have HRS : Hid (∀ q, q ≤ (t.extract p t.size).size → (t.extract p t.size).extract q (t.extract p t.size).size = t.extract (p + q) t.size) := fun q hq => eq_list (by rw [drop_ext, drop_ext, drop_ext, List.drop_drop])
    clear hsR
    generalize t.extract p t.size = RS at *
    by_cases hlt : i < l.length
    · obtain ⟨a', c', e', _, hvb', hcs⟩ := HRw.out.below HBz0.out
      injection e' with e1 _ e2
      subst e1 e2
      rcases hcs with h | ⟨g, o, rfl, hcell⟩
      · rw [h] at hlt; simp at hlt
      obtain ⟨C, hC⟩ : ∃ C, l[i]? = some C := ⟨l[i], List.getElem?_eq_getElem hlt⟩
      have cC := hcell i C hC
      have HC : Hid (-9223372036854775808 ≤ C ∧ C ≤ 9223372036854775807) := hvb' C (List.mem_of_getElem? hC)
      clear hcell hC hvb'
      cases hdn : st.done with
      | true =>
        have HDN : Hid (st.done = true) := hdn
        rw [hdn] at HDb0
        clear hdn
        have HP : Hid (feedS s0 t.data.toList = st ∧ feedN s0 t.data.toList = p ∧ feedE s0 t.data.toList = st.err) := hpt.out.over HM0.out HT0.out (eat_over (hpt.out.ok.over.2 (.inl HDN.out)) _)
        have HPt : Hid (st.total = (p : Int)) := hpt.out.total
        have HTL : Hid (st.tr.length ≤ 1048576) := (by have := hpt.out.ok.len; have := HPL.out; omega : st.tr.length ≤ 1048576)
        have HA : Hid (Dec wr D1 (feedS s0 t.data.toList) bsA) := hda.out
        have HBb : Hid (Dec wr D2 st bsB) := hdb.out
        have HBz : Hid (Below w.heap.size w wr) := HBz0.out
        go_wp2_with fail
        refine HDb0.out.mono ?_
        rintro e wy ⟨rfl, hw⟩
        rw [hw]
        clear hw
        go_wp2_with fail
        refine HDb0.out.mono ?_
        rintro e wy ⟨rfl, hw⟩
        rw [hw]
        clear hw
        -- all of it told: both are as if fed at once
        obtain ⟨HS1, HN1, HE1⟩ := HP.out
        have hDa : Dec wr D1 st bsA := by rw [← HS1]; exact HA.out
        have HAa : Hid (Dec wr D1 st bsA) := hDa
        clear hDa
        have HTa : Hid (Calls Tryd.prog 10 #[.pointer (some ⟨D1, 0, none⟩)] wr fun e w' => e = .returned (.int .i64 (p : Int)) ∧ w' = wr) := by
          have h := Total_any HAa.out
          rw [HPt.out] at h
          exact h
        have HTb : Hid (Calls Tryd.prog 10 #[.pointer (some ⟨D2, 0, none⟩)] wr fun e w' => e = .returned (.int .i64 (p : Int)) ∧ w' = wr) := by
          have h := Total_any HBb.out
          rw [HPt.out] at h
          exact h
        have HBa : Hid (Calls Tryd.prog 11 #[.pointer (some ⟨D1, 0, none⟩)] wr fun e w' => e = .returned (.string (str st.body)) ∧ w' = wr) := Body_any HAa.out
        have HBbb : Hid (Calls Tryd.prog 11 #[.pointer (some ⟨D2, 0, none⟩)] wr fun e w' => e = .returned (.string (str st.body)) ∧ w' = wr) := Body_any HBb.out
        have HDa : Hid (Calls Tryd.prog 7 #[.pointer (some ⟨D1, 0, none⟩)] wr fun e w' => e = .returned (.bool st.done) ∧ w' = wr) := Done_any HAa.out
        have HDb : Hid (Calls Tryd.prog 7 #[.pointer (some ⟨D2, 0, none⟩)] wr fun e w' => e = .returned (.bool st.done) ∧ w' = wr) := Done_any HBb.out
        have HEa : Hid (Calls Tryd.prog 8 #[.pointer (some ⟨D1, 0, none⟩)] wr fun e w' => e = .returned (.int .i64 st.err) ∧ w' = wr) := Err_any HAa.out
        have HEb : Hid (Calls Tryd.prog 8 #[.pointer (some ⟨D2, 0, none⟩)] wr fun e w' => e = .returned (.int .i64 st.err) ∧ w' = wr) := Err_any HBb.out
        have HRa : Hid (Calls Tryd.prog 13 #[.pointer (some ⟨D1, 0, none⟩)] wr fun e w' => ∃ v, e = .returned v ∧ OwnF 50 wr.heap.size v st.tr w' ∧ Below wr.heap.size wr w') := Trailers_any HAa.out (by have := HTL.out; omega)
        have HRb : Hid (∀ w1, Below wr.heap.size wr w1 → Calls Tryd.prog 13 #[.pointer (some ⟨D2, 0, none⟩)] w1 fun e w' => ∃ v, e = .returned v ∧ OwnF 50 w1.heap.size v st.tr w' ∧ Below w1.heap.size w1 w') := fun w1 hb => Trailers_any (HBb.out.below hb) (by have := HTL.out; omega)
        rw [HN1, HE1]
        clear HN1 HE1 HS1
        have qn : (((p : Nat) : Int) != ((p : Nat) : Int)) = false := by simp
        have qe : (st.err != st.err) = false := by simp
        have qe2 : (st.err == st.err) = true := by simp
        have qd : (st.done == st.done) = true := by simp
        obtain ⟨X, hX⟩ : ∃ X, X = str st.body := ⟨_, rfl⟩
        rw [← hX] at HBa HBbb
        have qx : (X.toList != X.toList) = false := by simp
        clear hX
        go_wp2_with fail
        refine HTa.out.mono ?_
        rintro e wy ⟨rfl, hw⟩
        rw [hw]
        clear hw
        go_wp2_with fail
        refine HTb.out.mono ?_
        rintro e wy ⟨rfl, hw⟩
        rw [hw]
        clear hw
        go_wp2_with fail
        refine HBa.out.mono ?_
        rintro e wy ⟨rfl, hw⟩
        rw [hw]
        clear hw
        go_wp2_with fail
        refine HBbb.out.mono ?_
        rintro e wy ⟨rfl, hw⟩
        rw [hw]
        clear hw
        go_wp2_with fail
        refine HDa.out.mono ?_
        rintro e wy ⟨rfl, hw⟩
        rw [hw]
        clear hw
        go_wp2_with fail
        refine HDb.out.mono ?_
        rintro e wy ⟨rfl, hw⟩
        rw [hw]
        clear hw
        go_wp2_with fail
        refine HEa.out.mono ?_
        rintro e wy ⟨rfl, hw⟩
        rw [hw]
        clear hw
        go_wp2_with fail
        refine HEb.out.mono ?_
        rintro e wy ⟨rfl, hw⟩
        rw [hw]
        clear hw
        go_wp2_with fail
        refine HRa.out.mono ?_
        rintro e w6 ⟨va, rfl, ho6, hb6⟩
        have HO6 : Hid (OwnF 50 wr.heap.size va st.tr w6) := ho6
        have HB6 : Hid (Below wr.heap.size wr w6) := hb6
        clear ho6 hb6
        go_wp2_with fail
        refine (HRb.out _ HB6.out).mono ?_
        rintro e w7 ⟨vb, rfl, ho7, hb7⟩
        have HO7 : Hid (OwnF 50 w6.heap.size vb st.tr w7) := ho7
        have HOa7 : Hid (OwnF 50 wr.heap.size va st.tr w7) := HO6.out.below hb7
        have HB7 : Hid (Below wr.heap.size wr w7) := bel_trans HB6.out hb7
        clear ho7 hb7
        go_wp2_with fail
        refine (plain_any vb st.tr w7 HO7.out.rd (by have := HTL.out; omega)).mono ?_
        rintro e w8 ⟨vp, rfl, ho8, hb8⟩
        have HO8 : Hid (OwnF 51 w7.heap.size vp st.tr w8) := ho8
        have HOa8 : Hid (OwnF 50 wr.heap.size va st.tr w8) := HOa7.out.below hb8
        have HB8 : Hid (Below wr.heap.size wr w8) := bel_trans HB7.out hb8
        clear ho8 hb8
        go_wp2_with fail
        refine (same_any va vp st.tr w8 HOa8.out.rd HO8.out.rd (by have := HTL.out; omega)).mono ?_
        rintro e w9 ⟨rfl, hb9⟩
        have HB9 : Hid (Below wr.heap.size wr w9) := bel_trans HB8.out hb9
        clear hb9
        go_wp2
        go_ret
        refine ⟨rfl, ?_⟩
        have h := bel_trans HBz.out HB9.out
        exact h
      | false =>
        have HDN : Hid (st.done = false) := hdn
        rw [hdn] at HDb0
        clear hdn
        by_cases her : st.err = 0
        · have HER : Hid (st.err = 0) := her
          rw [her] at HEb0
          clear her
          go_wp2_with fail
          refine HDb0.out.mono ?_
          rintro e wy ⟨rfl, hw⟩
          rw [hw]
          clear hw
          go_wp2_with fail
          refine HEb0.out.mono ?_
          rintro e wy ⟨rfl, hw⟩
          rw [hw]
          clear hw
          -- one more piece
          have HM5 : Hid (st.mode ≠ 5) := (fun e => by
            rcases hpt.out.ok.over.1 e with h | h
            · have := HDN.out; rw [this] at h; cases h
            · exact h HER.out : st.mode ≠ 5)
          go_wp2_with fail
          refine (kind_any wr C ((RS.size : Int) + 1) HC.out.1 HC.out.2 (by omega) (by omega)).mono ?_
          rintro e w5 ⟨k, rfl, hk, hb5⟩
          have HB5 : Hid (Below wr.heap.size wr w5) := hb5
          have hkR : k ≤ RS.size := by omega
          have HDB5 : Hid (Dec w5 D2 st bsB) := hdb.out.below hb5
          have HDA5 : Hid (Dec w5 D1 (feedS s0 t.data.toList) bsA) := hda.out.below hb5
          have HBb5 : Hid (Base w1 w5 bsB) := hbb.out.below hb5
          have hks : (RS.extract 0 k).size = k := by rw [take_ext, str_size, List.length_take, size_list]; omega
          have HF2 : Hid (Calls Tryd.prog 6 #[.pointer (some ⟨D2, 0, none⟩), .string (RS.extract 0 k)] w5 fun ex w' => ex = .returned (.tuple #[.int .i64 (feedN st (RS.extract 0 k).data.toList), .int .i64 (feedE st (RS.extract 0 k).data.toList)]) ∧ ∃ bs', Dec w' D2 (feedS st (RS.extract 0 k).data.toList) bs' ∧ Goes bsB w5 bs' w') := Feed_any HBb5.out HDB5.out hpt.out.ok (RS.extract 0 k) (by have := HPL.out; have := HSR.out; omega)
          rw [show (RS.extract 0 k).data.toList = (t.data.toList.drop p).take k by rw [take_ext, str_list, HDR.out]] at HF2
          have hpf := hpt.out.feed HM5.out k (by rw [List.length_drop, size_list]; have := HSR.out; omega)
          have hle2 := eat_le ((t.data.toList.drop p).take k) st
          rw [List.length_take] at hle2
          have hN2 : feedN st ((t.data.toList.drop p).take k) = ((eat st ((t.data.toList.drop p).take k)).1 : Int) := by unfold feedN; rw [if_neg HM5.out]
          have hE2 : feedE st ((t.data.toList.drop p).take k) = (feedS st ((t.data.toList.drop p).take k)).err := by unfold feedE feedS; rw [if_neg HM5.out, if_neg HM5.out]
          rw [hN2, hE2] at HF2
          have HPF : Hid (Part s0 t.data.toList (p + (eat st ((t.data.toList.drop p).take k)).1) (feedS st ((t.data.toList.drop p).take k))) := hpf
          clear hN2 hE2 hpf hb5 hks
          generalize feedS st ((t.data.toList.drop p).take k) = sf at *
          generalize (eat st ((t.data.toList.drop p).take k)).1 = q at *
          have hqk : q ≤ k := by omega
          clear hle2
          go_wp2_with fail
          refine HF2.out.mono ?_
          rintro e w6 ⟨rfl, bsF, hdF, hgF⟩
          have HA6 : Hid (Dec w6 D1 (feedS s0 t.data.toList) bsA) := HDA5.out.but hgF.but (fun x hx e => hdis.out x e hx)
          have HB6 : Hid (Dec w6 D2 sf bsF) := hdF
          have HBs6 : Hid (Base w1 w6 bsF) := HBb5.out.goes hgF
          have HDis6 : Hid (∀ x, x ∈ bsF → x ∉ bsA) := (fun x hx e => by
            rcases hgF.sub x hx with h | h
            · exact hdis.out x h e
            · have := HDA5.out.lt x e
              omega : ∀ x, x ∈ bsF → x ∉ bsA)
          have HBw6 : Hid (Below B0 w w6) := by
            have h := HBs6.out.bel
            show Below B0 w w6
            rw [← hB0]
            have hb1 := HB1.out
            rw [← hB0] at hb1
            exact bel_trans hb1 h
          clear hdF hgF HF2
          have hq0 : ¬ ((q : Int) < 0) := by omega
          have hqk' : ¬ ((q : Int) > (k : Int)) := by omega
          have hqR : q ≤ RS.size := by omega
          have HPE : Hid ((p : Int) + (q : Int) = ((p + q : Nat) : Int)) := (by omega : (p : Int) + (q : Int) = ((p + q : Nat) : Int))
          have hwp : IntKind.i64.wrap ((p : Int) + (q : Int)) = (p : Int) + (q : Int) := by rw [IntKind.wrap_i64]; have := HPL.out; omega
          go_wp2_with fail
          go_quiet (fail)
          all_goals
            have hb9 := bel_drewN (Below.refl w6.heap.size w6) nq
            have HX1 : Hid (Dec (w6.drewN nq) D1 (feedS s0 t.data.toList) bsA) := HA6.out.below hb9
            have HX2 : Hid (Dec (w6.drewN nq) D2 sf bsF) := HB6.out.below hb9
            have HX3 : Hid (Base w1 (w6.drewN nq) bsF) := HBs6.out.below hb9
            have HX4 : Hid (Below B0 w (w6.drewN nq)) := by
              have h := HBw6.out
              show Below B0 w _
              exact bel_drewN h nq
            have HX5 : Hid (RS.extract q RS.size = t.extract (p + q) t.size) := HRS.out q hqR
            clear hb9
            generalize w6.drewN nq = w7 at *
            go_wp2
            go_roundw
            case rel => exact ⟨i + 1, p + q, sf, bsF, by omega, by go_num, by go_num, by rw [HX5.out], rfl, HPF.out, HX1.out, HX2.out, HDis6.out, HX3.out, HX4.out⟩
            case measure => simp [intOf]; omega
        · have HER : Hid (st.err ≠ 0) := her
          have her' : (st.err != 0) = true := by simp [her]
          have her2 : (st.err == 0) = false := by simp [her]
          clear her
          have HP : Hid (feedS s0 t.data.toList = st ∧ feedN s0 t.data.toList = p ∧ feedE s0 t.data.toList = st.err) := hpt.out.over HM0.out HT0.out (eat_over (hpt.out.ok.over.2 (.inr HER.out)) _)
          have HPt : Hid (st.total = (p : Int)) := hpt.out.total
          have HTL : Hid (st.tr.length ≤ 1048576) := (by have := hpt.out.ok.len; have := HPL.out; omega : st.tr.length ≤ 1048576)
          have HA : Hid (Dec wr D1 (feedS s0 t.data.toList) bsA) := hda.out
          have HBb : Hid (Dec wr D2 st bsB) := hdb.out
          have HBz : Hid (Below w.heap.size w wr) := HBz0.out
          go_wp2_with fail
          refine HDb0.out.mono ?_
          rintro e wy ⟨rfl, hw⟩
          rw [hw]
          clear hw
          go_wp2_with fail
          refine HEb0.out.mono ?_
          rintro e wy ⟨rfl, hw⟩
          rw [hw]
          clear hw
          go_wp2_with fail
          refine HDb0.out.mono ?_
          rintro e wy ⟨rfl, hw⟩
          rw [hw]
          clear hw
          go_wp2_with fail
          refine HEb0.out.mono ?_
          rintro e wy ⟨rfl, hw⟩
          rw [hw]
          clear hw
          -- all of it told: both are as if fed at once
          obtain ⟨HS1, HN1, HE1⟩ := HP.out
          have hDa : Dec wr D1 st bsA := by rw [← HS1]; exact HA.out
          have HAa : Hid (Dec wr D1 st bsA) := hDa
          clear hDa
          have HTa : Hid (Calls Tryd.prog 10 #[.pointer (some ⟨D1, 0, none⟩)] wr fun e w' => e = .returned (.int .i64 (p : Int)) ∧ w' = wr) := by
            have h := Total_any HAa.out
            rw [HPt.out] at h
            exact h
          have HTb : Hid (Calls Tryd.prog 10 #[.pointer (some ⟨D2, 0, none⟩)] wr fun e w' => e = .returned (.int .i64 (p : Int)) ∧ w' = wr) := by
            have h := Total_any HBb.out
            rw [HPt.out] at h
            exact h
          have HBa : Hid (Calls Tryd.prog 11 #[.pointer (some ⟨D1, 0, none⟩)] wr fun e w' => e = .returned (.string (str st.body)) ∧ w' = wr) := Body_any HAa.out
          have HBbb : Hid (Calls Tryd.prog 11 #[.pointer (some ⟨D2, 0, none⟩)] wr fun e w' => e = .returned (.string (str st.body)) ∧ w' = wr) := Body_any HBb.out
          have HDa : Hid (Calls Tryd.prog 7 #[.pointer (some ⟨D1, 0, none⟩)] wr fun e w' => e = .returned (.bool st.done) ∧ w' = wr) := Done_any HAa.out
          have HDb : Hid (Calls Tryd.prog 7 #[.pointer (some ⟨D2, 0, none⟩)] wr fun e w' => e = .returned (.bool st.done) ∧ w' = wr) := Done_any HBb.out
          have HEa : Hid (Calls Tryd.prog 8 #[.pointer (some ⟨D1, 0, none⟩)] wr fun e w' => e = .returned (.int .i64 st.err) ∧ w' = wr) := Err_any HAa.out
          have HEb : Hid (Calls Tryd.prog 8 #[.pointer (some ⟨D2, 0, none⟩)] wr fun e w' => e = .returned (.int .i64 st.err) ∧ w' = wr) := Err_any HBb.out
          have HRa : Hid (Calls Tryd.prog 13 #[.pointer (some ⟨D1, 0, none⟩)] wr fun e w' => ∃ v, e = .returned v ∧ OwnF 50 wr.heap.size v st.tr w' ∧ Below wr.heap.size wr w') := Trailers_any HAa.out (by have := HTL.out; omega)
          have HRb : Hid (∀ w1, Below wr.heap.size wr w1 → Calls Tryd.prog 13 #[.pointer (some ⟨D2, 0, none⟩)] w1 fun e w' => ∃ v, e = .returned v ∧ OwnF 50 w1.heap.size v st.tr w' ∧ Below w1.heap.size w1 w') := fun w1 hb => Trailers_any (HBb.out.below hb) (by have := HTL.out; omega)
          rw [HN1, HE1]
          clear HN1 HE1 HS1
          have qn : (((p : Nat) : Int) != ((p : Nat) : Int)) = false := by simp
          have qe : (st.err != st.err) = false := by simp
          have qe2 : (st.err == st.err) = true := by simp
          have qd : (st.done == st.done) = true := by simp
          obtain ⟨X, hX⟩ : ∃ X, X = str st.body := ⟨_, rfl⟩
          rw [← hX] at HBa HBbb
          have qx : (X.toList != X.toList) = false := by simp
          clear hX
          go_wp2_with fail
          refine HTa.out.mono ?_
          rintro e wy ⟨rfl, hw⟩
          rw [hw]
          clear hw
          go_wp2_with fail
          refine HTb.out.mono ?_
          rintro e wy ⟨rfl, hw⟩
          rw [hw]
          clear hw
          go_wp2_with fail
          refine HBa.out.mono ?_
          rintro e wy ⟨rfl, hw⟩
          rw [hw]
          clear hw
          go_wp2_with fail
          refine HBbb.out.mono ?_
          rintro e wy ⟨rfl, hw⟩
          rw [hw]
          clear hw
          go_wp2_with fail
          refine HDa.out.mono ?_
          rintro e wy ⟨rfl, hw⟩
          rw [hw]
          clear hw
          go_wp2_with fail
          refine HDb.out.mono ?_
          rintro e wy ⟨rfl, hw⟩
          rw [hw]
          clear hw
          go_wp2_with fail
          refine HEa.out.mono ?_
          rintro e wy ⟨rfl, hw⟩
          rw [hw]
          clear hw
          go_wp2_with fail
          refine HEb.out.mono ?_
          rintro e wy ⟨rfl, hw⟩
          rw [hw]
          clear hw
          go_wp2_with fail
          refine HRa.out.mono ?_
          rintro e w6 ⟨va, rfl, ho6, hb6⟩
          have HO6 : Hid (OwnF 50 wr.heap.size va st.tr w6) := ho6
          have HB6 : Hid (Below wr.heap.size wr w6) := hb6
          clear ho6 hb6
          go_wp2_with fail
          refine (HRb.out _ HB6.out).mono ?_
          rintro e w7 ⟨vb, rfl, ho7, hb7⟩
          have HO7 : Hid (OwnF 50 w6.heap.size vb st.tr w7) := ho7
          have HOa7 : Hid (OwnF 50 wr.heap.size va st.tr w7) := HO6.out.below hb7
          have HB7 : Hid (Below wr.heap.size wr w7) := bel_trans HB6.out hb7
          clear ho7 hb7
          go_wp2_with fail
          refine (plain_any vb st.tr w7 HO7.out.rd (by have := HTL.out; omega)).mono ?_
          rintro e w8 ⟨vp, rfl, ho8, hb8⟩
          have HO8 : Hid (OwnF 51 w7.heap.size vp st.tr w8) := ho8
          have HOa8 : Hid (OwnF 50 wr.heap.size va st.tr w8) := HOa7.out.below hb8
          have HB8 : Hid (Below wr.heap.size wr w8) := bel_trans HB7.out hb8
          clear ho8 hb8
          go_wp2_with fail
          refine (same_any va vp st.tr w8 HOa8.out.rd HO8.out.rd (by have := HTL.out; omega)).mono ?_
          rintro e w9 ⟨rfl, hb9⟩
          have HB9 : Hid (Below wr.heap.size wr w9) := bel_trans HB8.out hb9
          clear hb9
          go_wp2
          go_ret
          refine ⟨rfl, ?_⟩
          have h := bel_trans HBz.out HB9.out
          exact h
    · cases hdn : st.done with
      | true =>
        have HDN : Hid (st.done = true) := hdn
        rw [hdn] at HDb0
        clear hdn
        have HP : Hid (feedS s0 t.data.toList = st ∧ feedN s0 t.data.toList = p ∧ feedE s0 t.data.toList = st.err) := hpt.out.over HM0.out HT0.out (eat_over (hpt.out.ok.over.2 (.inl HDN.out)) _)
        have HPt : Hid (st.total = (p : Int)) := hpt.out.total
        have HTL : Hid (st.tr.length ≤ 1048576) := (by have := hpt.out.ok.len; have := HPL.out; omega : st.tr.length ≤ 1048576)
        have HA : Hid (Dec wr D1 (feedS s0 t.data.toList) bsA) := hda.out
        have HBb : Hid (Dec wr D2 st bsB) := hdb.out
        have HBz : Hid (Below w.heap.size w wr) := HBz0.out
        go_wp2_with fail
        refine HDb0.out.mono ?_
        rintro e wy ⟨rfl, hw⟩
        rw [hw]
        clear hw
        -- all of it told: both are as if fed at once
        obtain ⟨HS1, HN1, HE1⟩ := HP.out
        have hDa : Dec wr D1 st bsA := by rw [← HS1]; exact HA.out
        have HAa : Hid (Dec wr D1 st bsA) := hDa
        clear hDa
        have HTa : Hid (Calls Tryd.prog 10 #[.pointer (some ⟨D1, 0, none⟩)] wr fun e w' => e = .returned (.int .i64 (p : Int)) ∧ w' = wr) := by
          have h := Total_any HAa.out
          rw [HPt.out] at h
          exact h
        have HTb : Hid (Calls Tryd.prog 10 #[.pointer (some ⟨D2, 0, none⟩)] wr fun e w' => e = .returned (.int .i64 (p : Int)) ∧ w' = wr) := by
          have h := Total_any HBb.out
          rw [HPt.out] at h
          exact h
        have HBa : Hid (Calls Tryd.prog 11 #[.pointer (some ⟨D1, 0, none⟩)] wr fun e w' => e = .returned (.string (str st.body)) ∧ w' = wr) := Body_any HAa.out
        have HBbb : Hid (Calls Tryd.prog 11 #[.pointer (some ⟨D2, 0, none⟩)] wr fun e w' => e = .returned (.string (str st.body)) ∧ w' = wr) := Body_any HBb.out
        have HDa : Hid (Calls Tryd.prog 7 #[.pointer (some ⟨D1, 0, none⟩)] wr fun e w' => e = .returned (.bool st.done) ∧ w' = wr) := Done_any HAa.out
        have HDb : Hid (Calls Tryd.prog 7 #[.pointer (some ⟨D2, 0, none⟩)] wr fun e w' => e = .returned (.bool st.done) ∧ w' = wr) := Done_any HBb.out
        have HEa : Hid (Calls Tryd.prog 8 #[.pointer (some ⟨D1, 0, none⟩)] wr fun e w' => e = .returned (.int .i64 st.err) ∧ w' = wr) := Err_any HAa.out
        have HEb : Hid (Calls Tryd.prog 8 #[.pointer (some ⟨D2, 0, none⟩)] wr fun e w' => e = .returned (.int .i64 st.err) ∧ w' = wr) := Err_any HBb.out
        have HRa : Hid (Calls Tryd.prog 13 #[.pointer (some ⟨D1, 0, none⟩)] wr fun e w' => ∃ v, e = .returned v ∧ OwnF 50 wr.heap.size v st.tr w' ∧ Below wr.heap.size wr w') := Trailers_any HAa.out (by have := HTL.out; omega)
        have HRb : Hid (∀ w1, Below wr.heap.size wr w1 → Calls Tryd.prog 13 #[.pointer (some ⟨D2, 0, none⟩)] w1 fun e w' => ∃ v, e = .returned v ∧ OwnF 50 w1.heap.size v st.tr w' ∧ Below w1.heap.size w1 w') := fun w1 hb => Trailers_any (HBb.out.below hb) (by have := HTL.out; omega)
        rw [HN1, HE1]
        clear HN1 HE1 HS1
        have qn : (((p : Nat) : Int) != ((p : Nat) : Int)) = false := by simp
        have qe : (st.err != st.err) = false := by simp
        have qe2 : (st.err == st.err) = true := by simp
        have qd : (st.done == st.done) = true := by simp
        obtain ⟨X, hX⟩ : ∃ X, X = str st.body := ⟨_, rfl⟩
        rw [← hX] at HBa HBbb
        have qx : (X.toList != X.toList) = false := by simp
        clear hX
        go_wp2_with fail
        refine HTa.out.mono ?_
        rintro e wy ⟨rfl, hw⟩
        rw [hw]
        clear hw
        go_wp2_with fail
        refine HTb.out.mono ?_
        rintro e wy ⟨rfl, hw⟩
        rw [hw]
        clear hw
        go_wp2_with fail
        refine HBa.out.mono ?_
        rintro e wy ⟨rfl, hw⟩
        rw [hw]
        clear hw
        go_wp2_with fail
        refine HBbb.out.mono ?_
        rintro e wy ⟨rfl, hw⟩
        rw [hw]
        clear hw
        go_wp2_with fail
        refine HDa.out.mono ?_
        rintro e wy ⟨rfl, hw⟩
        rw [hw]
        clear hw
        go_wp2_with fail
        refine HDb.out.mono ?_
        rintro e wy ⟨rfl, hw⟩
        rw [hw]
        clear hw
        go_wp2_with fail
        refine HEa.out.mono ?_
        rintro e wy ⟨rfl, hw⟩
        rw [hw]
        clear hw
        go_wp2_with fail
        refine HEb.out.mono ?_
        rintro e wy ⟨rfl, hw⟩
        rw [hw]
        clear hw
        go_wp2_with fail
        refine HRa.out.mono ?_
        rintro e w6 ⟨va, rfl, ho6, hb6⟩
        have HO6 : Hid (OwnF 50 wr.heap.size va st.tr w6) := ho6
        have HB6 : Hid (Below wr.heap.size wr w6) := hb6
        clear ho6 hb6
        go_wp2_with fail
        refine (HRb.out _ HB6.out).mono ?_
        rintro e w7 ⟨vb, rfl, ho7, hb7⟩
        have HO7 : Hid (OwnF 50 w6.heap.size vb st.tr w7) := ho7
        have HOa7 : Hid (OwnF 50 wr.heap.size va st.tr w7) := HO6.out.below hb7
        have HB7 : Hid (Below wr.heap.size wr w7) := bel_trans HB6.out hb7
        clear ho7 hb7
        go_wp2_with fail
        refine (plain_any vb st.tr w7 HO7.out.rd (by have := HTL.out; omega)).mono ?_
        rintro e w8 ⟨vp, rfl, ho8, hb8⟩
        have HO8 : Hid (OwnF 51 w7.heap.size vp st.tr w8) := ho8
        have HOa8 : Hid (OwnF 50 wr.heap.size va st.tr w8) := HOa7.out.below hb8
        have HB8 : Hid (Below wr.heap.size wr w8) := bel_trans HB7.out hb8
        clear ho8 hb8
        go_wp2_with fail
        refine (same_any va vp st.tr w8 HOa8.out.rd HO8.out.rd (by have := HTL.out; omega)).mono ?_
        rintro e w9 ⟨rfl, hb9⟩
        have HB9 : Hid (Below wr.heap.size wr w9) := bel_trans HB8.out hb9
        clear hb9
        go_wp2
        go_ret
        refine ⟨rfl, ?_⟩
        have h := bel_trans HBz.out HB9.out
        exact h
      | false =>
        have HDN : Hid (st.done = false) := hdn
        rw [hdn] at HDb0
        clear hdn
        by_cases her : st.err = 0
        · have HER : Hid (st.err = 0) := her
          rw [her] at HEb0
          clear her
          go_wp2_with fail
          refine HDb0.out.mono ?_
          rintro e wy ⟨rfl, hw⟩
          rw [hw]
          clear hw
          go_wp2_with fail
          refine HEb0.out.mono ?_
          rintro e wy ⟨rfl, hw⟩
          rw [hw]
          clear hw
          -- the rest is fed
          have HM5 : Hid (st.mode ≠ 5) := (fun e => by
            rcases hpt.out.ok.over.1 e with h | h
            · have := HDN.out; rw [this] at h; cases h
            · exact h HER.out : st.mode ≠ 5)
          have HF2 : Hid (Calls Tryd.prog 6 #[.pointer (some ⟨D2, 0, none⟩), .string RS] wr fun ex w' => ex = .returned (.tuple #[.int .i64 (feedN st RS.data.toList), .int .i64 (feedE st RS.data.toList)]) ∧ ∃ bs', Dec w' D2 (feedS st RS.data.toList) bs' ∧ Goes bsB wr bs' w') := Feed_any hbb.out hdb.out hpt.out.ok RS (by have := HPL.out; have := HSR.out; omega)
          rw [HDR.out] at HF2
          have hpf := hpt.out.feed HM5.out (t.data.toList.drop p).length (Nat.le_refl _)
          rw [List.take_length] at hpf
          have hle2 := eat_le (t.data.toList.drop p) st
          rw [List.length_drop, size_list] at hle2
          have hN2 : feedN st (t.data.toList.drop p) = ((eat st (t.data.toList.drop p)).1 : Int) := by unfold feedN; rw [if_neg HM5.out]
          have hE2 : feedE st (t.data.toList.drop p) = (feedS st (t.data.toList.drop p)).err := by unfold feedE feedS; rw [if_neg HM5.out, if_neg HM5.out]
          have HOv : Hid (eat (feedS st (t.data.toList.drop p)) (t.data.toList.drop (p + (eat st (t.data.toList.drop p)).1)) = (0, feedS st (t.data.toList.drop p))) := by
            show eat _ _ = _
            by_cases h5 : (eat st (t.data.toList.drop p)).2.mode = 5
            · exact eat_over (s := feedS st (t.data.toList.drop p)) (by unfold feedS; rw [if_neg HM5.out]; exact h5) _
            · have := eat_all _ _ h5
              have e0 : t.data.toList.drop (p + (eat st (t.data.toList.drop p)).1) = [] := List.drop_eq_nil_of_le (by rw [this, List.length_drop]; omega)
              rw [e0, eat_nil]
          rw [hN2, hE2] at HF2
          have HPF : Hid (Part s0 t.data.toList (p + (eat st (t.data.toList.drop p)).1) (feedS st (t.data.toList.drop p))) := hpf
          clear hN2 hE2 hpf
          generalize feedS st (t.data.toList.drop p) = sf at *
          generalize (eat st (t.data.toList.drop p)).1 = q at *
          go_wp2_with fail
          refine HF2.out.mono ?_
          rintro e w5 ⟨rfl, bsF, hdF, hgF⟩
          have HA5 : Hid (Dec w5 D1 (feedS s0 t.data.toList) bsA) := hda.out.but hgF.but (fun x hx e => hdis.out x e hx)
          have HB5 : Hid (Dec w5 D2 sf bsF) := hdF
          have HZ5 : Hid (Below w.heap.size w w5) := by
            have h := (hbb.out.goes hgF).bel
            have hb1 := HB1.out
            rw [← hB0] at hb1
            exact bel_trans hb1 h
          clear hdF hgF HF2
          obtain ⟨P, hP⟩ : ∃ P : Nat, P = p + q := ⟨_, rfl⟩
          rw [← hP] at HPF HOv
          have hsum : (p : Int) + (q : Int) = (P : Int) := by omega
          have hp2 : p ≤ 1048576 := by have := HPL.out; omega
          have hq2 : q ≤ 1048576 := by omega
          have hP2 : P ≤ 2097152 := by omega
          have hwp : IntKind.i64.wrap (P : Int) = (P : Int) := by rw [IntKind.wrap_i64]; omega
          clear hle2
          have HPL2 : Hid (P ≤ t.size) := (by have := HPF.out.le; rw [size_list] at this; exact this : P ≤ t.size)
          clear hP
          have HP : Hid (feedS s0 t.data.toList = sf ∧ feedN s0 t.data.toList = P ∧ feedE s0 t.data.toList = sf.err) := HPF.out.over HM0.out HT0.out HOv.out
          have HPt : Hid (sf.total = (P : Int)) := HPF.out.total
          have HTL : Hid (sf.tr.length ≤ 1048576) := (by have := HPF.out.ok.len; have := HPL2.out; omega : sf.tr.length ≤ 1048576)
          have HA : Hid (Dec w5 D1 (feedS s0 t.data.toList) bsA) := HA5.out
          have HBb : Hid (Dec w5 D2 sf bsF) := HB5.out
          have HBz : Hid (Below w.heap.size w w5) := HZ5.out
          -- all of it told: both are as if fed at once
          obtain ⟨HS1, HN1, HE1⟩ := HP.out
          have hDa : Dec w5 D1 sf bsA := by rw [← HS1]; exact HA.out
          have HAa : Hid (Dec w5 D1 sf bsA) := hDa
          clear hDa
          have HTa : Hid (Calls Tryd.prog 10 #[.pointer (some ⟨D1, 0, none⟩)] w5 fun e w' => e = .returned (.int .i64 (P : Int)) ∧ w' = w5) := by
            have h := Total_any HAa.out
            rw [HPt.out] at h
            exact h
          have HTb : Hid (Calls Tryd.prog 10 #[.pointer (some ⟨D2, 0, none⟩)] w5 fun e w' => e = .returned (.int .i64 (P : Int)) ∧ w' = w5) := by
            have h := Total_any HBb.out
            rw [HPt.out] at h
            exact h
          have HBa : Hid (Calls Tryd.prog 11 #[.pointer (some ⟨D1, 0, none⟩)] w5 fun e w' => e = .returned (.string (str sf.body)) ∧ w' = w5) := Body_any HAa.out
          have HBbb : Hid (Calls Tryd.prog 11 #[.pointer (some ⟨D2, 0, none⟩)] w5 fun e w' => e = .returned (.string (str sf.body)) ∧ w' = w5) := Body_any HBb.out
          have HDa : Hid (Calls Tryd.prog 7 #[.pointer (some ⟨D1, 0, none⟩)] w5 fun e w' => e = .returned (.bool sf.done) ∧ w' = w5) := Done_any HAa.out
          have HDb : Hid (Calls Tryd.prog 7 #[.pointer (some ⟨D2, 0, none⟩)] w5 fun e w' => e = .returned (.bool sf.done) ∧ w' = w5) := Done_any HBb.out
          have HEa : Hid (Calls Tryd.prog 8 #[.pointer (some ⟨D1, 0, none⟩)] w5 fun e w' => e = .returned (.int .i64 sf.err) ∧ w' = w5) := Err_any HAa.out
          have HEb : Hid (Calls Tryd.prog 8 #[.pointer (some ⟨D2, 0, none⟩)] w5 fun e w' => e = .returned (.int .i64 sf.err) ∧ w' = w5) := Err_any HBb.out
          have HRa : Hid (Calls Tryd.prog 13 #[.pointer (some ⟨D1, 0, none⟩)] w5 fun e w' => ∃ v, e = .returned v ∧ OwnF 50 w5.heap.size v sf.tr w' ∧ Below w5.heap.size w5 w') := Trailers_any HAa.out (by have := HTL.out; omega)
          have HRb : Hid (∀ w1, Below w5.heap.size w5 w1 → Calls Tryd.prog 13 #[.pointer (some ⟨D2, 0, none⟩)] w1 fun e w' => ∃ v, e = .returned v ∧ OwnF 50 w1.heap.size v sf.tr w' ∧ Below w1.heap.size w1 w') := fun w1 hb => Trailers_any (HBb.out.below hb) (by have := HTL.out; omega)
          rw [HN1, HE1]
          clear HN1 HE1 HS1
          have qn : (((P : Nat) : Int) != ((P : Nat) : Int)) = false := by simp
          have qe : (sf.err != sf.err) = false := by simp
          have qe2 : (sf.err == sf.err) = true := by simp
          have qd : (sf.done == sf.done) = true := by simp
          obtain ⟨X, hX⟩ : ∃ X, X = str sf.body := ⟨_, rfl⟩
          rw [← hX] at HBa HBbb
          have qx : (X.toList != X.toList) = false := by simp
          clear hX
          go_wp2_with fail
          refine HTa.out.mono ?_
          rintro e wy ⟨rfl, hw⟩
          rw [hw]
          clear hw
          go_wp2_with fail
          refine HTb.out.mono ?_
          rintro e wy ⟨rfl, hw⟩
          rw [hw]
          clear hw
          go_wp2_with fail
          refine HBa.out.mono ?_
          rintro e wy ⟨rfl, hw⟩
          rw [hw]
          clear hw
          go_wp2_with fail
          refine HBbb.out.mono ?_
          rintro e wy ⟨rfl, hw⟩
          rw [hw]
          clear hw
          go_wp2_with fail
          refine HDa.out.mono ?_
          rintro e wy ⟨rfl, hw⟩
          rw [hw]
          clear hw
          go_wp2_with fail
          refine HDb.out.mono ?_
          rintro e wy ⟨rfl, hw⟩
          rw [hw]
          clear hw
          go_wp2_with fail
          refine HEa.out.mono ?_
          rintro e wy ⟨rfl, hw⟩
          rw [hw]
          clear hw
          go_wp2_with fail
          refine HEb.out.mono ?_
          rintro e wy ⟨rfl, hw⟩
          rw [hw]
          clear hw
          go_wp2_with fail
          refine HRa.out.mono ?_
          rintro e w6 ⟨va, rfl, ho6, hb6⟩
          have HO6 : Hid (OwnF 50 w5.heap.size va sf.tr w6) := ho6
          have HB6 : Hid (Below w5.heap.size w5 w6) := hb6
          clear ho6 hb6
          go_wp2_with fail
          refine (HRb.out _ HB6.out).mono ?_
          rintro e w7 ⟨vb, rfl, ho7, hb7⟩
          have HO7 : Hid (OwnF 50 w6.heap.size vb sf.tr w7) := ho7
          have HOa7 : Hid (OwnF 50 w5.heap.size va sf.tr w7) := HO6.out.below hb7
          have HB7 : Hid (Below w5.heap.size w5 w7) := bel_trans HB6.out hb7
          clear ho7 hb7
          go_wp2_with fail
          refine (plain_any vb sf.tr w7 HO7.out.rd (by have := HTL.out; omega)).mono ?_
          rintro e w8 ⟨vp, rfl, ho8, hb8⟩
          have HO8 : Hid (OwnF 51 w7.heap.size vp sf.tr w8) := ho8
          have HOa8 : Hid (OwnF 50 w5.heap.size va sf.tr w8) := HOa7.out.below hb8
          have HB8 : Hid (Below w5.heap.size w5 w8) := bel_trans HB7.out hb8
          clear ho8 hb8
          go_wp2_with fail
          refine (same_any va vp sf.tr w8 HOa8.out.rd HO8.out.rd (by have := HTL.out; omega)).mono ?_
          rintro e w9 ⟨rfl, hb9⟩
          have HB9 : Hid (Below w5.heap.size w5 w9) := bel_trans HB8.out hb9
          clear hb9
          go_wp2
          go_ret
          refine ⟨rfl, ?_⟩
          have h := bel_trans HBz.out HB9.out
          exact h
        · have HER : Hid (st.err ≠ 0) := her
          have her' : (st.err != 0) = true := by simp [her]
          have her2 : (st.err == 0) = false := by simp [her]
          clear her
          have HP : Hid (feedS s0 t.data.toList = st ∧ feedN s0 t.data.toList = p ∧ feedE s0 t.data.toList = st.err) := hpt.out.over HM0.out HT0.out (eat_over (hpt.out.ok.over.2 (.inr HER.out)) _)
          have HPt : Hid (st.total = (p : Int)) := hpt.out.total
          have HTL : Hid (st.tr.length ≤ 1048576) := (by have := hpt.out.ok.len; have := HPL.out; omega : st.tr.length ≤ 1048576)
          have HA : Hid (Dec wr D1 (feedS s0 t.data.toList) bsA) := hda.out
          have HBb : Hid (Dec wr D2 st bsB) := hdb.out
          have HBz : Hid (Below w.heap.size w wr) := HBz0.out
          go_wp2_with fail
          refine HDb0.out.mono ?_
          rintro e wy ⟨rfl, hw⟩
          rw [hw]
          clear hw
          go_wp2_with fail
          refine HEb0.out.mono ?_
          rintro e wy ⟨rfl, hw⟩
          rw [hw]
          clear hw
          -- all of it told: both are as if fed at once
          obtain ⟨HS1, HN1, HE1⟩ := HP.out
          have hDa : Dec wr D1 st bsA := by rw [← HS1]; exact HA.out
          have HAa : Hid (Dec wr D1 st bsA) := hDa
          clear hDa
          have HTa : Hid (Calls Tryd.prog 10 #[.pointer (some ⟨D1, 0, none⟩)] wr fun e w' => e = .returned (.int .i64 (p : Int)) ∧ w' = wr) := by
            have h := Total_any HAa.out
            rw [HPt.out] at h
            exact h
          have HTb : Hid (Calls Tryd.prog 10 #[.pointer (some ⟨D2, 0, none⟩)] wr fun e w' => e = .returned (.int .i64 (p : Int)) ∧ w' = wr) := by
            have h := Total_any HBb.out
            rw [HPt.out] at h
            exact h
          have HBa : Hid (Calls Tryd.prog 11 #[.pointer (some ⟨D1, 0, none⟩)] wr fun e w' => e = .returned (.string (str st.body)) ∧ w' = wr) := Body_any HAa.out
          have HBbb : Hid (Calls Tryd.prog 11 #[.pointer (some ⟨D2, 0, none⟩)] wr fun e w' => e = .returned (.string (str st.body)) ∧ w' = wr) := Body_any HBb.out
          have HDa : Hid (Calls Tryd.prog 7 #[.pointer (some ⟨D1, 0, none⟩)] wr fun e w' => e = .returned (.bool st.done) ∧ w' = wr) := Done_any HAa.out
          have HDb : Hid (Calls Tryd.prog 7 #[.pointer (some ⟨D2, 0, none⟩)] wr fun e w' => e = .returned (.bool st.done) ∧ w' = wr) := Done_any HBb.out
          have HEa : Hid (Calls Tryd.prog 8 #[.pointer (some ⟨D1, 0, none⟩)] wr fun e w' => e = .returned (.int .i64 st.err) ∧ w' = wr) := Err_any HAa.out
          have HEb : Hid (Calls Tryd.prog 8 #[.pointer (some ⟨D2, 0, none⟩)] wr fun e w' => e = .returned (.int .i64 st.err) ∧ w' = wr) := Err_any HBb.out
          have HRa : Hid (Calls Tryd.prog 13 #[.pointer (some ⟨D1, 0, none⟩)] wr fun e w' => ∃ v, e = .returned v ∧ OwnF 50 wr.heap.size v st.tr w' ∧ Below wr.heap.size wr w') := Trailers_any HAa.out (by have := HTL.out; omega)
          have HRb : Hid (∀ w1, Below wr.heap.size wr w1 → Calls Tryd.prog 13 #[.pointer (some ⟨D2, 0, none⟩)] w1 fun e w' => ∃ v, e = .returned v ∧ OwnF 50 w1.heap.size v st.tr w' ∧ Below w1.heap.size w1 w') := fun w1 hb => Trailers_any (HBb.out.below hb) (by have := HTL.out; omega)
          rw [HN1, HE1]
          clear HN1 HE1 HS1
          have qn : (((p : Nat) : Int) != ((p : Nat) : Int)) = false := by simp
          have qe : (st.err != st.err) = false := by simp
          have qe2 : (st.err == st.err) = true := by simp
          have qd : (st.done == st.done) = true := by simp
          obtain ⟨X, hX⟩ : ∃ X, X = str st.body := ⟨_, rfl⟩
          rw [← hX] at HBa HBbb
          have qx : (X.toList != X.toList) = false := by simp
          clear hX
          go_wp2_with fail
          refine HTa.out.mono ?_
          rintro e wy ⟨rfl, hw⟩
          rw [hw]
          clear hw
          go_wp2_with fail
          refine HTb.out.mono ?_
          rintro e wy ⟨rfl, hw⟩
          rw [hw]
          clear hw
          go_wp2_with fail
          refine HBa.out.mono ?_
          rintro e wy ⟨rfl, hw⟩
          rw [hw]
          clear hw
          go_wp2_with fail
          refine HBbb.out.mono ?_
          rintro e wy ⟨rfl, hw⟩
          rw [hw]
          clear hw
          go_wp2_with fail
          refine HDa.out.mono ?_
          rintro e wy ⟨rfl, hw⟩
          rw [hw]
          clear hw
          go_wp2_with fail
          refine HDb.out.mono ?_
          rintro e wy ⟨rfl, hw⟩
          rw [hw]
          clear hw
          go_wp2_with fail
          refine HEa.out.mono ?_
          rintro e wy ⟨rfl, hw⟩
          rw [hw]
          clear hw
          go_wp2_with fail
          refine HEb.out.mono ?_
          rintro e wy ⟨rfl, hw⟩
          rw [hw]
          clear hw
          go_wp2_with fail
          refine HRa.out.mono ?_
          rintro e w6 ⟨va, rfl, ho6, hb6⟩
          have HO6 : Hid (OwnF 50 wr.heap.size va st.tr w6) := ho6
          have HB6 : Hid (Below wr.heap.size wr w6) := hb6
          clear ho6 hb6
          go_wp2_with fail
          refine (HRb.out _ HB6.out).mono ?_
          rintro e w7 ⟨vb, rfl, ho7, hb7⟩
          have HO7 : Hid (OwnF 50 w6.heap.size vb st.tr w7) := ho7
          have HOa7 : Hid (OwnF 50 wr.heap.size va st.tr w7) := HO6.out.below hb7
          have HB7 : Hid (Below wr.heap.size wr w7) := bel_trans HB6.out hb7
          clear ho7 hb7
          go_wp2_with fail
          refine (plain_any vb st.tr w7 HO7.out.rd (by have := HTL.out; omega)).mono ?_
          rintro e w8 ⟨vp, rfl, ho8, hb8⟩
          have HO8 : Hid (OwnF 51 w7.heap.size vp st.tr w8) := ho8
          have HOa8 : Hid (OwnF 50 wr.heap.size va st.tr w8) := HOa7.out.below hb8
          have HB8 : Hid (Below wr.heap.size wr w8) := bel_trans HB7.out hb8
          clear ho8 hb8
          go_wp2_with fail
          refine (same_any va vp st.tr w8 HOa8.out.rd HO8.out.rd (by have := HTL.out; omega)).mono ?_
          rintro e w9 ⟨rfl, hb9⟩
          have HB9 : Hid (Below wr.heap.size wr w9) := bel_trans HB8.out hb9
          clear hb9
          go_wp2
          go_ret
          refine ⟨rfl, ?_⟩
          have h := bel_trans HBz.out HB9.out
          exact h

end Ck
end Go.Proofs.YtdbnlpnnfnodnabDoor
