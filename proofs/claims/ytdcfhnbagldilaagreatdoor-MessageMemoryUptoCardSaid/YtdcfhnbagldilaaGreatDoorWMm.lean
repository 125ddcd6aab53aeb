import Derived.Test.YtdcfhnbagldilaaGreatDoorMuV
import Derived.Test.YtdcfhnbagldilaaGreatDoorCHp
import Derived.Deep.Cut
import Derived.Deep.CutRange
import Derived.Deep.CutBlock
import Derived.Deep.DeepCutAuto
import Derived.BigQuiet
set_option linter.unusedVariables false
set_option linter.unusedSimpArgs false
set_option maxRecDepth 100000
namespace Go.Proofs.YtdcfhnbagldilaaGreatDoor
open Go.RowKit Go.Shelf
namespace Ms
open Oc Tg _root_.Go.Proofs.YtdcfhnbagldilaaGreatDoor.Fd _root_.Go.Proofs.YtdcfhnbagldilaaGreatDoor.Ck
theorem docP_none (me : List UInt8) (B : ByteArray) (m : Nat) (en : Bool) (h : (docP me B m en).1 = none) : (docP me B m en).2.2 ≠ 0 := by
  have hn := docH_none B
  unfold docP at h ⊢
  generalize docH B = D at *
  obtain ⟨o, n, e⟩ := D
  cases o with
  | none => exact hn rfl
  | some x =>
    have h : (docB me B m en x n).1 = none := h
    show (docB me B m en x n).2.2 ≠ 0
    unfold docB at h ⊢
    split
    · rename_i c; rw [if_pos c] at h; cases h
    rename_i c; rw [if_neg c] at h
    split
    · rename_i c2
      rw [if_pos c2] at h
      split
      · rename_i c3; exact c3
      · rename_i c3; rw [if_neg c3] at h; cases h
    rename_i c2; rw [if_neg c2] at h
    split
    · rename_i c3
      rw [if_pos c3] at h
      split
      · show (125 : Int) ≠ 0; decide
      rename_i c4; rw [if_neg c4] at h
      split
      · show (124 : Int) ≠ 0; decide
      · rename_i c5; rw [if_neg c5] at h; cases h
    rename_i c3; rw [if_neg c3] at h
    split
    · show (125 : Int) ≠ 0; decide
    rename_i c4; rw [if_neg c4] at h
    split
    · show (124 : Int) ≠ 0; decide
    · rename_i c5; rw [if_neg c5] at h; cases h
theorem own_lt2 {T B : Nat} {v : Value} {L : List Fl} {w : World} (h : OwnF T B v L w) : ∀ x, x ∈ v.ownBlock.toList → B ≤ x ∧ x < w.heap.size := fun x hx => World.ownsRow.lt h x (by simpa using hx)
theorem blk_no {T FT B : Nat} {v : Value} {L : List Fl} {w : World} {D : Nat} {cs : List Value} (h : Blk T w D cs) (ho : OwnF FT B v L w) (hT : T ≠ FT) : D ∉ v.ownBlock.toList := fun e => by
  have : v.ownBlock = some D := by simpa using e
  exact h.ne ho hT this rfl
def memT : List UInt8 := [72, 84, 84, 80, 47, 49, 46, 49, 32, 50, 48, 48, 32, 79, 75, 13, 10, 65, 58, 32, 49, 13, 10, 84, 114, 97, 110, 115, 102, 101, 114, 45, 69, 110, 99, 111, 100, 105, 110, 103, 58, 32, 99, 104, 117, 110, 107, 101, 100, 13, 10, 13, 10, 48, 13, 10, 66, 58, 32, 50, 13, 10, 67, 58, 32, 51, 13, 10, 13, 10]
theorem mem_ok : (docP [71, 69, 84] ⟨memT.toArray⟩ 9 false).2.2 = 0 := by decide +kernel
def SM (w : World) (g0 : Nat) (A TX : ByteArray) (m : Nat) (en : Bool) (wx : World) : Prop := (∃ T', Blk 23 wx g0 [.string A, .string T', .int .i64 (m : Int), .bool en]) ∧ Below g0 w wx ∧ (A.size ≤ 1048576 ∧ TX.size ≤ 1048576 ∧ m ≤ 9223372036854775807) ∧ (docP A.data.toList TX m en).2.2 = 0
def Nm (n : List UInt8) (k : Nat) (L : List Fl) : Prop := ∀ j, j < k → (Fd.nth L j).1 = n
theorem Nm.zero (n : List UInt8) (L : List Fl) : Nm n 0 L := fun j h => by omega
theorem nth_set (L : List Fl) (k j : Nat) (p : Fl) (h : k < L.length) : Fd.nth (L.set k p) j = if j = k then p else Fd.nth L j := by
  unfold Fd.nth
  rw [List.getD_eq_getElem?_getD, List.getD_eq_getElem?_getD, List.getElem?_set]
  by_cases e : j = k
  · subst e; simp [h]
  · rw [if_neg (fun h => e h.symm), if_neg e]
theorem Nm.step {n : List UInt8} {k : Nat} {L : List Fl} (h : Nm n k L) (hk : k < L.length) (x : List UInt8) : Nm n (k + 1) (L.set k (n, x)) := fun j hj => by
  rw [nth_set L k j _ hk]
  by_cases e : j = k
  · rw [if_pos e]
  · rw [if_neg e]; exact h j (by omega)
def Two (a b : List UInt8) (n k : Nat) (G : List Fl) : Prop := G.length = n + k ∧ ∀ j, j < n + k → (Fd.nth G j).1 = if j < n then a else b
theorem Two.start {a b : List UInt8} {n : Nat} {L : List Fl} (hl : L.length = n) (h : Nm a n L) : Two a b n 0 L := ⟨by omega, fun j hj => by rw [if_pos (by omega)]; exact h j (by omega)⟩
theorem Two.snoc {a b : List UInt8} {n k : Nat} {G : List Fl} (h : Two a b n k G) : Two a b n (k + 1) (G ++ [(b, [])]) := by
  refine ⟨by rw [List.length_append, h.1]; rfl, fun j hj => ?_⟩
  unfold Fd.nth
  rw [List.getD_eq_getElem?_getD]
  rcases Nat.lt_or_ge j (n + k) with hlt | hge
  · rw [List.getElem?_append_left (by rw [h.1]; exact hlt), ← List.getD_eq_getElem?_getD]
    exact h.2 j hlt
  · have : j = n + k := by omega
    subst this
    rw [List.getElem?_append_right (by rw [h.1]; exact Nat.le_refl _), h.1, Nat.sub_self, if_neg (by omega)]
    rfl
theorem goes_left {xs ys zs : List Nat} {w w' : World} (h : Goes xs w ys w') : Goes (xs ++ zs) w (ys ++ zs) w' :=
  ⟨h.but.mono (fun x hx => List.mem_append_left _ hx), fun x hx => by
    rcases List.mem_append.1 hx with e | e
    · rcases h.sub x e with q | q
      · exact .inl (List.mem_append_left _ q)
      · exact .inr q
    · exact .inl (List.mem_append_right _ e)⟩
theorem goes_right {xs ys zs : List Nat} {w w' : World} (h : Goes xs w ys w') : Goes (zs ++ xs) w (zs ++ ys) w' :=
  ⟨h.but.mono (fun x hx => List.mem_append_right _ hx), fun x hx => by
    rcases List.mem_append.1 hx with e | e
    · exact .inl (List.mem_append_left _ e)
    · rcases h.sub x e with q | q
      · exact .inl (List.mem_append_right _ q)
      · exact .inr q⟩
theorem sp2_grow {FT B : Nat} {u v u' : Value} {L : List Fl} {w w' : World} (h : Sp2 u v) (ho : OwnF FT B v L w) (g : Goes u.ownBlock.toList w u'.ownBlock.toList w') : Sp2 u' v := fun k h1 h2 => by
  rcases g.sub k (by simpa using h1) with e | e
  · exact h k (by simpa using e) h2
  · have := (own_lt2 ho k (by simpa using h2)).2
    omega
theorem sp2_symm {u v : Value} (h : Sp2 u v) : Sp2 v u := fun g h1 h2 => h g h2 h1
set_option maxHeartbeats 8000000 in
theorem walk_MessageMemory (A B : ByteArray) (m : Int) (en : Bool) (hb : A.size + B.size ≤ 1048576) (hm : i64 m) (w : World) (hw : Env w) (hp : Pow w) :
    Calls Tryz.prog 4 #[.agg #[.string A, .string B, .int .i64 m, .bool en]] w fun e w' => e = .returned (.bool true) ∧ Below w.heap.size w w' := by
  obtain ⟨w0, hw0⟩ : ∃ w0, w0 = w.alloc (.cells #[.string A, .string B, .int .i64 m, .bool en] 23) := ⟨_, rfl⟩
  have HB0 : Hid (Below w.heap.size w w0) := (by rw [hw0]; exact (Below.refl _ w).alloc (Nat.le_refl _) _ : Below _ _ _)
  have HS0 : Hid (Blk 23 w0 w.heap.size [.string A, .string B, .int .i64 m, .bool en]) := (by rw [hw0]; exact heap_alloc_new w _ : Blk _ _ _ _)
  have HW0 : Hid (w0 = _) := hw0
  have HE : Hid (Env w) := hw
  have HA : Hid (Calls _ _ _ _ _) := awake_any w0 (hw.below HB0.out) (hp.below HB0.out (Nat.le_refl _))
  obtain ⟨-, hq2, -⟩ := parse_q A B m en hm (by omega)
  have HP2 : Hid (∀ W, Calls _ _ _ W _) := fun W => hq2 W
  have HQe : Hid ((docQ A.data.toList B m en).2.2 = 0 → ∃ k : Nat, m = (k : Int) ∧ k ≤ 9223372036854775807 ∧ (docP A.data.toList B k en).2.2 = 0) := (fun h => by
    by_cases hneg : m < 0
    · have e : docQ A.data.toList B m en = (none, 0, 1) := if_pos hneg
      rw [e] at h
      cases h
    · have e : docQ A.data.toList B m en = docP A.data.toList B m.toNat en := if_neg hneg
      rw [e] at h
      exact ⟨m.toNat, by omega, by unfold i64 at hm; omega, h⟩ : _ → _)
  have HMm : Hid (∀ w g0 wx T', Blk 23 wx g0 [.string ⟨#[71, 69, 84]⟩, .string T', .int .i64 ((9 : Nat) : Int), .bool false] → Below g0 w wx → SM w g0 ⟨#[71, 69, 84]⟩ ⟨memT.toArray⟩ 9 false wx) := fun w g0 wx T' h1 h2 => ⟨⟨T', h1⟩, h2, ⟨by decide, by decide, by decide⟩, mem_ok⟩
  have hsz : A.size ≤ 1048576 ∧ B.size ≤ 1048576 := by omega
  generalize docQ A.data.toList B m en = Q at *
  clear hq2 hw0 hw hp
  go_enter Tryz.func4, Tryz.ntmps4
  go_wp2_with fail
  rw [← HW0.out]
  clear HW0
  generalize hg0 : w.heap.size = g0 at *
  have HG0 : Hid (w.heap.size = g0) := hg0
  clear hg0
  refine HA.out.mono ?_
  rintro e w1 ⟨rfl, hb1⟩
  have HB1 : Hid (Below g0 w w1) := HB0.out.trans (hb1.mono (by have := HB0.out.size; have := HG0.out; omega))
  have HS1 : Hid (Blk 23 w1 g0 [.string A, .string B, .int .i64 m, .bool en]) := HS0.out.below hb1
  clear hb1 HA HB0 HS0
  have s0 := HS1.out.cell 0 rfl
  have s1 := HS1.out.cell 1 rfl
  have s2 := HS1.out.cell 2 rfl
  have s3 := HS1.out.cell 3 rfl
  go_wp2_with fail
  refine (HP2.out w1).mono ?_
  rintro e w2 ⟨vf, vt, rfl, hq, hb2⟩
  obtain ⟨d0, d1, d2, d2n, d2c, d3, d4, d5, d5n, d5c, d6, d7, d8, hA⟩ := ansD_form hq
  rw [hA]
  obtain ⟨w3, hw3⟩ : ∃ w3, w3 = w2.alloc (.cells #[.int .i64 d0, .string d1, .slice d2 d2n d2c, .string d3, .int .i64 d4, .slice d5 d5n d5c, .int .i64 d6, .int .i64 d7, .bool d8] 39) := ⟨_, rfl⟩
  have hba : Below w2.heap.size w2 w3 := by rw [hw3]; exact (Below.refl _ w2).alloc (Nat.le_refl _) _
  have HB3 : Hid (Below g0 w w3) := (HB1.out.trans (hb2.mono (by have := HB1.out.size; have := HG0.out; omega))).trans (hba.mono (by have := HB1.out.size; have := hb2.size; have := HG0.out; omega))
  have HS3 : Hid (Blk 23 w3 g0 [.string A, .string B, .int .i64 m, .bool en]) := (HS1.out.below hb2).below hba
  have HW3 : Hid (w3 = _) := hw3
  clear hq hb2 hba hw3 hA HP2 s0 s1 s2 s3
  generalize hn1 : Q.2.2 = qe at *
  clear hn1
  go_upto_if 42 with fail
  rw [← HW3.out]
  clear HW3
  go_cut [3] from 43 (fun s3 wx => ∃ (A' TX : ByteArray) (m' : Nat) (en' : Bool), s3 = .string TX ∧ Hid (SM w g0 A' TX m' en' wx))
  case first =>
    by_cases hz : qe = 0
    · subst hz
      obtain ⟨k, rfl, hk, hd⟩ := HQe.out rfl
      have s1 := HS3.out.cell 1 rfl
      go_wp2_with fail
      go_meet
      exact ⟨A, B, k, en, rfl, ⟨⟨B, HS3.out⟩, HB3.out, ⟨hsz.1, hsz.2, hk⟩, hd⟩⟩
    · have hz1 : (qe == 0) = false := by simp [hz]
      have s0 := HS3.out.cell 0 rfl
      have s1 := HS3.out.cell 1 rfl
      have s2 := HS3.out.cell 2 rfl
      have s3 := HS3.out.cell 3 rfl
      have sf := HS3.out.free
      go_wp2_with fail
      go_meet
      have hb4 := setD (setD (setD (setD (But.refl [g0] w3) 0 (.string ⟨#[71, 69, 84]⟩)) 1 (.string ⟨#[]⟩)) 2 (.int .i64 9)) 3 (.bool false)
      exact ⟨⟨#[71, 69, 84]⟩, ⟨memT.toArray⟩, 9, false, rfl, HMm.out w g0 _ ⟨#[]⟩ ((((HS3.out.set 0 _).set 1 _).set 2 _).set 3 _) (HB3.out.trans (hb4.below (by have := HS3.out.lt; omega) (fun x hx => by simp at hx; omega)))⟩
  case rest =>
  obtain ⟨A', TX, m', en', rfl, hSM⟩ := hcut
  obtain ⟨⟨T', hS⟩, hBl, ⟨hA1, hT1, hm1⟩, hd0⟩ := hSM.out
  have HSc : Hid (Blk 23 wc g0 [.string A', .string T', .int .i64 (m' : Int), .bool en']) := hS
  have HBc : Hid (Below g0 w wc) := hBl
  have hsome := docP_none A'.data.toList TX m' en'
  have hcnt := docP_cnt A'.data.toList TX m' en' hm1
  have HPp : Hid (∀ W, Env W → Calls _ _ _ W _) := fun W h => Parse_sep A' TX m' en' hm1 (by omega) W h
  have HPr : Hid (∀ W, Calls _ _ _ W _) := fun W => rParse_any A' TX m' en' hm1 (by omega) W
  clear hSM hS hBl HMm HQe HB3 HS3 HB1 HS1 hsz hb hm
  generalize docP A'.data.toList TX m' en' = D at *
  obtain ⟨o, n, e0⟩ := D
  have hd0 : e0 = 0 := hd0
  subst hd0
  cases o with
  | none => exact absurd rfl (hsome rfl)
  | some x =>
  obtain ⟨⟨st, rs, fs, mi, kind, len, per⟩, bd, tr⟩ := x
  obtain ⟨hfl, htl⟩ := hcnt _ rfl
  have hfl : fs.length ≤ 100 := hfl
  have htl : tr.length ≤ 1048576 := Nat.le_trans htl hT1
  have hAns : ∀ v u, ansD (some (⟨st, rs, fs, mi, kind, len, per⟩, bd, tr), n, 0) v u = [.int .i64 st, .string (str rs), v, .string (str bd), .int .i64 mi, u, .int .i64 kind, .int .i64 len, .bool per] := fun _ _ => rfl
  have HOp : Hid (∀ FT v u k W, RpO FT (some (⟨st, rs, fs, mi, kind, len, per⟩, bd, tr), n, 0) v u k W → OwnF FT k v fs W ∧ OwnF FT k u tr W) := fun FT v u k W h => h _ rfl
  dsimp only at HPp HPr
  simp only [hAns] at HPp HPr
  obtain ⟨RS, hRS⟩ : ∃ RS, RS = str rs := ⟨_, rfl⟩
  obtain ⟨BD, hBD⟩ : ∃ BD, BD = str bd := ⟨_, rfl⟩
  rw [← hRS, ← hBD] at HPp HPr
  clear hsome hcnt hAns hRS hBD hA1 hT1
  have s0 := HSc.out.cell 0 rfl
  have s2 := HSc.out.cell 2 rfl
  have s3 := HSc.out.cell 3 rfl
  go_wp2_with fail
  refine (HPp.out wc (HE.out.below (by rw [HG0.out]; exact HBc.out))).mono ?_
  rintro e wa ⟨vfg7, vtg7, rfl, hq, hbwa, hsp⟩
  obtain ⟨ho1, ho2⟩ := HOp.out _ _ _ _ _ hq
  obtain ⟨fa, fc, rfl⟩ := ownF_form ho1
  obtain ⟨ta, tc, rfl⟩ := ownF_form ho2
  obtain ⟨wA, hws⟩ : ∃ wA, wA = wa.alloc (.cells #[.int .i64 st, .string RS, .slice fa fs.length fc, .string BD, .int .i64 mi, .slice ta tr.length tc, .int .i64 kind, .int .i64 len, .bool per] 31) := ⟨_, rfl⟩
  have hba : Below wa.heap.size wa wA := by rw [hws]; exact (Below.refl _ _).alloc (Nat.le_refl _) _
  obtain ⟨g7, hg⟩ : ∃ g7, g7 = wa.heap.size := ⟨_, rfl⟩
  have HXg7 : Hid (Blk 31 wA g7 [.int .i64 st, .string RS, .slice fa fs.length fc, .string BD, .int .i64 mi, .slice ta tr.length tc, .int .i64 kind, .int .i64 len, .bool per]) := (by rw [hws, hg]; exact heap_alloc_new wa _ : Blk _ _ _ _)
  have HFg7 : Hid (OwnF 47 wc.heap.size (.slice fa fs.length fc) fs wA) := OwnF.below ho1 hba
  have HTg7 : Hid (OwnF 47 wc.heap.size (.slice ta tr.length tc) tr wA) := OwnF.below ho2 hba
  have HSpg7 : Hid (Sp2 (.slice fa fs.length fc) (.slice ta tr.length tc)) := hsp
  have HBwA : Hid (Below g0 w wA) := (HBc.out.trans (hbwa.mono (by have := HBc.out.size; have := HG0.out; omega))).trans (hba.mono (by have := HBc.out.size; have := hbwa.size; have := HG0.out; omega))
  have HSwA : Hid (Blk 23 wA g0 [.string A', .string T', .int .i64 (m' : Int), .bool en']) := (HSc.out.below hbwa).below hba
  have HYwA : Hid (Below wc.heap.size wc wA) := hbwa.trans (hba.mono hbwa.size)
  have hlwA : wc.heap.size ≤ wA.heap.size := Nat.le_trans hbwa.size hba.size
  have HLg7 : Hid ((∀ x, x ∈ (Value.slice fa fs.length fc).ownBlock.toList → wc.heap.size ≤ x ∧ x < wA.heap.size) ∧ (∀ x, x ∈ (Value.slice ta tr.length tc).ownBlock.toList → wc.heap.size ≤ x ∧ x < wA.heap.size)) := (⟨own_lt2 HFg7.out, own_lt2 HTg7.out⟩ : _ ∧ _)
  have HW : Hid (wA = _) := hws
  have HGg7 : Hid (wa.heap.size = g7) := hg.symm
  have hltg7 : g0 < wa.heap.size := (HSc.out.below hbwa).lt
  have HSq : Hid (Blk 23 wa g0 [.string A', .string T', .int .i64 (m' : Int), .bool en']) := HSc.out.below hbwa
  clear hq hbwa ho1 ho2 hws hba hg hsp s0 s2 s3
  have s0 := HSq.out.cell 0 rfl
  have s2 := HSq.out.cell 2 rfl
  have s3 := HSq.out.cell 3 rfl
  go_wp2_with fail
  rw [← HW.out]
  rw [HGg7.out]
  clear HW HGg7 hltg7 HSq
  refine (HPp.out wA (HE.out.below (by rw [HG0.out]; exact HBwA.out))).mono ?_
  rintro e wb ⟨vfg10, vtg10, rfl, hq, hbwb, hsp⟩
  obtain ⟨ho1, ho2⟩ := HOp.out _ _ _ _ _ hq
  obtain ⟨ga, gc, rfl⟩ := ownF_form ho1
  obtain ⟨ua, uc, rfl⟩ := ownF_form ho2
  obtain ⟨wB, hws⟩ : ∃ wB, wB = wb.alloc (.cells #[.int .i64 st, .string RS, .slice ga fs.length gc, .string BD, .int .i64 mi, .slice ua tr.length uc, .int .i64 kind, .int .i64 len, .bool per] 31) := ⟨_, rfl⟩
  have hba : Below wb.heap.size wb wB := by rw [hws]; exact (Below.refl _ _).alloc (Nat.le_refl _) _
  obtain ⟨g10, hg⟩ : ∃ g10, g10 = wb.heap.size := ⟨_, rfl⟩
  have HXg10 : Hid (Blk 31 wB g10 [.int .i64 st, .string RS, .slice ga fs.length gc, .string BD, .int .i64 mi, .slice ua tr.length uc, .int .i64 kind, .int .i64 len, .bool per]) := (by rw [hws, hg]; exact heap_alloc_new wb _ : Blk _ _ _ _)
  have HFg10 : Hid (OwnF 47 wA.heap.size (.slice ga fs.length gc) fs wB) := OwnF.below ho1 hba
  have HTg10 : Hid (OwnF 47 wA.heap.size (.slice ua tr.length uc) tr wB) := OwnF.below ho2 hba
  have HSpg10 : Hid (Sp2 (.slice ga fs.length gc) (.slice ua tr.length uc)) := hsp
  have HBwB : Hid (Below g0 w wB) := (HBwA.out.trans (hbwb.mono (by have := HBwA.out.size; have := HG0.out; omega))).trans (hba.mono (by have := HBwA.out.size; have := hbwb.size; have := HG0.out; omega))
  have HSwB : Hid (Blk 23 wB g0 [.string A', .string T', .int .i64 (m' : Int), .bool en']) := (HSwA.out.below hbwb).below hba
  have HYwB : Hid (Below wA.heap.size wA wB) := hbwb.trans (hba.mono hbwb.size)
  have hlwB : wA.heap.size ≤ wB.heap.size := Nat.le_trans hbwb.size hba.size
  have HLg10 : Hid ((∀ x, x ∈ (Value.slice ga fs.length gc).ownBlock.toList → wA.heap.size ≤ x ∧ x < wB.heap.size) ∧ (∀ x, x ∈ (Value.slice ua tr.length uc).ownBlock.toList → wA.heap.size ≤ x ∧ x < wB.heap.size)) := (⟨own_lt2 HFg10.out, own_lt2 HTg10.out⟩ : _ ∧ _)
  have HW : Hid (wB = _) := hws
  have HGg10 : Hid (wb.heap.size = g10) := hg.symm
  have hltg10 : g0 < wb.heap.size := (HSwA.out.below hbwb).lt
  have HSq : Hid (Blk 23 wb g0 [.string A', .string T', .int .i64 (m' : Int), .bool en']) := HSwA.out.below hbwb
  clear hq hbwb ho1 ho2 hws hba hg hsp s0 s2 s3
  have s0 := HSq.out.cell 0 rfl
  have s2 := HSq.out.cell 2 rfl
  have s3 := HSq.out.cell 3 rfl
  go_wp2_with fail
  rw [← HW.out]
  rw [HGg10.out]
  clear HW HGg10 hltg10 HSq
  refine (HPr.out wB).mono ?_
  rintro e wd ⟨vfg13, vtg13, rfl, hq, hbwd⟩
  obtain ⟨ho1, ho2⟩ := HOp.out _ _ _ _ _ hq
  obtain ⟨ha, hc, rfl⟩ := ownF_form ho1
  obtain ⟨va, vc, rfl⟩ := ownF_form ho2
  obtain ⟨wD, hws⟩ : ∃ wD, wD = wd.alloc (.cells #[.int .i64 st, .string RS, .slice ha fs.length hc, .string BD, .int .i64 mi, .slice va tr.length vc, .int .i64 kind, .int .i64 len, .bool per] 39) := ⟨_, rfl⟩
  have hba : Below wd.heap.size wd wD := by rw [hws]; exact (Below.refl _ _).alloc (Nat.le_refl _) _
  obtain ⟨g13, hg⟩ : ∃ g13, g13 = wd.heap.size := ⟨_, rfl⟩
  have HXg13 : Hid (Blk 39 wD g13 [.int .i64 st, .string RS, .slice ha fs.length hc, .string BD, .int .i64 mi, .slice va tr.length vc, .int .i64 kind, .int .i64 len, .bool per]) := (by rw [hws, hg]; exact heap_alloc_new wd _ : Blk _ _ _ _)
  have HFg13 : Hid (OwnF 64 wB.heap.size (.slice ha fs.length hc) fs wD) := OwnF.below ho1 hba
  have HTg13 : Hid (OwnF 64 wB.heap.size (.slice va tr.length vc) tr wD) := OwnF.below ho2 hba
  have HBwD : Hid (Below g0 w wD) := (HBwB.out.trans (hbwd.mono (by have := HBwB.out.size; have := HG0.out; omega))).trans (hba.mono (by have := HBwB.out.size; have := hbwd.size; have := HG0.out; omega))
  have HSwD : Hid (Blk 23 wD g0 [.string A', .string T', .int .i64 (m' : Int), .bool en']) := (HSwB.out.below hbwd).below hba
  have HYwD : Hid (Below wB.heap.size wB wD) := hbwd.trans (hba.mono hbwd.size)
  have hlwD : wB.heap.size ≤ wD.heap.size := Nat.le_trans hbwd.size hba.size
  have HLg13 : Hid ((∀ x, x ∈ (Value.slice ha fs.length hc).ownBlock.toList → wB.heap.size ≤ x ∧ x < wD.heap.size) ∧ (∀ x, x ∈ (Value.slice va tr.length vc).ownBlock.toList → wB.heap.size ≤ x ∧ x < wD.heap.size)) := (⟨own_lt2 HFg13.out, own_lt2 HTg13.out⟩ : _ ∧ _)
  have HW : Hid (wD = _) := hws
  have HGg13 : Hid (wd.heap.size = g13) := hg.symm
  have hltg13 : g0 < wd.heap.size := (HSwB.out.below hbwd).lt
  have HSq : Hid (Blk 23 wd g0 [.string A', .string T', .int .i64 (m' : Int), .bool en']) := HSwB.out.below hbwd
  have HAwd : Hid (Blk 31 wd g7 [.int .i64 st, .string RS, .slice fa fs.length fc, .string BD, .int .i64 mi, .slice ta tr.length tc, .int .i64 kind, .int .i64 len, .bool per]) := (HXg7.out.below HYwB.out).below hbwd
  clear hq hbwd ho1 ho2 hws hba hg s0 s2 s3
  have s0 := HSq.out.cell 0 rfl
  have s2 := HSq.out.cell 2 rfl
  have s3 := HSq.out.cell 3 rfl
  have HA5' : Hid (Blk 31 wD g7 [.int .i64 st, .string RS, .slice fa fs.length fc, .string BD, .int .i64 mi, .slice ta tr.length tc, .int .i64 kind, .int .i64 len, .bool per]) := (HXg7.out.below HYwB.out).below HYwD.out
  have HFa5' : Hid (OwnF 47 wc.heap.size (.slice fa fs.length fc) fs wD) := OwnF.below (OwnF.below HFg7.out HYwB.out) HYwD.out
  have HTa5' : Hid (OwnF 47 wc.heap.size (.slice ta tr.length tc) tr wD) := OwnF.below (OwnF.below HTg7.out HYwB.out) HYwD.out
  have HBb5' : Hid (Blk 31 wD g10 [.int .i64 st, .string RS, .slice ga fs.length gc, .string BD, .int .i64 mi, .slice ua tr.length uc, .int .i64 kind, .int .i64 len, .bool per]) := HXg10.out.below HYwD.out
  have HFb5' : Hid (OwnF 47 wA.heap.size (.slice ga fs.length gc) fs wD) := OwnF.below HFg10.out HYwD.out
  have HTb5' : Hid (OwnF 47 wA.heap.size (.slice ua tr.length uc) tr wD) := OwnF.below HTg10.out HYwD.out
  have HSp : Hid (Sp2 (.slice fa fs.length fc) (.slice ta tr.length tc)) := HSpg7
  clear HXg7 HFg7 HTg7 HXg10 HFg10 HTg10 HSpg7 HSpg10
  have cAd := HAwd.out.cell 2 rfl
  have hAd := HAwd.out.lt
  have HXw : Hid (Blk 39 wD g13 [.int .i64 st, .string RS, .slice ha fs.length hc, .string BD, .int .i64 mi, .slice va tr.length vc, .int .i64 kind, .int .i64 len, .bool per]) := HXg13
  go_wp2
  rw [← HW.out]
  try rw [HGg13.out]
  clear HW HGg13 hltg13 HSq s0 s2 s3 cAd hAd HAwd
  obtain ⟨w5, hw5⟩ : ∃ w5, w5 = wD := ⟨_, rfl⟩
  rw [← hw5] at HA5' HFa5' HTa5' HBb5' HFb5' HTb5' HXw HFg13 HTg13 HBwD HSwD HLg13 hlwD ⊢
  have HA5 := HA5'
  have HFa5 := HFa5'
  have HTa5 := HTa5'
  clear HA5' HFa5' HTa5'
  clear hw5
  go_loopw [92] (fun i wr => ∃ (k : Nat) (L : List Fl), k ≤ fs.length ∧ i = .int .i64 k ∧ Hid (L.length = fs.length) ∧ Hid (Nm [109, 97, 114, 107] k L) ∧ Hid (OwnF 47 wc.heap.size (.slice fa fs.length fc) L wr) ∧ Hid (But (Value.slice fa fs.length fc).ownBlock.toList w5 wr)) (fun i _ => fs.length - (intOf i).toNat)
  case atStart => exact ⟨0, fs, Nat.zero_le _, rfl, (rfl : _ = _), Nm.zero _ _, HFa5, But.refl _ _⟩
  case round =>
    obtain ⟨k, L, hk, rfl, hLl, hNm, hOw, hBt⟩ := hrel
    have HAr : Hid (Blk 31 wr g7 [.int .i64 st, .string RS, .slice fa fs.length fc, .string BD, .int .i64 mi, .slice ta tr.length tc, .int .i64 kind, .int .i64 len, .bool per]) := HA5.out.but hBt.out (blk_no HA5.out HFa5.out (by decide))
    have c2 := HAr.out.cell 2 rfl
    by_cases hlt : k < fs.length
    · have hkL : k < L.length := by rw [hLl.out]; exact hlt
      obtain ⟨g, rfl⟩ : ∃ g, fa = some ⟨g, 0, none⟩ := by
        rcases hOw.out.2 with ⟨hv, h0⟩ | ⟨g, cap, cur, hv, _⟩
        · rw [h0] at hkL; omega
        · injection hv with e1 _ _
          exact ⟨g, e1⟩
      obtain ⟨p0, p1, pf, pc⟩ := own_cell2 hOw.out hkL
      have f0 := pf (k * 2)
      have f1 := pf (k * 2 + 1)
      have HO2 : Hid (OwnF 47 wc.heap.size (.slice (some ⟨g, 0, none⟩) fs.length fc) (L.set k ([109, 97, 114, 107], [])) ((wr.setCell ⟨g, k * 2, none⟩ (.string ⟨#[109, 97, 114, 107]⟩)).setCell ⟨g, k * 2 + 1, none⟩ (.string ⟨#[]⟩))) := own_store hOw.out hkL ([109, 97, 114, 107], [])
      have HBt2 : Hid (But (Value.slice (some ⟨g, 0, none⟩) fs.length fc).ownBlock.toList w5 ((wr.setCell ⟨g, k * 2, none⟩ (.string ⟨#[109, 97, 114, 107]⟩)).setCell ⟨g, k * 2 + 1, none⟩ (.string ⟨#[]⟩))) := but_store hBt.out (by simp [Value.ownBlock]) _ _ _ _
      have HLl2 : Hid ((L.set k ([109, 97, 114, 107], [])).length = fs.length) := (by rw [List.length_set]; exact hLl.out : _ = _)
      have HNm2 : Hid (Nm [109, 97, 114, 107] (k + 1) (L.set k ([109, 97, 114, 107], []))) := Nm.step hNm.out hkL []
      clear pf hNm
      generalize str (Fd.nth L k).1 = N at p0
      generalize str (Fd.nth L k).2 = V at p1
      go_wp2
      go_roundw
      case rel => exact ⟨k + 1, L.set k ([109, 97, 114, 107], []), by omega, by go_num, HLl2, HNm2, HO2, HBt2⟩
      case measure => simp [intOf]; omega
    obtain rfl : k = fs.length := by omega
    obtain ⟨w6, hw6⟩ : ∃ w6, w6 = wr := ⟨_, rfl⟩
    rw [← hw6] at hOw hBt HAr c2 ⊢
    have HL6 : Hid (OwnF 47 wc.heap.size (.slice fa fs.length fc) L w6) := hOw
    have HLl : Hid (L.length = fs.length) := hLl
    have HNm : Hid (Nm [109, 97, 114, 107] fs.length L) := hNm
    have HB6 : Hid (But (Value.slice fa fs.length fc).ownBlock.toList w5 w6) := hBt
    have HT6 : Hid (OwnF 47 wc.heap.size (.slice ta tr.length tc) tr w6) := hBt.out.owns HTa5.out (fun g hg e => HSp.out g (by simpa using e) hg)
    have c5 := HAr.out.cell 5 rfl
    have HA6 : Hid (Blk 31 w6 g7 [.int .i64 st, .string RS, .slice fa fs.length fc, .string BD, .int .i64 mi, .slice ta tr.length tc, .int .i64 kind, .int .i64 len, .bool per]) := HAr
    clear hw6 hk hlt hLl hNm hOw hBt HAr c2
    go_wp2
    clear c5
    go_loopw [105] (fun i wr => ∃ (k : Nat) (M : List Fl), k ≤ tr.length ∧ i = .int .i64 k ∧ Hid (M.length = tr.length) ∧ Hid (Nm [116, 114, 97, 105, 108] k M) ∧ Hid (OwnF 47 wc.heap.size (.slice ta tr.length tc) M wr) ∧ Hid (But (Value.slice ta tr.length tc).ownBlock.toList w6 wr)) (fun i _ => tr.length - (intOf i).toNat)
    case atStart => exact ⟨0, tr, Nat.zero_le _, rfl, (rfl : _ = _), Nm.zero _ _, HT6, But.refl _ _⟩
    case round =>
      obtain ⟨k, M, hk, rfl, hMl, hNm, hOm, hBm⟩ := hrel
      have HAr : Hid (Blk 31 wr g7 [.int .i64 st, .string RS, .slice fa fs.length fc, .string BD, .int .i64 mi, .slice ta tr.length tc, .int .i64 kind, .int .i64 len, .bool per]) := HA6.out.but hBm.out (blk_no HA6.out HT6.out (by decide))
      have c5 := HAr.out.cell 5 rfl
      by_cases hlt : k < tr.length
      · have hkM : k < M.length := by rw [hMl.out]; exact hlt
        obtain ⟨g, rfl⟩ : ∃ g, ta = some ⟨g, 0, none⟩ := by
          rcases hOm.out.2 with ⟨hv, h0⟩ | ⟨g, cap, cur, hv, _⟩
          · rw [h0] at hkM; omega
          · injection hv with e1 _ _
            exact ⟨g, e1⟩
        obtain ⟨p0, p1, pf, pc⟩ := own_cell2 hOm.out hkM
        have f0 := pf (k * 2)
        have f1 := pf (k * 2 + 1)
        have HO2 : Hid (OwnF 47 wc.heap.size (.slice (some ⟨g, 0, none⟩) tr.length tc) (M.set k ([116, 114, 97, 105, 108], [])) ((wr.setCell ⟨g, k * 2, none⟩ (.string ⟨#[116, 114, 97, 105, 108]⟩)).setCell ⟨g, k * 2 + 1, none⟩ (.string ⟨#[]⟩))) := own_store hOm.out hkM ([116, 114, 97, 105, 108], [])
        have HBt2 : Hid (But (Value.slice (some ⟨g, 0, none⟩) tr.length tc).ownBlock.toList w6 ((wr.setCell ⟨g, k * 2, none⟩ (.string ⟨#[116, 114, 97, 105, 108]⟩)).setCell ⟨g, k * 2 + 1, none⟩ (.string ⟨#[]⟩))) := but_store hBm.out (by simp [Value.ownBlock]) _ _ _ _
        have HLl2 : Hid ((M.set k ([116, 114, 97, 105, 108], [])).length = tr.length) := (by rw [List.length_set]; exact hMl.out : _ = _)
        have HNm2 : Hid (Nm [116, 114, 97, 105, 108] (k + 1) (M.set k ([116, 114, 97, 105, 108], []))) := Nm.step hNm.out hkM []
        clear pf hNm
        generalize str (Fd.nth M k).1 = N at p0
        generalize str (Fd.nth M k).2 = V at p1
        go_wp2
        go_roundw
        case rel => exact ⟨k + 1, M.set k ([116, 114, 97, 105, 108], []), by omega, by go_num, HLl2, HNm2, HO2, HBt2⟩
        case measure => simp [intOf]; omega
      obtain rfl : k = tr.length := by omega
      obtain ⟨w7, hw7⟩ : ∃ w7, w7 = wr := ⟨_, rfl⟩
      rw [← hw7] at hOm hBm HAr c5 ⊢
      have HM7 : Hid (OwnF 47 wc.heap.size (.slice ta tr.length tc) M w7) := hOm
      have HL7 : Hid (OwnF 47 wc.heap.size (.slice fa fs.length fc) L w7) := hBm.out.owns HL6.out (fun g hg e => HSp.out g hg (by simpa using e))
      have HGl : Hid (Two [109, 97, 114, 107] [103, 114, 111, 119, 110] fs.length 0 L) := Two.start HLl.out HNm.out
      have HGm : Hid (Two [116, 114, 97, 105, 108] [116, 97, 108, 108] tr.length 0 M) := Two.start hMl.out hNm.out
      have HA7 : Hid (Blk 31 w7 g7 [.int .i64 st, .string RS, .slice fa fs.length fc, .string BD, .int .i64 mi, .slice ta tr.length tc, .int .i64 kind, .int .i64 len, .bool per]) := HAr
      have HB7 : Hid (But ((Value.slice fa fs.length fc).ownBlock.toList ++ (Value.slice ta tr.length tc).ownBlock.toList) w5 w7) := (HB6.out.mono (fun x hx => List.mem_append_left _ hx)).trans (hBm.out.mono (fun x hx => List.mem_append_right _ hx))
      have c2 := HAr.out.cell 2 rfl
      clear hw7 hk hlt hMl hNm hOm hBm HAr
      go_wp2_with fail
      go_quiet (fail)
      go_wp2
      obtain ⟨w8, hw8⟩ : ∃ w8, w8 = w7.drewN nq := ⟨_, rfl⟩
      have hbq : Below w7.heap.size w7 w8 := by rw [hw8]; exact below_drew w7 nq
      have HL8 : Hid (OwnF 47 wc.heap.size (.slice fa fs.length fc) L w8) := OwnF.below HL7.out hbq
      have HM8 : Hid (OwnF 47 wc.heap.size (.slice ta tr.length tc) M w8) := OwnF.below HM7.out hbq
      have HA8 : Hid (Blk 31 w8 g7 [.int .i64 st, .string RS, .slice fa fs.length fc, .string BD, .int .i64 mi, .slice ta tr.length tc, .int .i64 kind, .int .i64 len, .bool per]) := HA7.out.below hbq
      have HB8 : Hid (But ((Value.slice fa fs.length fc).ownBlock.toList ++ (Value.slice ta tr.length tc).ownBlock.toList) w5 w8) := HB7.out.trans (But.of_below hbq).nil
      rw [← hw8]
      have hsz8 : wc.heap.size ≤ w8.heap.size := by
        have h1 := HB8.out.size
        have h2 := HYwA.out.size
        have h3 := HYwB.out.size
        omega
      have HSz8 : Hid (wc.heap.size ≤ w8.heap.size) := hsz8
      clear hw8 hbq c2 c5 HL7 HM7 HA7 HB7 HA6 HT6 HL6 HB6 hsz8
      go_loopw [18, 19, 119] (fun lv tv i wr => ∃ (k : Nat) (G1 G2 : List Fl), k ≤ 9 ∧ i = .int .i64 k ∧ Hid (Two [109, 97, 114, 107] [103, 114, 111, 119, 110] fs.length k G1) ∧ Hid (Two [116, 114, 97, 105, 108] [116, 97, 108, 108] tr.length k G2) ∧ Hid (OwnF 47 wc.heap.size lv G1 wr) ∧ Hid (OwnF 47 wc.heap.size tv G2 wr) ∧ Hid (Sp2 lv tv) ∧ Hid (Goes ((Value.slice fa fs.length fc).ownBlock.toList ++ (Value.slice ta tr.length tc).ownBlock.toList) w8 (lv.ownBlock.toList ++ tv.ownBlock.toList) wr)) (fun _ _ i _ => 9 - (intOf i).toNat)
      case atStart => exact ⟨0, L, M, by omega, rfl, HGl, HGm, HL8, HM8, HSp, Goes.refl _ _⟩
      case round =>
        obtain ⟨k, G1, G2, hk, rfl, hG1, hG2, hO1, hO2, hS12, hGo⟩ := hrel
        by_cases hlt : k < 9
        · have hl1 : G1.length + 1 ≤ 2147483648 := by rw [hG1.out.1]; omega
          have hl2 : G2.length + 1 ≤ 2147483648 := by rw [hG2.out.1]; omega
          have hs1 : wc.heap.size ≤ wr.heap.size := Nat.le_trans HSz8.out hGo.out.but.size
          go_wp2_with (first
            | (at_builtin; refine wp_appF3 rfl (.tmp 121) (.tmp 123) rfl wc.heap.size u18 G1 wr ([103, 114, 111, 119, 110], []) _ _ rfl rfl rfl hO1.out _ rfl rfl hl1 hs1 ?_; intro v6 w18 o6 g6; have HO6 : Hid (OwnF 47 wc.heap.size v6 (G1 ++ [([103, 114, 111, 119, 110], [])]) w18) := o6; have HG6 : Hid (Goes u18.ownBlock.toList wr v6.ownBlock.toList w18) := g6; have HT18 : Hid (OwnF 47 wc.heap.size u19 G2 w18) := g6.but.owns hO2.out (fun g hg e => hS12.out g (by simpa using e) hg); have HS18 : Hid (Sp2 v6 u19) := sp2_grow hS12.out hO2.out g6; have hs2 : wc.heap.size ≤ w18.heap.size := Nat.le_trans hs1 g6.but.size; clear o6 g6)
            | (at_builtin; refine wp_appF3 rfl (.tmp 125) (.tmp 127) rfl wc.heap.size u19 G2 w18 ([116, 97, 108, 108], []) _ _ rfl rfl rfl HT18.out _ rfl rfl hl2 hs2 ?_; intro v7 w19 o7 g7'; have HO7 : Hid (OwnF 47 wc.heap.size v7 (G2 ++ [([116, 97, 108, 108], [])]) w19) := o7; have HG7 : Hid (Goes u19.ownBlock.toList w18 v7.ownBlock.toList w19) := g7'; clear o7 g7'))
          have HG6' : Hid (Two [109, 97, 114, 107] [103, 114, 111, 119, 110] fs.length (k + 1) (G1 ++ [([103, 114, 111, 119, 110], [])])) := Two.snoc hG1.out
          have HG7' : Hid (Two [116, 114, 97, 105, 108] [116, 97, 108, 108] tr.length (k + 1) (G2 ++ [([116, 97, 108, 108], [])])) := Two.snoc hG2.out
          have HO6' : Hid (OwnF 47 wc.heap.size v6 (G1 ++ [([103, 114, 111, 119, 110], [])]) w19) := HG7.out.but.owns HO6.out (fun g hg e => HS18.out g hg (by simpa using e))
          have HS19 : Hid (Sp2 v6 v7) := sp2_symm (sp2_grow (sp2_symm HS18.out) HO6.out HG7.out)
          have HGo' : Hid (Goes ((Value.slice fa fs.length fc).ownBlock.toList ++ (Value.slice ta tr.length tc).ownBlock.toList) w8 (v6.ownBlock.toList ++ v7.ownBlock.toList) w19) := (hGo.out.trans (goes_left HG6.out)).trans (goes_right HG7.out)
          clear hG1 hG2 hO1 hO2 hS12 hGo HO6 HG6 HG7 HT18 HS18
          go_roundw
          case rel => exact ⟨k + 1, G1 ++ [([103, 114, 111, 119, 110], [])], G2 ++ [([116, 97, 108, 108], [])], by omega, by go_num, HG6', HG7', HO6', HO7, HS19, HGo'⟩
          case measure => simp [intOf]; omega
        obtain rfl : k = 9 := by omega
        obtain ⟨la, lc, el⟩ := ownF_form hO1.out
        obtain ⟨ma, mc, em⟩ := ownF_form hO2.out
        obtain ⟨w20, hw20⟩ : ∃ w20, w20 = wr := ⟨_, rfl⟩
        rw [← hw20] at hO1 hO2 hGo ⊢
        rw [el] at hO1
        rw [em] at hO2
        have HN1 : Hid (Two [109, 97, 114, 107] [103, 114, 111, 119, 110] fs.length 9 G1) := hG1
        have HN2 : Hid (Two [116, 114, 97, 105, 108] [116, 97, 108, 108] tr.length 9 G2) := hG2
        have HO20 : Hid (OwnF 47 wc.heap.size (.slice la G1.length lc) G1 w20) := hO1
        have HP20 : Hid (OwnF 47 wc.heap.size (.slice ma G2.length mc) G2 w20) := hO2
        have HA20 : Hid (Blk 31 w20 g7 [.int .i64 st, .string RS, .slice fa fs.length fc, .string BD, .int .i64 mi, .slice ta tr.length tc, .int .i64 kind, .int .i64 len, .bool per]) := HA8.out.but hGo.out.but (fun e => by
          rcases List.mem_append.1 e with e | e
          · exact blk_no HA5.out HFa5.out (by decide) e
          · exact blk_no HA5.out HTa5.out (by decide) e)
        have HB20 : Hid (But ((Value.slice fa fs.length fc).ownBlock.toList ++ (Value.slice ta tr.length tc).ownBlock.toList) w5 w20) := HB8.out.trans hGo.out.but
        clear hw20 hG1 hG2 hO1 hO2 hS12 hGo hlt hk HL8 HM8 HA8 HB8
        subst el em
        go_wp2
        go_loopw [132] (fun i wr => ∃ k : Nat, k ≤ G1.length ∧ i = .int .i64 k ∧ Hid (Below w20.heap.size w20 wr)) (fun i _ => G1.length - (intOf i).toNat)
        case atStart => exact ⟨0, Nat.zero_le _, rfl, Below.refl _ _⟩
        case round =>
          obtain ⟨k, hk, rfl, hBr⟩ := hrel
          by_cases hlt : k < G1.length
          · have HLT : Hid (k < G1.length) := hlt
            have HAr : Hid (Blk 31 wr g7 [.int .i64 st, .string RS, .slice fa fs.length fc, .string BD, .int .i64 mi, .slice ta tr.length tc, .int .i64 kind, .int .i64 len, .bool per]) := HA20.out.below hBr.out
            have hOr := OwnF.below HO20.out hBr.out
            have hTw := HN1.out.2 k (by rw [← HN1.out.1]; exact hlt)
            obtain ⟨g, rfl⟩ : ∃ g, la = some ⟨g, 0, none⟩ := by
              rcases hOr.2 with ⟨hv, h0⟩ | ⟨g, cap, cur, hv, _⟩
              · rw [h0] at hlt; exact absurd hlt (by simp)
              · injection hv with e1 _ _
                exact ⟨g, e1⟩
            obtain ⟨p0, p1, pf, pc⟩ := own_cell2 hOr hlt
            have cL := HAr.out.cell 2 rfl
            have hg7 := HAr.out.lt
            rw [hTw] at p0
            have hkb : k ≤ 2000000 := by have := HN1.out.1; omega
            clear pf hTw hOr
            generalize str (Fd.nth G1 k).2 = V at p1
            by_cases h1 : k < fs.length
            · rw [if_pos h1] at p0
              obtain ⟨X, hX⟩ : ∃ X, X = str [109, 97, 114, 107] := ⟨_, rfl⟩
              rw [← hX] at p0
              have hXe : (X.toList == [109, 97, 114, 107]) = true := by rw [hX, ByteArray.toList_eq]; decide
              have HBn : Hid (Below w20.heap.size w20 (wr.alloc (.cells #[.string X, .string V] 47))) := hBr.out.alloc hBr.out.size _
              clear hX
              go_wp2
              go_roundw
              case rel => exact ⟨k + 1, by have := HLT.out; omega, by go_num, HBn⟩
              case measure =>
                have := HLT.out
                simp [intOf]
                omega
            · rw [if_neg h1] at p0
              obtain ⟨X, hX⟩ : ∃ X, X = str [103, 114, 111, 119, 110] := ⟨_, rfl⟩
              rw [← hX] at p0
              have hXe : (X.toList == [109, 97, 114, 107]) = false := by rw [hX, ByteArray.toList_eq]; decide
              have HBn : Hid (Below w20.heap.size w20 (wr.alloc (.cells #[.string X, .string V] 47))) := hBr.out.alloc hBr.out.size _
              clear hX
              go_wp2
              go_roundw
              case rel => exact ⟨k + 1, by have := HLT.out; omega, by go_num, HBn⟩
              case measure =>
                have := HLT.out
                simp [intOf]
                omega
          obtain rfl : k = G1.length := by omega
          obtain ⟨w21, hwn⟩ : ∃ w21, w21 = wr := ⟨_, rfl⟩
          rw [← hwn] at hBr ⊢
          have HBw21 : Hid (Below w20.heap.size w20 w21) := hBr
          clear hwn hk hlt hBr
          have HP21 : Hid (OwnF 47 wc.heap.size (.slice ma G2.length mc) G2 w21) := OwnF.below HP20.out HBw21.out
          have HA21 : Hid (Blk 31 w21 g7 [.int .i64 st, .string RS, .slice fa fs.length fc, .string BD, .int .i64 mi, .slice ta tr.length tc, .int .i64 kind, .int .i64 len, .bool per]) := HA20.out.below HBw21.out
          go_wp2
          go_loopw [150] (fun i wr => ∃ k : Nat, k ≤ G2.length ∧ i = .int .i64 k ∧ Hid (Below w21.heap.size w21 wr)) (fun i _ => G2.length - (intOf i).toNat)
          case atStart => exact ⟨0, Nat.zero_le _, rfl, Below.refl _ _⟩
          case round =>
            obtain ⟨k, hk, rfl, hBr⟩ := hrel
            by_cases hlt : k < G2.length
            · have HLT : Hid (k < G2.length) := hlt
              have HAr : Hid (Blk 31 wr g7 [.int .i64 st, .string RS, .slice fa fs.length fc, .string BD, .int .i64 mi, .slice ta tr.length tc, .int .i64 kind, .int .i64 len, .bool per]) := HA21.out.below hBr.out
              have hOr := OwnF.below HP21.out hBr.out
              have hTw := HN2.out.2 k (by rw [← HN2.out.1]; exact hlt)
              obtain ⟨g, rfl⟩ : ∃ g, ma = some ⟨g, 0, none⟩ := by
                rcases hOr.2 with ⟨hv, h0⟩ | ⟨g, cap, cur, hv, _⟩
                · rw [h0] at hlt; exact absurd hlt (by simp)
                · injection hv with e1 _ _
                  exact ⟨g, e1⟩
              obtain ⟨p0, p1, pf, pc⟩ := own_cell2 hOr hlt
              have cL := HAr.out.cell 5 rfl
              have hg7 := HAr.out.lt
              rw [hTw] at p0
              have hkb : k ≤ 2000000 := by have := HN2.out.1; omega
              clear pf hTw hOr
              generalize str (Fd.nth G2 k).2 = V at p1
              by_cases h1 : k < tr.length
              · rw [if_pos h1] at p0
                obtain ⟨X, hX⟩ : ∃ X, X = str [116, 114, 97, 105, 108] := ⟨_, rfl⟩
                rw [← hX] at p0
                have hXe : (X.toList == [116, 114, 97, 105, 108]) = true := by rw [hX, ByteArray.toList_eq]; decide
                have HBn : Hid (Below w21.heap.size w21 (wr.alloc (.cells #[.string X, .string V] 47))) := hBr.out.alloc hBr.out.size _
                clear hX
                go_wp2
                go_roundw
                case rel => exact ⟨k + 1, by have := HLT.out; omega, by go_num, HBn⟩
                case measure =>
                  have := HLT.out
                  simp [intOf]
                  omega
              · rw [if_neg h1] at p0
                obtain ⟨X, hX⟩ : ∃ X, X = str [116, 97, 108, 108] := ⟨_, rfl⟩
                rw [← hX] at p0
                have hXe : (X.toList == [116, 114, 97, 105, 108]) = false := by rw [hX, ByteArray.toList_eq]; decide
                have HBn : Hid (Below w21.heap.size w21 (wr.alloc (.cells #[.string X, .string V] 47))) := hBr.out.alloc hBr.out.size _
                clear hX
                go_wp2
                go_roundw
                case rel => exact ⟨k + 1, by have := HLT.out; omega, by go_num, HBn⟩
                case measure =>
                  have := HLT.out
                  simp [intOf]
                  omega
            obtain rfl : k = G2.length := by omega
            obtain ⟨w22, hwn⟩ : ∃ w22, w22 = wr := ⟨_, rfl⟩
            rw [← hwn] at hBr ⊢
            have HBw22 : Hid (Below w21.heap.size w21 w22) := hBr
            clear hwn hk hlt hBr
            have HK22 : Hid (But ((Value.slice fa fs.length fc).ownBlock.toList ++ (Value.slice ta tr.length tc).ownBlock.toList) w5 w22) := (HB20.out.trans (But.of_below HBw21.out).nil).trans (But.of_below HBw22.out).nil
            have hno : ∀ x, x ∈ ((Value.slice fa fs.length fc).ownBlock.toList ++ (Value.slice ta tr.length tc).ownBlock.toList) → wc.heap.size ≤ x ∧ x < wA.heap.size := fun x hx => by
              rcases List.mem_append.1 hx with e | e
              · exact HLg7.out.1 x e
              · exact HLg7.out.2 x e
            have HNo : Hid (∀ x, x ∈ ((Value.slice fa fs.length fc).ownBlock.toList ++ (Value.slice ta tr.length tc).ownBlock.toList) → wc.heap.size ≤ x ∧ x < wA.heap.size) := hno
            have HSc2 : Hid (Below g0 w w22) := HBwD.out.trans (HK22.out.below (by have := HBwD.out.size; have := HG0.out; omega) (fun x hx => by have := (HNo.out x hx).1; have := HBc.out.size; have := HG0.out; omega))
            have HS22 : Hid (Blk 23 w22 g0 [.string A', .string T', .int .i64 (m' : Int), .bool en']) := HSwD.out.but HK22.out (fun e => by have := (HNo.out _ e).1; have := HSc.out.lt; omega)
            have HX10 : Hid (Blk 31 w22 g10 [.int .i64 st, .string RS, .slice ga fs.length gc, .string BD, .int .i64 mi, .slice ua tr.length uc, .int .i64 kind, .int .i64 len, .bool per]) := HBb5'.out.but HK22.out (fun e => by
              rcases List.mem_append.1 e with e | e
              · exact blk_no HBb5'.out HFa5.out (by decide) e
              · exact blk_no HBb5'.out HTa5.out (by decide) e)
            have HX13 : Hid (Blk 39 w22 g13 [.int .i64 st, .string RS, .slice ha fs.length hc, .string BD, .int .i64 mi, .slice va tr.length vc, .int .i64 kind, .int .i64 len, .bool per]) := HXw.out.but HK22.out (fun e => by
              rcases List.mem_append.1 e with e | e
              · exact blk_no HXw.out HFa5.out (by decide) e
              · exact blk_no HXw.out HTa5.out (by decide) e)
            have HFb : Hid (OwnF 47 wA.heap.size (.slice ga fs.length gc) fs w22) := HK22.out.owns HFb5'.out (fun g hg e => by have := (HNo.out _ e).2; have := (own_lt2 HFb5'.out g (by simpa using hg)).1; omega)
            have HTb : Hid (OwnF 47 wA.heap.size (.slice ua tr.length uc) tr w22) := HK22.out.owns HTb5'.out (fun g hg e => by have := (HNo.out _ e).2; have := (own_lt2 HTb5'.out g (by simpa using hg)).1; omega)
            have HFw : Hid (OwnF 64 wB.heap.size (.slice ha fs.length hc) fs w22) := HK22.out.owns HFg13.out (fun g hg e => by have := (HNo.out _ e).2; have := (own_lt2 HFg13.out g (by simpa using hg)).1; omega)
            have HTw : Hid (OwnF 64 wB.heap.size (.slice va tr.length vc) tr w22) := HK22.out.owns HTg13.out (fun g hg e => by have := (HNo.out _ e).2; have := (own_lt2 HTg13.out g (by simpa using hg)).1; omega)
            clear hno HO20 HP20 HP21 HA20 HA21 HN1 HN2 HB20 HBw21 HBw22
            have s0 := HS22.out.cell 0 rfl
            have s2 := HS22.out.cell 2 rfl
            have s3 := HS22.out.cell 3 rfl
            go_wp2_with fail
            refine (HPp.out w22 (HE.out.below (by rw [HG0.out]; exact HSc2.out))).mono ?_
            rintro e we ⟨vfg24, vtg24, rfl, hq, hbwe, hsp⟩
            obtain ⟨ho1, ho2⟩ := HOp.out _ _ _ _ _ hq
            obtain ⟨ia, ic, rfl⟩ := ownF_form ho1
            obtain ⟨xa, xc, rfl⟩ := ownF_form ho2
            obtain ⟨wE, hws⟩ : ∃ wE, wE = we.alloc (.cells #[.int .i64 st, .string RS, .slice ia fs.length ic, .string BD, .int .i64 mi, .slice xa tr.length xc, .int .i64 kind, .int .i64 len, .bool per] 31) := ⟨_, rfl⟩
            have hba : Below we.heap.size we wE := by rw [hws]; exact (Below.refl _ _).alloc (Nat.le_refl _) _
            obtain ⟨g24, hg⟩ : ∃ g24, g24 = we.heap.size := ⟨_, rfl⟩
            have HXg24 : Hid (Blk 31 wE g24 [.int .i64 st, .string RS, .slice ia fs.length ic, .string BD, .int .i64 mi, .slice xa tr.length xc, .int .i64 kind, .int .i64 len, .bool per]) := (by rw [hws, hg]; exact heap_alloc_new we _ : Blk _ _ _ _)
            have HFg24 : Hid (OwnF 47 w22.heap.size (.slice ia fs.length ic) fs wE) := OwnF.below ho1 hba
            have HTg24 : Hid (OwnF 47 w22.heap.size (.slice xa tr.length xc) tr wE) := OwnF.below ho2 hba
            have HSpg24 : Hid (Sp2 (.slice ia fs.length ic) (.slice xa tr.length xc)) := hsp
            have HBwE : Hid (Below g0 w wE) := (HSc2.out.trans (hbwe.mono (by have := HSc2.out.size; have := HG0.out; omega))).trans (hba.mono (by have := HSc2.out.size; have := hbwe.size; have := HG0.out; omega))
            have HSwE : Hid (Blk 23 wE g0 [.string A', .string T', .int .i64 (m' : Int), .bool en']) := (HS22.out.below hbwe).below hba
            have HYwE : Hid (Below w22.heap.size w22 wE) := hbwe.trans (hba.mono hbwe.size)
            have hlwE : w22.heap.size ≤ wE.heap.size := Nat.le_trans hbwe.size hba.size
            have HLg24 : Hid ((∀ x, x ∈ (Value.slice ia fs.length ic).ownBlock.toList → w22.heap.size ≤ x ∧ x < wE.heap.size) ∧ (∀ x, x ∈ (Value.slice xa tr.length xc).ownBlock.toList → w22.heap.size ≤ x ∧ x < wE.heap.size)) := (⟨own_lt2 HFg24.out, own_lt2 HTg24.out⟩ : _ ∧ _)
            have HW : Hid (wE = _) := hws
            have HGg24 : Hid (we.heap.size = g24) := hg.symm
            have hltg24 : g0 < we.heap.size := (HS22.out.below hbwe).lt
            have HSq : Hid (Blk 23 we g0 [.string A', .string T', .int .i64 (m' : Int), .bool en']) := HS22.out.below hbwe
            have HXe10 : Hid (Blk 31 we g10 [.int .i64 st, .string RS, .slice ga fs.length gc, .string BD, .int .i64 mi, .slice ua tr.length uc, .int .i64 kind, .int .i64 len, .bool per]) := HX10.out.below hbwe
            have HXe13 : Hid (Blk 39 we g13 [.int .i64 st, .string RS, .slice ha fs.length hc, .string BD, .int .i64 mi, .slice va tr.length vc, .int .i64 kind, .int .i64 len, .bool per]) := HX13.out.below hbwe
            have hle10 := HXe10.out.lt
            have hle13 := HXe13.out.lt
            clear hq hbwe ho1 ho2 hws hba hg hsp s0 s2 s3
            have s0 := HSq.out.cell 0 rfl
            have s2 := HSq.out.cell 2 rfl
            have s3 := HSq.out.cell 3 rfl
            have b0 := HXe10.out.cell 0 rfl
            have e0 := HXe13.out.cell 0 rfl
            have b1 := HXe10.out.cell 1 rfl
            have e1 := HXe13.out.cell 1 rfl
            have b2 := HXe10.out.cell 2 rfl
            have e2 := HXe13.out.cell 2 rfl
            have b3 := HXe10.out.cell 3 rfl
            have e3 := HXe13.out.cell 3 rfl
            have b4 := HXe10.out.cell 4 rfl
            have e4 := HXe13.out.cell 4 rfl
            have b5 := HXe10.out.cell 5 rfl
            have e5 := HXe13.out.cell 5 rfl
            have b6 := HXe10.out.cell 6 rfl
            have e6 := HXe13.out.cell 6 rfl
            have b7 := HXe10.out.cell 7 rfl
            have e7 := HXe13.out.cell 7 rfl
            have b8 := HXe10.out.cell 8 rfl
            have e8 := HXe13.out.cell 8 rfl
            clear s0 s2 s3
            go_wp2_with fail
            rw [← HW.out]
            try rw [HGg24.out]
            clear HW HGg24 hltg24 HSq b0 e0 b1 e1 b2 e2 b3 e3 b4 e4 b5 e5 b6 e6 b7 e7 b8 e8 hle10 hle13 HXe10 HXe13
            have HYb : Hid (Blk 31 wE g10 [.int .i64 st, .string RS, .slice ga fs.length gc, .string BD, .int .i64 mi, .slice ua tr.length uc, .int .i64 kind, .int .i64 len, .bool per]) := HX10.out.below HYwE.out
            have HYw : Hid (Blk 39 wE g13 [.int .i64 st, .string RS, .slice ha fs.length hc, .string BD, .int .i64 mi, .slice va tr.length vc, .int .i64 kind, .int .i64 len, .bool per]) := HX13.out.below HYwE.out
            refine (same_reply st mi kind len RS BD per (.slice ga fs.length gc) (.slice ha fs.length hc) (.slice ua tr.length uc) (.slice va tr.length vc) fs tr wE (OwnF.rd (OwnF.below HFb.out HYwE.out)) (OwnF.rd (OwnF.below HFw.out HYwE.out)) (OwnF.rd (OwnF.below HTb.out HYwE.out)) (OwnF.rd (OwnF.below HTw.out HYwE.out)) (by omega) (by omega)).mono ?_
            rintro e wf ⟨rfl, hbf⟩
            have HXc : Hid (Blk 31 wf g24 [.int .i64 st, .string RS, .slice ia fs.length ic, .string BD, .int .i64 mi, .slice xa tr.length xc, .int .i64 kind, .int .i64 len, .bool per]) := HXg24.out.below hbf
            have HXw2 : Hid (Blk 39 wf g13 [.int .i64 st, .string RS, .slice ha fs.length hc, .string BD, .int .i64 mi, .slice va tr.length vc, .int .i64 kind, .int .i64 len, .bool per]) := HYw.out.below hbf
            have HBf : Hid (Below g0 w wf) := HBwE.out.trans (hbf.mono (by have := HBwE.out.size; have := HG0.out; omega))
            have HR1 : Hid (RdF (.slice ia fs.length ic) fs wf) := OwnF.rd (OwnF.below HFg24.out hbf)
            have HR2 : Hid (RdF (.slice ha fs.length hc) fs wf) := OwnF.rd (OwnF.below (OwnF.below HFw.out HYwE.out) hbf)
            have HR3 : Hid (RdF (.slice xa tr.length xc) tr wf) := OwnF.rd (OwnF.below HTg24.out hbf)
            have HR4 : Hid (RdF (.slice va tr.length vc) tr wf) := OwnF.rd (OwnF.below (OwnF.below HTw.out HYwE.out) hbf)
            clear hbf
            have b0 := HXc.out.cell 0 rfl
            have e0 := HXw2.out.cell 0 rfl
            have b1 := HXc.out.cell 1 rfl
            have e1 := HXw2.out.cell 1 rfl
            have b2 := HXc.out.cell 2 rfl
            have e2 := HXw2.out.cell 2 rfl
            have b3 := HXc.out.cell 3 rfl
            have e3 := HXw2.out.cell 3 rfl
            have b4 := HXc.out.cell 4 rfl
            have e4 := HXw2.out.cell 4 rfl
            have b5 := HXc.out.cell 5 rfl
            have e5 := HXw2.out.cell 5 rfl
            have b6 := HXc.out.cell 6 rfl
            have e6 := HXw2.out.cell 6 rfl
            have b7 := HXc.out.cell 7 rfl
            have e7 := HXw2.out.cell 7 rfl
            have b8 := HXc.out.cell 8 rfl
            have e8 := HXw2.out.cell 8 rfl
            go_wp2_with fail
            refine (same_reply st mi kind len RS BD per (.slice ia fs.length ic) (.slice ha fs.length hc) (.slice xa tr.length xc) (.slice va tr.length vc) fs tr wf HR1.out HR2.out HR3.out HR4.out (by omega) (by omega)).mono ?_
            rintro e wg ⟨rfl, hbg⟩
            have HBg : Hid (Below g0 w wg) := HBf.out.trans (hbg.mono (by have := HBf.out.size; have := HG0.out; omega))
            clear hbg b0 e0 b1 e1 b2 e2 b3 e3 b4 e4 b5 e5 b6 e6 b7 e7 b8 e8
            go_wp2
            go_ret
            exact ⟨rfl, by rw [HG0.out]; exact HBg.out⟩
end Ms
end Go.Proofs.YtdcfhnbagldilaaGreatDoor
