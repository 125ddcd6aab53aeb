import Derived.Test.YtdcfhnbagldilaaGreatDoorMuR
set_option linter.unusedVariables false
set_option linter.unusedSimpArgs false
set_option maxRecDepth 100000
namespace Go.Proofs.YtdcfhnbagldilaaGreatDoor
open Go.RowKit Go.Shelf
namespace Ms
open Oc Tg _root_.Go.Proofs.YtdcfhnbagldilaaGreatDoor.Fd _root_.Go.Proofs.YtdcfhnbagldilaaGreatDoor.Ck
set_option maxHeartbeats 2000000 in
theorem rParse_neg (me B : ByteArray) (m : Int) (en : Bool) (hm : m < 0) (w : World) :
    Calls Tryz.prog 10 #[.string me, .string B, .int .i64 m, .bool en] w fun e w' => e = .returned (.tuple #[.agg zeroC.toArray, .int .i64 0, .int .i64 1]) ∧ Below w.heap.size w w' := by
  obtain ⟨wR, hwR⟩ : ∃ wR, wR = w.alloc (.cells #[.int .i64 0, .string ⟨#[]⟩, .slice none 0 0, .string ⟨#[]⟩, .int .i64 0, .slice none 0 0, .int .i64 0, .int .i64 0, .bool false] 39) := ⟨_, rfl⟩
  have HB0 : Hid (Below w.heap.size w wR) := (by rw [hwR]; exact (Below.refl _ w).alloc (Nat.le_refl _) _ : Below _ _ _)
  have HR0 : Hid (Blk 39 wR w.heap.size zeroC) := (by rw [hwR]; exact heap_alloc_new w _ : Blk _ _ _ _)
  have HWR : Hid (wR = _) := hwR
  clear hwR
  have r0 := HR0.out.cell 0 rfl
  have r1 := HR0.out.cell 1 rfl
  have r2 := HR0.out.cell 2 rfl
  have r3 := HR0.out.cell 3 rfl
  have r4 := HR0.out.cell 4 rfl
  have r5 := HR0.out.cell 5 rfl
  have r6 := HR0.out.cell 6 rfl
  have r7 := HR0.out.cell 7 rfl
  have r8 := HR0.out.cell 8 rfl
  go_enter Tryz.func10, Tryz.ntmps10
  go_wp2_with fail
  rw [← HWR.out]
  refine bodyPost_ret (v := .tuple #[.agg #[.int .i64 0, .string ⟨#[]⟩, .slice none 0 0, .string ⟨#[]⟩, .int .i64 0, .slice none 0 0, .int .i64 0, .int .i64 0, .bool false], .int .i64 0, .int .i64 1]) (by simp [results, Tryz.results10, go_sem, r0, r1, r2, r3, r4, r5, r6, r7, r8]) rfl ?_
  exact ⟨rfl, HB0.out⟩
theorem docH_none (B : ByteArray) (h : (docH B).1 = none) : (docH B).2.2 ≠ 0 := by
  rw [← out_head B false] at h ⊢
  unfold outH at h ⊢
  split
  · rename_i e; exact e
  · rename_i e
    rw [if_neg e] at h
    split
    · show (124 : Int) ≠ 0; decide
    · rename_i e2
      rw [if_neg e2] at h
      cases h
theorem docH_some (B : ByteArray) (x : Hd) (h : (docH B).1 = some x) : (docH B).2.2 = 0 ∧ (∃ n : Nat, (docH B).2.1 = (n : Int) ∧ n ≤ B.size) ∧ (∃ k : Nat, x.len = (k : Int) ∧ k ≤ 1099511627776) := by
  have hl := hRun_len B.data.toList (newH B.data.toList false) (newH_ok B.data.toList false).2.1
  obtain ⟨-, -, -, r4⟩ := run_rest B.data.toList (newH B.data.toList false) rfl
  have h0 : (newH B.data.toList false).used = 0 := rfl
  rw [h0, Nat.zero_add, size_list] at r4
  rw [← out_head B false] at h ⊢
  generalize hRun (newH B.data.toList false) B.data.toList = R at *
  unfold outH at h ⊢
  by_cases e : R.2 ≠ 0
  · rw [if_pos e] at h; cases h
  rw [if_neg e] at h ⊢
  by_cases e2 : R.1.headed = false
  · rw [if_pos e2] at h; cases h
  rw [if_neg e2] at h ⊢
  injection h with h
  obtain ⟨k, hk, hk2⟩ := hl (by simpa using e2)
  exact ⟨rfl, ⟨_, rfl, r4⟩, k, by rw [← h]; exact hk, hk2⟩
theorem dec_pos (m r f : Int) (l : List UInt8) : -1 ≤ (Ck.decR m r f l).2.2.1 ∧ (Ck.decR m r f l).2.2.1 ≤ (l.length : Int) := by
  have := eat_le l (Ck.new m r f)
  unfold Ck.decR
  split
  · exact ⟨by decide, by show (0 : Int) ≤ _; omega⟩
  split
  · constructor <;> dsimp only <;> omega
  split
  · constructor <;> dsimp only <;> omega
  · constructor <;> dsimp only <;> omega
set_option maxHeartbeats 8000000 in
theorem rParse_any (me B : ByteArray) (m : Nat) (en : Bool) (hm : m ≤ 9223372036854775807) (hB : B.size ≤ 2000000) (w : World) :
    Calls Tryz.prog 10 #[.string me, .string B, .int .i64 (m : Int), .bool en] w fun e w' => ∃ vf vt, e = .returned (.tuple #[.agg (ansD (docP me.data.toList B m en) vf vt).toArray, .int .i64 (docP me.data.toList B m en).2.1, .int .i64 (docP me.data.toList B m en).2.2]) ∧ RpO 64 (docP me.data.toList B m en) vf vt w.heap.size w' ∧ Below w.heap.size w w' := by
  have HPh : Hid (∀ W, Calls _ _ _ W _) := fun W => rParseHead_any B hB W
  have hno := docH_none B
  have hso := docH_some B
  have HD : Hid (docP me.data.toList B m en = match (docH B).1 with
    | none => (none, (docH B).2.1, (docH B).2.2)
    | some h => docB me.data.toList B m en h (docH B).2.1) := rfl
  generalize docP me.data.toList B m en = R at *
  generalize docH B = D at *
  obtain ⟨o, n, e0⟩ := D
  dsimp only at HPh hno hso HD
  obtain ⟨wR, hwR⟩ : ∃ wR, wR = w.alloc (.cells #[.int .i64 0, .string ⟨#[]⟩, .slice none 0 0, .string ⟨#[]⟩, .int .i64 0, .slice none 0 0, .int .i64 0, .int .i64 0, .bool false] 39) := ⟨_, rfl⟩
  have HB0 : Hid (Below w.heap.size w wR) := (by rw [hwR]; exact (Below.refl _ w).alloc (Nat.le_refl _) _ : Below _ _ _)
  have HR0 : Hid (Blk 39 wR w.heap.size zeroC) := (by rw [hwR]; exact heap_alloc_new w _ : Blk _ _ _ _)
  have hsR : wR.heap.size = w.heap.size + 1 := by rw [hwR]; simp
  have HWR : Hid (wR = _) := hwR
  have hm0 : ¬ (m : Int) < 0 := by omega
  clear hwR
  go_enter Tryz.func10, Tryz.ntmps10
  go_wp2_with fail
  rw [← HWR.out]
  clear HWR
  refine (HPh.out wR).mono ?_
  rintro e w2 ⟨vf, rfl, hdo, hb2⟩
  generalize hg0 : w.heap.size = g0 at *
  have HG0 : Hid (w.heap.size = g0) := hg0
  clear hg0
  cases o with
  | none =>
    have he := hno rfl
    have hz1 : (e0 != 0) = true := by simp [he]
    have HQ : Hid (R = (none, n, e0)) := HD.out
    clear hno hso HD he hdo HPh
    have hA : ansH (none, n, e0) vf = [.int .i64 0, .string ⟨#[]⟩, .slice none 0 0, .string ⟨#[]⟩, .int .i64 0, .slice none 0 0, .int .i64 0, .int .i64 0, .bool false] := rfl
    rw [hA]
    have HB2 : Hid (Below g0 w (w2.alloc (.cells #[.int .i64 0, .string ⟨#[]⟩, .slice none 0 0, .string ⟨#[]⟩, .int .i64 0, .slice none 0 0, .int .i64 0, .int .i64 0, .bool false] 39))) := (HB0.out.trans (hb2.mono (by omega))).alloc (by have := hb2.size; omega) _
    have HR2 : Hid (Blk 39 (w2.alloc (.cells #[.int .i64 0, .string ⟨#[]⟩, .slice none 0 0, .string ⟨#[]⟩, .int .i64 0, .slice none 0 0, .int .i64 0, .int .i64 0, .bool false] 39)) g0 zeroC) := (HR0.out.below hb2).below ((Below.refl _ _).alloc (Nat.le_refl _) _)
    clear hb2 hA
    have r0 := HR2.out.cell 0 rfl
    have r1 := HR2.out.cell 1 rfl
    have r2 := HR2.out.cell 2 rfl
    have r3 := HR2.out.cell 3 rfl
    have r4 := HR2.out.cell 4 rfl
    have r5 := HR2.out.cell 5 rfl
    have r6 := HR2.out.cell 6 rfl
    have r7 := HR2.out.cell 7 rfl
    have r8 := HR2.out.cell 8 rfl
    have rf := HR2.out.free
    go_wp2
    clear r0 r1 r2 r3 r4 r5 r6 r7 r8 rf
    have hB9 := set9_blk HR2.out (.int .i64 0) (.string ⟨#[]⟩) (.slice none 0 0) (.string ⟨#[]⟩) (.int .i64 0) (.slice none 0 0) (.int .i64 0) (.int .i64 0) (.bool false)
    have hb9 := set9_but (w2.alloc (.cells #[.int .i64 0, .string ⟨#[]⟩, .slice none 0 0, .string ⟨#[]⟩, .int .i64 0, .slice none 0 0, .int .i64 0, .int .i64 0, .bool false] 39)) g0 (.int .i64 0) (.string ⟨#[]⟩) (.slice none 0 0) (.string ⟨#[]⟩) (.int .i64 0) (.slice none 0 0) (.int .i64 0) (.int .i64 0) (.bool false)
    have hl9 : Below g0 (w2.alloc (.cells #[.int .i64 0, .string ⟨#[]⟩, .slice none 0 0, .string ⟨#[]⟩, .int .i64 0, .slice none 0 0, .int .i64 0, .int .i64 0, .bool false] 39)) (set9 (w2.alloc (.cells #[.int .i64 0, .string ⟨#[]⟩, .slice none 0 0, .string ⟨#[]⟩, .int .i64 0, .slice none 0 0, .int .i64 0, .int .i64 0, .bool false] 39)) g0 (.int .i64 0) (.string ⟨#[]⟩) (.slice none 0 0) (.string ⟨#[]⟩) (.int .i64 0) (.slice none 0 0) (.int .i64 0) (.int .i64 0) (.bool false)) := hb9.below (by have := HR2.out.lt; omega) (fun x hx => by simp at hx; omega)
    obtain ⟨W9, hW9⟩ : ∃ W9, W9 = (set9 (w2.alloc (.cells #[.int .i64 0, .string ⟨#[]⟩, .slice none 0 0, .string ⟨#[]⟩, .int .i64 0, .slice none 0 0, .int .i64 0, .int .i64 0, .bool false] 39)) g0 (.int .i64 0) (.string ⟨#[]⟩) (.slice none 0 0) (.string ⟨#[]⟩) (.int .i64 0) (.slice none 0 0) (.int .i64 0) (.int .i64 0) (.bool false)) := ⟨_, rfl⟩
    have HL9 : Hid (Below g0 w W9) := (by rw [hW9]; exact HB2.out.trans hl9 : Below _ _ _)
    have hB9' : Blk 39 W9 g0 [.int .i64 0, .string ⟨#[]⟩, .slice none 0 0, .string ⟨#[]⟩, .int .i64 0, .slice none 0 0, .int .i64 0, .int .i64 0, .bool false] := by rw [hW9]; exact hB9
    have hW9' : ((((((((((w2.alloc (.cells #[.int .i64 0, .string ⟨#[]⟩, .slice none 0 0, .string ⟨#[]⟩, .int .i64 0, .slice none 0 0, .int .i64 0, .int .i64 0, .bool false] 39)).setCell ⟨g0, 0, none⟩ (.int .i64 0)).setCell ⟨g0, 1, none⟩ (.string ⟨#[]⟩)).setCell ⟨g0, 2, none⟩ (.slice none 0 0)).setCell ⟨g0, 3, none⟩ (.string ⟨#[]⟩)).setCell ⟨g0, 4, none⟩ (.int .i64 0)).setCell ⟨g0, 5, none⟩ (.slice none 0 0)).setCell ⟨g0, 6, none⟩ (.int .i64 0)).setCell ⟨g0, 7, none⟩ (.int .i64 0)).setCell ⟨g0, 8, none⟩ (.bool false)) = W9 := hW9.symm
    rw [hW9']
    have q0 := hB9'.cell 0 rfl
    have q1 := hB9'.cell 1 rfl
    have q2 := hB9'.cell 2 rfl
    have q3 := hB9'.cell 3 rfl
    have q4 := hB9'.cell 4 rfl
    have q5 := hB9'.cell 5 rfl
    have q6 := hB9'.cell 6 rfl
    have q7 := hB9'.cell 7 rfl
    have q8 := hB9'.cell 8 rfl
    clear hB9 hb9 hl9 hW9 hW9' hB9'
    refine bodyPost_ret (v := .tuple #[.agg #[.int .i64 0, .string ⟨#[]⟩, .slice none 0 0, .string ⟨#[]⟩, .int .i64 0, .slice none 0 0, .int .i64 0, .int .i64 0, .bool false], .int .i64 n, .int .i64 e0]) (by simp [results, Tryz.results10, go_sem, q0, q1, q2, q3, q4, q5, q6, q7, q8]) rfl ?_
    rw [HG0.out, HQ.out]
    exact ⟨.slice none 0 0, .slice none 0 0, rfl, (fun h hh => by cases hh), HL9.out⟩
  | some h =>
    obtain ⟨e00, ⟨N, e01, hN⟩, ⟨len, hlen, hlb⟩⟩ := hso h rfl
    obtain ⟨st, rs, fs, mi, kind, ln, per⟩ := h
    have hlen : ln = (len : Int) := hlen
    subst e00 e01 hlen
    have HDb : Hid (R = docB me.data.toList B m en ⟨st, rs, fs, mi, kind, (len : Int), per⟩ (N : Int)) := HD.out
    obtain ⟨va, vc, rfl⟩ := ownF_form (hdo _ rfl)
    have hA : ansH (some ⟨st, rs, fs, mi, kind, (len : Int), per⟩, (N : Int), 0) (.slice va fs.length vc) = [.int .i64 st, .string (str rs), .slice va fs.length vc, .string ⟨#[]⟩, .int .i64 mi, .slice none 0 0, .int .i64 kind, .int .i64 (len : Int), .bool per] := rfl
    rw [hA]
    obtain ⟨RS, hRS⟩ : ∃ RS, RS = str rs := ⟨_, rfl⟩
    have HRS : Hid (RS = str rs) := hRS
    rw [← hRS]
    obtain ⟨w3, hw3⟩ : ∃ w3, w3 = w2.alloc (.cells #[.int .i64 st, .string RS, .slice va fs.length vc, .string ⟨#[]⟩, .int .i64 mi, .slice none 0 0, .int .i64 kind, .int .i64 (len : Int), .bool per] 39) := ⟨_, rfl⟩
    have HW3 : Hid (w3 = _) := hw3
    have hba : Below w2.heap.size w2 w3 := by rw [hw3]; exact (Below.refl _ _).alloc (Nat.le_refl _) _
    have HB3 : Hid (Below g0 w w3) := (HB0.out.trans (hb2.mono (by omega))).trans (hba.mono (by have := hb2.size; omega))
    have HR3 : Hid (Blk 39 w3 g0 zeroC) := (HR0.out.below hb2).below hba
    have hsz := hb2.size
    obtain ⟨g1, hg1⟩ : ∃ g1, g1 = w2.heap.size := ⟨_, rfl⟩
    have HQ3 : Hid (Blk 39 w3 g1 [.int .i64 st, .string RS, .slice va fs.length vc, .string ⟨#[]⟩, .int .i64 mi, .slice none 0 0, .int .i64 kind, .int .i64 (len : Int), .bool per]) := (by rw [hw3, hg1]; exact heap_alloc_new w2 _ : Blk _ _ _ _)
    have HF3 : Hid (OwnF 64 g0 (.slice va fs.length vc) fs w3) := OwnF.below (own_up (hdo _ rfl) (by omega)) hba
    have hg01 : g0 < g1 := by omega
    have HG1 : Hid (w2.heap.size = g1) := hg1.symm
    have hs3 : g1 < w3.heap.size := HQ3.out.lt
    have HBl : Hid (Calls _ _ _ _ _) := rBodyless_any me st w3
    have hx1 : (0 : Int) ≤ (N : Int) := by omega
    have hx2 : (N : Int) ≤ (B.size : Int) := by omega
    obtain ⟨RT, hRT⟩ : ∃ RT, B.extract N B.size = RT := ⟨_, rfl⟩
    have hRz : RT.size = B.size - N := by rw [← hRT]; simp
    have HRL : Hid (B.data.toList.drop N = RT.data.toList) := (by rw [← hRT]; exact (Lib.extract_to_end B N).symm : _ = _)
    have HNN : Hid (((N : Int)).toNat = N) := (rfl : _ = _)
    have HD2 : Hid (R = docB me.data.toList B m en ⟨st, rs, fs, mi, kind, (len : Int), per⟩ (N : Int)) := HDb.out
    clear hno hso HD hdo HPh hba hb2 hw3 hRS HB0 HR0 hsR hA hg1
    have c0 := HQ3.out.cell 0 rfl
    go_wp2_with fail
    rw [← HW3.out]
    rw [HG1.out]
    refine HBl.out.mono ?_
    rintro e w4 ⟨rfl, hw4⟩
    rw [hw4]
    clear hw4 HW3 HG1 HBl c0 hsz
    have r0 := HR3.out.cell 0 rfl
    have r1 := HR3.out.cell 1 rfl
    have r2 := HR3.out.cell 2 rfl
    have r3 := HR3.out.cell 3 rfl
    have r4 := HR3.out.cell 4 rfl
    have r5 := HR3.out.cell 5 rfl
    have r6 := HR3.out.cell 6 rfl
    have r7 := HR3.out.cell 7 rfl
    have r8 := HR3.out.cell 8 rfl
    have rf := HR3.out.free
    have k0 := HQ3.out.cell 0 rfl
    have k1 := HQ3.out.cell 1 rfl
    have k2 := HQ3.out.cell 2 rfl
    have k3 := HQ3.out.cell 3 rfl
    have k4 := HQ3.out.cell 4 rfl
    have k5 := HQ3.out.cell 5 rfl
    have k6 := HQ3.out.cell 6 rfl
    have k7 := HQ3.out.cell 7 rfl
    have k8 := HQ3.out.cell 8 rfl
    have kf := HQ3.out.free
    have HDc : Hid (R = if bdl me.data.toList st = true then (some (⟨st, rs, fs, mi, kind, (len : Int), per⟩, [], []), (N : Int), 0)
      else if kind = 2 then
        (if cE (Ck.decR (m : Int) 65536 100 RT.data.toList).2.2.2 ≠ 0 then (none, (N : Int) + (Ck.decR (m : Int) 65536 100 RT.data.toList).2.2.1, cE (Ck.decR (m : Int) 65536 100 RT.data.toList).2.2.2)
        else (some (⟨st, rs, fs, mi, kind, (len : Int), per⟩, (Ck.decR (m : Int) 65536 100 RT.data.toList).1, (Ck.decR (m : Int) 65536 100 RT.data.toList).2.1), (N : Int) + (Ck.decR (m : Int) 65536 100 RT.data.toList).2.2.1, 0))
      else if kind = 1 then
        (if (m : Int) < (len : Int) then (none, (N : Int), 125) else if ((RT.size : Nat) : Int) < (len : Int) then (none, (B.size : Int), 124) else (some (⟨st, rs, fs, mi, kind, (len : Int), per⟩, RT.data.toList.take len, []), (N : Int) + (len : Int), 0))
      else if m < RT.size then (none, (N : Int) + (m : Int), 125) else if en = false then (none, (B.size : Int), 124) else (some (⟨st, rs, fs, mi, kind, (len : Int), false⟩, RT.data.toList, []), (B.size : Int), 0)) := (by
      rw [HD2.out]
      unfold docB
      dsimp only
      rw [HNN.out, HRL.out, size_list]
      rfl : _ = _)
    clear HD2 HDb HNN HRL
    cases hbd : bdl me.data.toList st with
    | true =>
      have HQ : Hid (R = (some (⟨st, rs, fs, mi, kind, (len : Int), per⟩, [], []), (N : Int), 0)) := (by rw [HDc.out, if_pos hbd] : _ = _)
      clear HDc hbd
      go_wp2
      clear r0 k0 r1 k1 r2 k2 r3 k3 r4 k4 r5 k5 r6 k6 r7 k7 r8 k8 rf kf
      have hB9 := set9_blk HR3.out (.int .i64 st) (.string RS) (.slice va fs.length vc) (.string ⟨#[]⟩) (.int .i64 mi) (.slice none 0 0) (.int .i64 kind) (.int .i64 (len : Int)) (.bool per)
      have hb9 := set9_but w3 g0 (.int .i64 st) (.string RS) (.slice va fs.length vc) (.string ⟨#[]⟩) (.int .i64 mi) (.slice none 0 0) (.int .i64 kind) (.int .i64 (len : Int)) (.bool per)
      have hl9 : Below g0 w3 (set9 w3 g0 (.int .i64 st) (.string RS) (.slice va fs.length vc) (.string ⟨#[]⟩) (.int .i64 mi) (.slice none 0 0) (.int .i64 kind) (.int .i64 (len : Int)) (.bool per)) := hb9.below (by have := HR3.out.lt; omega) (fun x hx => by simp at hx; omega)
      have ho9 : OwnF 64 g0 (.slice va fs.length vc) fs (set9 w3 g0 (.int .i64 st) (.string RS) (.slice va fs.length vc) (.string ⟨#[]⟩) (.int .i64 mi) (.slice none 0 0) (.int .i64 kind) (.int .i64 (len : Int)) (.bool per)) := HR3.out.keep HF3.out (by decide) hb9
      obtain ⟨W9, hW9⟩ : ∃ W9, W9 = (set9 w3 g0 (.int .i64 st) (.string RS) (.slice va fs.length vc) (.string ⟨#[]⟩) (.int .i64 mi) (.slice none 0 0) (.int .i64 kind) (.int .i64 (len : Int)) (.bool per)) := ⟨_, rfl⟩
      have HL9 : Hid (Below g0 w W9) := (by rw [hW9]; exact HB3.out.trans hl9 : Below _ _ _)
      have HO9 : Hid (OwnF 64 g0 (.slice va fs.length vc) fs W9) := (by rw [hW9]; exact ho9 : OwnF _ _ _ _ _)
      have hB9' : Blk 39 W9 g0 [.int .i64 st, .string RS, .slice va fs.length vc, .string ⟨#[]⟩, .int .i64 mi, .slice none 0 0, .int .i64 kind, .int .i64 (len : Int), .bool per] := by rw [hW9]; exact hB9
      have hW9' : (((((((((w3.setCell ⟨g0, 0, none⟩ (.int .i64 st)).setCell ⟨g0, 1, none⟩ (.string RS)).setCell ⟨g0, 2, none⟩ (.slice va fs.length vc)).setCell ⟨g0, 3, none⟩ (.string ⟨#[]⟩)).setCell ⟨g0, 4, none⟩ (.int .i64 mi)).setCell ⟨g0, 5, none⟩ (.slice none 0 0)).setCell ⟨g0, 6, none⟩ (.int .i64 kind)).setCell ⟨g0, 7, none⟩ (.int .i64 (len : Int))).setCell ⟨g0, 8, none⟩ (.bool per)) = W9 := hW9.symm
      rw [hW9']
      have q0 := hB9'.cell 0 rfl
      have q1 := hB9'.cell 1 rfl
      have q2 := hB9'.cell 2 rfl
      have q3 := hB9'.cell 3 rfl
      have q4 := hB9'.cell 4 rfl
      have q5 := hB9'.cell 5 rfl
      have q6 := hB9'.cell 6 rfl
      have q7 := hB9'.cell 7 rfl
      have q8 := hB9'.cell 8 rfl
      clear hB9 hb9 hl9 hW9 hW9' hB9' ho9
      refine bodyPost_ret (v := .tuple #[.agg #[.int .i64 st, .string RS, .slice va fs.length vc, .string ⟨#[]⟩, .int .i64 mi, .slice none 0 0, .int .i64 kind, .int .i64 (len : Int), .bool per], .int .i64 (N : Int), .int .i64 0]) (by simp [results, Tryz.results10, go_sem, q0, q1, q2, q3, q4, q5, q6, q7, q8]) rfl ?_
      rw [HG0.out, HQ.out]
      refine ⟨(.slice va fs.length vc), .slice none 0 0, ?_, (fun x hh => by injection hh with hh; rw [← hh]; exact ⟨HO9.out, (ownF_nil _ _ _)⟩), HL9.out⟩
      rw [HRS.out]
      rfl
    | false =>
    have HDd : Hid (R = _) := HDc.out.trans (if_neg (by rw [hbd]; simp))
    clear HDc hbd
    by_cases hk2 : kind = 2
    · have HDe : Hid (R = _) := HDd.out.trans (if_pos hk2)
      have hkq : (kind == 2) = true := by simp [hk2]
      have HDc : Hid (Calls _ _ _ _ _) := rDecode_any RT (by omega) (m : Int) 65536 100 (by omega) (by omega) (by omega) w3
      have hpos := dec_pos (m : Int) 65536 100 RT.data.toList
      rw [size_list] at hpos
      clear HDd hk2
      generalize Ck.decR (m : Int) 65536 100 RT.data.toList = D at *
      obtain ⟨bd, tr, pos, err⟩ := D
      dsimp only at HDe HDc hpos
      obtain ⟨BY, hBY⟩ : ∃ BY, BY = str bd := ⟨_, rfl⟩
      have HBY : Hid (BY = str bd) := hBY
      rw [← hBY] at HDc
      clear hBY
      go_wp2_with fail
      refine HDc.out.mono ?_
      rintro e w4 ⟨v, rfl, hov, hb4⟩
      obtain ⟨ta, tc, rfl⟩ := ownF_form hov
      have HB4 : Hid (Below g0 w w4) := HB3.out.trans (hb4.mono (by omega))
      have HR4 : Hid (Blk 39 w4 g0 zeroC) := HR3.out.below hb4
      have HQ4 : Hid (Blk 39 w4 g1 [.int .i64 st, .string RS, .slice va fs.length vc, .string ⟨#[]⟩, .int .i64 mi, .slice none 0 0, .int .i64 kind, .int .i64 (len : Int), .bool per]) := HQ3.out.below hb4
      have HF4 : Hid (OwnF 64 g0 (.slice va fs.length vc) fs w4) := OwnF.below HF3.out hb4
      have HT4 : Hid (OwnF 64 (g1 + 1) (.slice ta tr.length tc) tr w4) := own_up hov (by omega)
      clear hov hb4 HDc r0 k0 r1 k1 r2 k2 r3 k3 r4 k4 r5 k5 r6 k6 r7 k7 r8 k8 rf kf
      have r0 := HR4.out.cell 0 rfl
      have r1 := HR4.out.cell 1 rfl
      have r2 := HR4.out.cell 2 rfl
      have r3 := HR4.out.cell 3 rfl
      have r4 := HR4.out.cell 4 rfl
      have r5 := HR4.out.cell 5 rfl
      have r6 := HR4.out.cell 6 rfl
      have r7 := HR4.out.cell 7 rfl
      have r8 := HR4.out.cell 8 rfl
      have rf := HR4.out.free
      have k0 := HQ4.out.cell 0 rfl
      have k1 := HQ4.out.cell 1 rfl
      have k2 := HQ4.out.cell 2 rfl
      have k3 := HQ4.out.cell 3 rfl
      have k4 := HQ4.out.cell 4 rfl
      have k5 := HQ4.out.cell 5 rfl
      have k6 := HQ4.out.cell 6 rfl
      have k7 := HQ4.out.cell 7 rfl
      have k8 := HQ4.out.cell 8 rfl
      have kf := HQ4.out.free
      have hsum : (-9223372036854775808 : Int) ≤ (N : Int) + pos ∧ (N : Int) + pos ≤ 9223372036854775807 := by omega
      by_cases h105 : err = 105
      · subst h105
        have HQ : Hid (R = (none, (N : Int) + pos, 124)) := HDe.out.trans (if_pos (by decide))
        clear HDe
        go_wp2
        clear r0 k0 r1 k1 r2 k2 r3 k3 r4 k4 r5 k5 r6 k6 r7 k7 r8 k8 rf kf
        have hB9 := set9_blk HR4.out (.int .i64 0) (.string ⟨#[]⟩) (.slice none 0 0) (.string ⟨#[]⟩) (.int .i64 0) (.slice none 0 0) (.int .i64 0) (.int .i64 0) (.bool false)
        have hb9 := set9_but w4 g0 (.int .i64 0) (.string ⟨#[]⟩) (.slice none 0 0) (.string ⟨#[]⟩) (.int .i64 0) (.slice none 0 0) (.int .i64 0) (.int .i64 0) (.bool false)
        have hl9 : Below g0 w4 (set9 w4 g0 (.int .i64 0) (.string ⟨#[]⟩) (.slice none 0 0) (.string ⟨#[]⟩) (.int .i64 0) (.slice none 0 0) (.int .i64 0) (.int .i64 0) (.bool false)) := hb9.below (by have := HR4.out.lt; omega) (fun x hx => by simp at hx; omega)
        obtain ⟨W9, hW9⟩ : ∃ W9, W9 = (set9 w4 g0 (.int .i64 0) (.string ⟨#[]⟩) (.slice none 0 0) (.string ⟨#[]⟩) (.int .i64 0) (.slice none 0 0) (.int .i64 0) (.int .i64 0) (.bool false)) := ⟨_, rfl⟩
        have HL9 : Hid (Below g0 w W9) := (by rw [hW9]; exact HB4.out.trans hl9 : Below _ _ _)
        have hB9' : Blk 39 W9 g0 [.int .i64 0, .string ⟨#[]⟩, .slice none 0 0, .string ⟨#[]⟩, .int .i64 0, .slice none 0 0, .int .i64 0, .int .i64 0, .bool false] := by rw [hW9]; exact hB9
        have hW9' : (((((((((w4.setCell ⟨g0, 0, none⟩ (.int .i64 0)).setCell ⟨g0, 1, none⟩ (.string ⟨#[]⟩)).setCell ⟨g0, 2, none⟩ (.slice none 0 0)).setCell ⟨g0, 3, none⟩ (.string ⟨#[]⟩)).setCell ⟨g0, 4, none⟩ (.int .i64 0)).setCell ⟨g0, 5, none⟩ (.slice none 0 0)).setCell ⟨g0, 6, none⟩ (.int .i64 0)).setCell ⟨g0, 7, none⟩ (.int .i64 0)).setCell ⟨g0, 8, none⟩ (.bool false)) = W9 := hW9.symm
        rw [hW9']
        have q0 := hB9'.cell 0 rfl
        have q1 := hB9'.cell 1 rfl
        have q2 := hB9'.cell 2 rfl
        have q3 := hB9'.cell 3 rfl
        have q4 := hB9'.cell 4 rfl
        have q5 := hB9'.cell 5 rfl
        have q6 := hB9'.cell 6 rfl
        have q7 := hB9'.cell 7 rfl
        have q8 := hB9'.cell 8 rfl
        clear hB9 hb9 hl9 hW9 hW9' hB9'
        refine bodyPost_ret (v := .tuple #[.agg #[.int .i64 0, .string ⟨#[]⟩, .slice none 0 0, .string ⟨#[]⟩, .int .i64 0, .slice none 0 0, .int .i64 0, .int .i64 0, .bool false], .int .i64 ((N : Int) + pos), .int .i64 124]) (by simp [results, Tryz.results10, go_sem, q0, q1, q2, q3, q4, q5, q6, q7, q8]) rfl ?_
        rw [HG0.out, HQ.out]
        exact ⟨.slice none 0 0, .slice none 0 0, rfl, (fun h hh => by cases hh), HL9.out⟩
      have q105 : (err == 105) = false := by simp [h105]
      by_cases h102 : err = 102
      · subst h102
        have HQ : Hid (R = (none, (N : Int) + pos, 125)) := HDe.out.trans (if_pos (by decide))
        clear HDe h105
        go_wp2
        clear r0 k0 r1 k1 r2 k2 r3 k3 r4 k4 r5 k5 r6 k6 r7 k7 r8 k8 rf kf
        have hB9 := set9_blk HR4.out (.int .i64 0) (.string ⟨#[]⟩) (.slice none 0 0) (.string ⟨#[]⟩) (.int .i64 0) (.slice none 0 0) (.int .i64 0) (.int .i64 0) (.bool false)
        have hb9 := set9_but w4 g0 (.int .i64 0) (.string ⟨#[]⟩) (.slice none 0 0) (.string ⟨#[]⟩) (.int .i64 0) (.slice none 0 0) (.int .i64 0) (.int .i64 0) (.bool false)
        have hl9 : Below g0 w4 (set9 w4 g0 (.int .i64 0) (.string ⟨#[]⟩) (.slice none 0 0) (.string ⟨#[]⟩) (.int .i64 0) (.slice none 0 0) (.int .i64 0) (.int .i64 0) (.bool false)) := hb9.below (by have := HR4.out.lt; omega) (fun x hx => by simp at hx; omega)
        obtain ⟨W9, hW9⟩ : ∃ W9, W9 = (set9 w4 g0 (.int .i64 0) (.string ⟨#[]⟩) (.slice none 0 0) (.string ⟨#[]⟩) (.int .i64 0) (.slice none 0 0) (.int .i64 0) (.int .i64 0) (.bool false)) := ⟨_, rfl⟩
        have HL9 : Hid (Below g0 w W9) := (by rw [hW9]; exact HB4.out.trans hl9 : Below _ _ _)
        have hB9' : Blk 39 W9 g0 [.int .i64 0, .string ⟨#[]⟩, .slice none 0 0, .string ⟨#[]⟩, .int .i64 0, .slice none 0 0, .int .i64 0, .int .i64 0, .bool false] := by rw [hW9]; exact hB9
        have hW9' : (((((((((w4.setCell ⟨g0, 0, none⟩ (.int .i64 0)).setCell ⟨g0, 1, none⟩ (.string ⟨#[]⟩)).setCell ⟨g0, 2, none⟩ (.slice none 0 0)).setCell ⟨g0, 3, none⟩ (.string ⟨#[]⟩)).setCell ⟨g0, 4, none⟩ (.int .i64 0)).setCell ⟨g0, 5, none⟩ (.slice none 0 0)).setCell ⟨g0, 6, none⟩ (.int .i64 0)).setCell ⟨g0, 7, none⟩ (.int .i64 0)).setCell ⟨g0, 8, none⟩ (.bool false)) = W9 := hW9.symm
        rw [hW9']
        have q0 := hB9'.cell 0 rfl
        have q1 := hB9'.cell 1 rfl
        have q2 := hB9'.cell 2 rfl
        have q3 := hB9'.cell 3 rfl
        have q4 := hB9'.cell 4 rfl
        have q5 := hB9'.cell 5 rfl
        have q6 := hB9'.cell 6 rfl
        have q7 := hB9'.cell 7 rfl
        have q8 := hB9'.cell 8 rfl
        clear hB9 hb9 hl9 hW9 hW9' hB9'
        refine bodyPost_ret (v := .tuple #[.agg #[.int .i64 0, .string ⟨#[]⟩, .slice none 0 0, .string ⟨#[]⟩, .int .i64 0, .slice none 0 0, .int .i64 0, .int .i64 0, .bool false], .int .i64 ((N : Int) + pos), .int .i64 125]) (by simp [results, Tryz.results10, go_sem, q0, q1, q2, q3, q4, q5, q6, q7, q8]) rfl ?_
        rw [HG0.out, HQ.out]
        exact ⟨.slice none 0 0, .slice none 0 0, rfl, (fun h hh => by cases hh), HL9.out⟩
      have q102 : (err == 102) = false := by simp [h102]
      have hcE : cE err = err := by unfold cE; rw [if_neg h105, if_neg h102]
      rw [hcE] at HDe
      by_cases h0 : err = 0
      case neg =>
        have q0 : (err != 0) = true := by simp [h0]
        have HQ : Hid (R = (none, (N : Int) + pos, err)) := HDe.out.trans (if_pos h0)
        clear HDe h105 h102 h0 hcE
        go_wp2
        clear r0 k0 r1 k1 r2 k2 r3 k3 r4 k4 r5 k5 r6 k6 r7 k7 r8 k8 rf kf
        have hB9 := set9_blk HR4.out (.int .i64 0) (.string ⟨#[]⟩) (.slice none 0 0) (.string ⟨#[]⟩) (.int .i64 0) (.slice none 0 0) (.int .i64 0) (.int .i64 0) (.bool false)
        have hb9 := set9_but w4 g0 (.int .i64 0) (.string ⟨#[]⟩) (.slice none 0 0) (.string ⟨#[]⟩) (.int .i64 0) (.slice none 0 0) (.int .i64 0) (.int .i64 0) (.bool false)
        have hl9 : Below g0 w4 (set9 w4 g0 (.int .i64 0) (.string ⟨#[]⟩) (.slice none 0 0) (.string ⟨#[]⟩) (.int .i64 0) (.slice none 0 0) (.int .i64 0) (.int .i64 0) (.bool false)) := hb9.below (by have := HR4.out.lt; omega) (fun x hx => by simp at hx; omega)
        obtain ⟨W9, hW9⟩ : ∃ W9, W9 = (set9 w4 g0 (.int .i64 0) (.string ⟨#[]⟩) (.slice none 0 0) (.string ⟨#[]⟩) (.int .i64 0) (.slice none 0 0) (.int .i64 0) (.int .i64 0) (.bool false)) := ⟨_, rfl⟩
        have HL9 : Hid (Below g0 w W9) := (by rw [hW9]; exact HB4.out.trans hl9 : Below _ _ _)
        have hB9' : Blk 39 W9 g0 [.int .i64 0, .string ⟨#[]⟩, .slice none 0 0, .string ⟨#[]⟩, .int .i64 0, .slice none 0 0, .int .i64 0, .int .i64 0, .bool false] := by rw [hW9]; exact hB9
        have hW9' : (((((((((w4.setCell ⟨g0, 0, none⟩ (.int .i64 0)).setCell ⟨g0, 1, none⟩ (.string ⟨#[]⟩)).setCell ⟨g0, 2, none⟩ (.slice none 0 0)).setCell ⟨g0, 3, none⟩ (.string ⟨#[]⟩)).setCell ⟨g0, 4, none⟩ (.int .i64 0)).setCell ⟨g0, 5, none⟩ (.slice none 0 0)).setCell ⟨g0, 6, none⟩ (.int .i64 0)).setCell ⟨g0, 7, none⟩ (.int .i64 0)).setCell ⟨g0, 8, none⟩ (.bool false)) = W9 := hW9.symm
        rw [hW9']
        have q0 := hB9'.cell 0 rfl
        have q1 := hB9'.cell 1 rfl
        have q2 := hB9'.cell 2 rfl
        have q3 := hB9'.cell 3 rfl
        have q4 := hB9'.cell 4 rfl
        have q5 := hB9'.cell 5 rfl
        have q6 := hB9'.cell 6 rfl
        have q7 := hB9'.cell 7 rfl
        have q8 := hB9'.cell 8 rfl
        clear hB9 hb9 hl9 hW9 hW9' hB9'
        refine bodyPost_ret (v := .tuple #[.agg #[.int .i64 0, .string ⟨#[]⟩, .slice none 0 0, .string ⟨#[]⟩, .int .i64 0, .slice none 0 0, .int .i64 0, .int .i64 0, .bool false], .int .i64 ((N : Int) + pos), .int .i64 err]) (by simp [results, Tryz.results10, go_sem, q0, q1, q2, q3, q4, q5, q6, q7, q8]) rfl ?_
        rw [HG0.out, HQ.out]
        exact ⟨.slice none 0 0, .slice none 0 0, rfl, (fun h hh => by cases hh), HL9.out⟩
      subst h0
      have HQ : Hid (R = (some (⟨st, rs, fs, mi, kind, (len : Int), per⟩, bd, tr), (N : Int) + pos, 0)) := HDe.out.trans (if_neg (by simp))
      clear HDe h105 h102 hcE q105 q102
      obtain ⟨w5, hw5⟩ : ∃ w5, w5 = (w4.setCell ⟨g1, 3, none⟩ (.string BY)).setCell ⟨g1, 5, none⟩ (.slice ta tr.length tc) := ⟨_, rfl⟩
      have hb5 := setD (setD (But.refl [g1] w4) 3 (.string BY)) 5 (.slice ta tr.length tc)
      have HR5 : Hid (Blk 39 w5 g0 zeroC) := (by rw [hw5]; exact HR4.out.but hb5 (by simp; omega) : Blk _ _ _ _)
      have HF5 : Hid (OwnF 64 g0 (.slice va fs.length vc) fs w5) := (by rw [hw5]; exact HQ4.out.keep HF4.out (by decide) hb5 : OwnF _ _ _ _ _)
      have HT5 : Hid (OwnF 64 g0 (.slice ta tr.length tc) tr w5) := (by rw [hw5]; exact own_up (HQ4.out.keep HT4.out (by decide) hb5) (by omega) : OwnF _ _ _ _ _)
      have HB5 : Hid (Below g0 w w5) := (by rw [hw5]; exact HB4.out.trans (hb5.below (by have := HR4.out.lt; omega) (fun x hx => by simp at hx; omega)) : Below _ _ _)
      have HW5 : Hid (w5 = _) := hw5
      clear hw5 hb5
      go_wp2
      clear r0 k0 r1 k1 r2 k2 r3 k3 r4 k4 r5 k5 r6 k6 r7 k7 r8 k8 rf kf
      rw [← HW5.out]
      have hB9 := set9_blk HR5.out (.int .i64 st) (.string RS) (.slice va fs.length vc) (.string BY) (.int .i64 mi) (.slice ta tr.length tc) (.int .i64 kind) (.int .i64 (len : Int)) (.bool per)
      have hb9 := set9_but w5 g0 (.int .i64 st) (.string RS) (.slice va fs.length vc) (.string BY) (.int .i64 mi) (.slice ta tr.length tc) (.int .i64 kind) (.int .i64 (len : Int)) (.bool per)
      have hl9 : Below g0 w5 (set9 w5 g0 (.int .i64 st) (.string RS) (.slice va fs.length vc) (.string BY) (.int .i64 mi) (.slice ta tr.length tc) (.int .i64 kind) (.int .i64 (len : Int)) (.bool per)) := hb9.below (by have := HR5.out.lt; omega) (fun x hx => by simp at hx; omega)
      have ho9 : OwnF 64 g0 (.slice va fs.length vc) fs (set9 w5 g0 (.int .i64 st) (.string RS) (.slice va fs.length vc) (.string BY) (.int .i64 mi) (.slice ta tr.length tc) (.int .i64 kind) (.int .i64 (len : Int)) (.bool per)) := HR5.out.keep HF5.out (by decide) hb9
      have ht9 : OwnF 64 g0 (.slice ta tr.length tc) tr (set9 w5 g0 (.int .i64 st) (.string RS) (.slice va fs.length vc) (.string BY) (.int .i64 mi) (.slice ta tr.length tc) (.int .i64 kind) (.int .i64 (len : Int)) (.bool per)) := HR5.out.keep HT5.out (by decide) hb9
      obtain ⟨W9, hW9⟩ : ∃ W9, W9 = (set9 w5 g0 (.int .i64 st) (.string RS) (.slice va fs.length vc) (.string BY) (.int .i64 mi) (.slice ta tr.length tc) (.int .i64 kind) (.int .i64 (len : Int)) (.bool per)) := ⟨_, rfl⟩
      have HL9 : Hid (Below g0 w W9) := (by rw [hW9]; exact HB5.out.trans hl9 : Below _ _ _)
      have HO9 : Hid (OwnF 64 g0 (.slice va fs.length vc) fs W9) := (by rw [hW9]; exact ho9 : OwnF _ _ _ _ _)
      have HT9 : Hid (OwnF 64 g0 (.slice ta tr.length tc) tr W9) := (by rw [hW9]; exact ht9 : OwnF _ _ _ _ _)
      have hB9' : Blk 39 W9 g0 [.int .i64 st, .string RS, .slice va fs.length vc, .string BY, .int .i64 mi, .slice ta tr.length tc, .int .i64 kind, .int .i64 (len : Int), .bool per] := by rw [hW9]; exact hB9
      have hW9' : (((((((((w5.setCell ⟨g0, 0, none⟩ (.int .i64 st)).setCell ⟨g0, 1, none⟩ (.string RS)).setCell ⟨g0, 2, none⟩ (.slice va fs.length vc)).setCell ⟨g0, 3, none⟩ (.string BY)).setCell ⟨g0, 4, none⟩ (.int .i64 mi)).setCell ⟨g0, 5, none⟩ (.slice ta tr.length tc)).setCell ⟨g0, 6, none⟩ (.int .i64 kind)).setCell ⟨g0, 7, none⟩ (.int .i64 (len : Int))).setCell ⟨g0, 8, none⟩ (.bool per)) = W9 := hW9.symm
      rw [hW9']
      have q0 := hB9'.cell 0 rfl
      have q1 := hB9'.cell 1 rfl
      have q2 := hB9'.cell 2 rfl
      have q3 := hB9'.cell 3 rfl
      have q4 := hB9'.cell 4 rfl
      have q5 := hB9'.cell 5 rfl
      have q6 := hB9'.cell 6 rfl
      have q7 := hB9'.cell 7 rfl
      have q8 := hB9'.cell 8 rfl
      clear hB9 hb9 hl9 hW9 hW9' hB9' ho9 ht9
      refine bodyPost_ret (v := .tuple #[.agg #[.int .i64 st, .string RS, .slice va fs.length vc, .string BY, .int .i64 mi, .slice ta tr.length tc, .int .i64 kind, .int .i64 (len : Int), .bool per], .int .i64 ((N : Int) + pos), .int .i64 0]) (by simp [results, Tryz.results10, go_sem, q0, q1, q2, q3, q4, q5, q6, q7, q8]) rfl ?_
      rw [HG0.out, HQ.out]
      refine ⟨(.slice va fs.length vc), (.slice ta tr.length tc), ?_, (fun x hh => by injection hh with hh; rw [← hh]; exact ⟨HO9.out, HT9.out⟩), HL9.out⟩
      rw [HRS.out, HBY.out]
      rfl
    have HDe : Hid (R = _) := HDd.out.trans (if_neg hk2)
    have hkq : (kind == 2) = false := by simp [hk2]
    clear HDd hk2
    by_cases hk1 : kind = 1
    · have HDf : Hid (R = _) := HDe.out.trans (if_pos hk1)
      have hkp : (kind == 1) = true := by simp [hk1]
      clear HDe hk1
      by_cases hml : (m : Int) < (len : Int)
      · have HQ : Hid (R = (none, (N : Int), 125)) := HDf.out.trans (if_pos hml)
        have hml2 : m < len := by omega
        clear HDf
        go_wp2
        clear r0 k0 r1 k1 r2 k2 r3 k3 r4 k4 r5 k5 r6 k6 r7 k7 r8 k8 rf kf
        have hB9 := set9_blk HR3.out (.int .i64 0) (.string ⟨#[]⟩) (.slice none 0 0) (.string ⟨#[]⟩) (.int .i64 0) (.slice none 0 0) (.int .i64 0) (.int .i64 0) (.bool false)
        have hb9 := set9_but w3 g0 (.int .i64 0) (.string ⟨#[]⟩) (.slice none 0 0) (.string ⟨#[]⟩) (.int .i64 0) (.slice none 0 0) (.int .i64 0) (.int .i64 0) (.bool false)
        have hl9 : Below g0 w3 (set9 w3 g0 (.int .i64 0) (.string ⟨#[]⟩) (.slice none 0 0) (.string ⟨#[]⟩) (.int .i64 0) (.slice none 0 0) (.int .i64 0) (.int .i64 0) (.bool false)) := hb9.below (by have := HR3.out.lt; omega) (fun x hx => by simp at hx; omega)
        obtain ⟨W9, hW9⟩ : ∃ W9, W9 = (set9 w3 g0 (.int .i64 0) (.string ⟨#[]⟩) (.slice none 0 0) (.string ⟨#[]⟩) (.int .i64 0) (.slice none 0 0) (.int .i64 0) (.int .i64 0) (.bool false)) := ⟨_, rfl⟩
        have HL9 : Hid (Below g0 w W9) := (by rw [hW9]; exact HB3.out.trans hl9 : Below _ _ _)
        have hB9' : Blk 39 W9 g0 [.int .i64 0, .string ⟨#[]⟩, .slice none 0 0, .string ⟨#[]⟩, .int .i64 0, .slice none 0 0, .int .i64 0, .int .i64 0, .bool false] := by rw [hW9]; exact hB9
        have hW9' : (((((((((w3.setCell ⟨g0, 0, none⟩ (.int .i64 0)).setCell ⟨g0, 1, none⟩ (.string ⟨#[]⟩)).setCell ⟨g0, 2, none⟩ (.slice none 0 0)).setCell ⟨g0, 3, none⟩ (.string ⟨#[]⟩)).setCell ⟨g0, 4, none⟩ (.int .i64 0)).setCell ⟨g0, 5, none⟩ (.slice none 0 0)).setCell ⟨g0, 6, none⟩ (.int .i64 0)).setCell ⟨g0, 7, none⟩ (.int .i64 0)).setCell ⟨g0, 8, none⟩ (.bool false)) = W9 := hW9.symm
        rw [hW9']
        have q0 := hB9'.cell 0 rfl
        have q1 := hB9'.cell 1 rfl
        have q2 := hB9'.cell 2 rfl
        have q3 := hB9'.cell 3 rfl
        have q4 := hB9'.cell 4 rfl
        have q5 := hB9'.cell 5 rfl
        have q6 := hB9'.cell 6 rfl
        have q7 := hB9'.cell 7 rfl
        have q8 := hB9'.cell 8 rfl
        clear hB9 hb9 hl9 hW9 hW9' hB9'
        refine bodyPost_ret (v := .tuple #[.agg #[.int .i64 0, .string ⟨#[]⟩, .slice none 0 0, .string ⟨#[]⟩, .int .i64 0, .slice none 0 0, .int .i64 0, .int .i64 0, .bool false], .int .i64 (N : Int), .int .i64 125]) (by simp [results, Tryz.results10, go_sem, q0, q1, q2, q3, q4, q5, q6, q7, q8]) rfl ?_
        rw [HG0.out, HQ.out]
        exact ⟨.slice none 0 0, .slice none 0 0, rfl, (fun h hh => by cases hh), HL9.out⟩
      have HDg : Hid (R = _) := HDf.out.trans (if_neg hml)
      have hml2 : ¬ m < len := by omega
      clear HDf
      by_cases hrl : ((RT.size : Nat) : Int) < (len : Int)
      · have HQ : Hid (R = (none, (B.size : Int), 124)) := HDg.out.trans (if_pos hrl)
        have hrl2 : RT.size < len := by omega
        clear HDg
        go_wp2
        clear r0 k0 r1 k1 r2 k2 r3 k3 r4 k4 r5 k5 r6 k6 r7 k7 r8 k8 rf kf
        have hB9 := set9_blk HR3.out (.int .i64 0) (.string ⟨#[]⟩) (.slice none 0 0) (.string ⟨#[]⟩) (.int .i64 0) (.slice none 0 0) (.int .i64 0) (.int .i64 0) (.bool false)
        have hb9 := set9_but w3 g0 (.int .i64 0) (.string ⟨#[]⟩) (.slice none 0 0) (.string ⟨#[]⟩) (.int .i64 0) (.slice none 0 0) (.int .i64 0) (.int .i64 0) (.bool false)
        have hl9 : Below g0 w3 (set9 w3 g0 (.int .i64 0) (.string ⟨#[]⟩) (.slice none 0 0) (.string ⟨#[]⟩) (.int .i64 0) (.slice none 0 0) (.int .i64 0) (.int .i64 0) (.bool false)) := hb9.below (by have := HR3.out.lt; omega) (fun x hx => by simp at hx; omega)
        obtain ⟨W9, hW9⟩ : ∃ W9, W9 = (set9 w3 g0 (.int .i64 0) (.string ⟨#[]⟩) (.slice none 0 0) (.string ⟨#[]⟩) (.int .i64 0) (.slice none 0 0) (.int .i64 0) (.int .i64 0) (.bool false)) := ⟨_, rfl⟩
        have HL9 : Hid (Below g0 w W9) := (by rw [hW9]; exact HB3.out.trans hl9 : Below _ _ _)
        have hB9' : Blk 39 W9 g0 [.int .i64 0, .string ⟨#[]⟩, .slice none 0 0, .string ⟨#[]⟩, .int .i64 0, .slice none 0 0, .int .i64 0, .int .i64 0, .bool false] := by rw [hW9]; exact hB9
        have hW9' : (((((((((w3.setCell ⟨g0, 0, none⟩ (.int .i64 0)).setCell ⟨g0, 1, none⟩ (.string ⟨#[]⟩)).setCell ⟨g0, 2, none⟩ (.slice none 0 0)).setCell ⟨g0, 3, none⟩ (.string ⟨#[]⟩)).setCell ⟨g0, 4, none⟩ (.int .i64 0)).setCell ⟨g0, 5, none⟩ (.slice none 0 0)).setCell ⟨g0, 6, none⟩ (.int .i64 0)).setCell ⟨g0, 7, none⟩ (.int .i64 0)).setCell ⟨g0, 8, none⟩ (.bool false)) = W9 := hW9.symm
        rw [hW9']
        have q0 := hB9'.cell 0 rfl
        have q1 := hB9'.cell 1 rfl
        have q2 := hB9'.cell 2 rfl
        have q3 := hB9'.cell 3 rfl
        have q4 := hB9'.cell 4 rfl
        have q5 := hB9'.cell 5 rfl
        have q6 := hB9'.cell 6 rfl
        have q7 := hB9'.cell 7 rfl
        have q8 := hB9'.cell 8 rfl
        clear hB9 hb9 hl9 hW9 hW9' hB9'
        refine bodyPost_ret (v := .tuple #[.agg #[.int .i64 0, .string ⟨#[]⟩, .slice none 0 0, .string ⟨#[]⟩, .int .i64 0, .slice none 0 0, .int .i64 0, .int .i64 0, .bool false], .int .i64 (B.size : Int), .int .i64 124]) (by simp [results, Tryz.results10, go_sem, q0, q1, q2, q3, q4, q5, q6, q7, q8]) rfl ?_
        rw [HG0.out, HQ.out]
        exact ⟨.slice none 0 0, .slice none 0 0, rfl, (fun h hh => by cases hh), HL9.out⟩
      have HQ : Hid (R = (some (⟨st, rs, fs, mi, kind, (len : Int), per⟩, RT.data.toList.take len, []), (N : Int) + (len : Int), 0)) := HDg.out.trans (if_neg hrl)
      have hrl2 : ¬ RT.size < len := by omega
      have hl0 : (0 : Int) ≤ (len : Int) := by omega
      have hl1 : (len : Int) ≤ (RT.size : Int) := by omega
      have hsum : (-9223372036854775808 : Int) ≤ (N : Int) + (len : Int) ∧ (N : Int) + (len : Int) ≤ 9223372036854775807 := by omega
      have hwr : IntKind.i64.wrap ((N : Int) + (len : Int)) = (N : Int) + (len : Int) := i64wr _ hsum
      obtain ⟨BY, hBY⟩ : ∃ BY, RT.extract 0 len = BY := ⟨_, rfl⟩
      have HBY : Hid (BY = str (RT.data.toList.take len)) := (by rw [← hBY]; apply eq_list; rw [str_list, Lib.extract_data]; rfl : _ = _)
      clear HDg
      have hb5 := setD (But.refl [g1] w3) 3 (.string BY)
      obtain ⟨w5, hw5⟩ : ∃ w5, w5 = w3.setCell ⟨g1, 3, none⟩ (.string BY) := ⟨_, rfl⟩
      have HR5 : Hid (Blk 39 w5 g0 zeroC) := (by rw [hw5]; exact HR3.out.but hb5 (by simp; omega) : Blk _ _ _ _)
      have HQ5 : Hid (Blk 39 w5 g1 [.int .i64 st, .string RS, .slice va fs.length vc, .string BY, .int .i64 mi, .slice none 0 0, .int .i64 kind, .int .i64 (len : Int), .bool per]) := (by rw [hw5]; exact HQ3.out.set 3 _ : Blk _ _ _ _)
      have HF5 : Hid (OwnF 64 g0 (.slice va fs.length vc) fs w5) := (by rw [hw5]; exact HQ3.out.keep HF3.out (by decide) hb5 : OwnF _ _ _ _ _)
      have HB5 : Hid (Below g0 w w5) := (by rw [hw5]; exact HB3.out.trans (hb5.below (by have := HR3.out.lt; omega) (fun x hx => by simp at hx; omega)) : Below _ _ _)
      have HW5 : Hid (w5 = _) := hw5
      clear hb5 hw5
      go_wp2_with fail
      rw [← HW5.out]
      clear r0 k0 r1 k1 r2 k2 r3 k3 r4 k4 r5 k5 r6 k6 r7 k7 r8 k8 rf kf
      have r0 := HR5.out.cell 0 rfl
      have r1 := HR5.out.cell 1 rfl
      have r2 := HR5.out.cell 2 rfl
      have r3 := HR5.out.cell 3 rfl
      have r4 := HR5.out.cell 4 rfl
      have r5 := HR5.out.cell 5 rfl
      have r6 := HR5.out.cell 6 rfl
      have r7 := HR5.out.cell 7 rfl
      have r8 := HR5.out.cell 8 rfl
      have rf := HR5.out.free
      have k0 := HQ5.out.cell 0 rfl
      have k1 := HQ5.out.cell 1 rfl
      have k2 := HQ5.out.cell 2 rfl
      have k3 := HQ5.out.cell 3 rfl
      have k4 := HQ5.out.cell 4 rfl
      have k5 := HQ5.out.cell 5 rfl
      have k6 := HQ5.out.cell 6 rfl
      have k7 := HQ5.out.cell 7 rfl
      have k8 := HQ5.out.cell 8 rfl
      have kf := HQ5.out.free
      have kd0 := HQ5.out.cell 0 rfl
      have kd1 := HQ5.out.cell 1 rfl
      have kd2 := HQ5.out.cell 2 rfl
      have kd3 := HQ5.out.cell 3 rfl
      have kd4 := HQ5.out.cell 4 rfl
      have kd5 := HQ5.out.cell 5 rfl
      have kd6 := HQ5.out.cell 6 rfl
      have kd7 := HQ5.out.cell 7 rfl
      have kd8 := HQ5.out.cell 8 rfl
      have kdf := HQ5.out.free
      have rd0 := HR5.out.cell 0 rfl
      have rd1 := HR5.out.cell 1 rfl
      have rd2 := HR5.out.cell 2 rfl
      have rd3 := HR5.out.cell 3 rfl
      have rd4 := HR5.out.cell 4 rfl
      have rd5 := HR5.out.cell 5 rfl
      have rd6 := HR5.out.cell 6 rfl
      have rd7 := HR5.out.cell 7 rfl
      have rd8 := HR5.out.cell 8 rfl
      have rdf := HR5.out.free
      go_region_law (fail)
      all_goals
        go_simp
        go_wp2
        clear r0 k0 kd0 rd0 r1 k1 kd1 rd1 r2 k2 kd2 rd2 r3 k3 kd3 rd3 r4 k4 kd4 rd4 r5 k5 kd5 rd5 r6 k6 kd6 rd6 r7 k7 kd7 rd7 r8 k8 kd8 rd8 rf kf kdf rdf
        have hB9 := set9_blk HR5.out (.int .i64 st) (.string RS) (.slice va fs.length vc) (.string BY) (.int .i64 mi) (.slice none 0 0) (.int .i64 kind) (.int .i64 (len : Int)) (.bool per)
        have hb9 := set9_but w5 g0 (.int .i64 st) (.string RS) (.slice va fs.length vc) (.string BY) (.int .i64 mi) (.slice none 0 0) (.int .i64 kind) (.int .i64 (len : Int)) (.bool per)
        have hl9 : Below g0 w5 (set9 w5 g0 (.int .i64 st) (.string RS) (.slice va fs.length vc) (.string BY) (.int .i64 mi) (.slice none 0 0) (.int .i64 kind) (.int .i64 (len : Int)) (.bool per)) := hb9.below (by have := HR5.out.lt; omega) (fun x hx => by simp at hx; omega)
        have ho9 : OwnF 64 g0 (.slice va fs.length vc) fs (set9 w5 g0 (.int .i64 st) (.string RS) (.slice va fs.length vc) (.string BY) (.int .i64 mi) (.slice none 0 0) (.int .i64 kind) (.int .i64 (len : Int)) (.bool per)) := HR5.out.keep HF5.out (by decide) hb9
        obtain ⟨W9, hW9⟩ : ∃ W9, W9 = (set9 w5 g0 (.int .i64 st) (.string RS) (.slice va fs.length vc) (.string BY) (.int .i64 mi) (.slice none 0 0) (.int .i64 kind) (.int .i64 (len : Int)) (.bool per)).drew := ⟨_, rfl⟩
        have HL9 : Hid (Below g0 w W9) := (by rw [hW9]; exact HB5.out.trans hl9.drew : Below _ _ _)
        have HO9 : Hid (OwnF 64 g0 (.slice va fs.length vc) fs W9) := (by rw [hW9]; exact (But.refl [] _).drew.owns ho9 (fun _ _ e => by cases e) : OwnF _ _ _ _ _)
        have hB9' : Blk 39 W9 g0 [.int .i64 st, .string RS, .slice va fs.length vc, .string BY, .int .i64 mi, .slice none 0 0, .int .i64 kind, .int .i64 (len : Int), .bool per] := by rw [hW9]; exact hB9.but (But.refl [] _).drew (fun e => by cases e)
        have hW9' : (((((((((w5.setCell ⟨g0, 0, none⟩ (.int .i64 st)).setCell ⟨g0, 1, none⟩ (.string RS)).setCell ⟨g0, 2, none⟩ (.slice va fs.length vc)).setCell ⟨g0, 3, none⟩ (.string BY)).setCell ⟨g0, 4, none⟩ (.int .i64 mi)).setCell ⟨g0, 5, none⟩ (.slice none 0 0)).setCell ⟨g0, 6, none⟩ (.int .i64 kind)).setCell ⟨g0, 7, none⟩ (.int .i64 (len : Int))).setCell ⟨g0, 8, none⟩ (.bool per)).drew = W9 := hW9.symm
        rw [hW9']
        have q0 := hB9'.cell 0 rfl
        have q1 := hB9'.cell 1 rfl
        have q2 := hB9'.cell 2 rfl
        have q3 := hB9'.cell 3 rfl
        have q4 := hB9'.cell 4 rfl
        have q5 := hB9'.cell 5 rfl
        have q6 := hB9'.cell 6 rfl
        have q7 := hB9'.cell 7 rfl
        have q8 := hB9'.cell 8 rfl
        clear hB9 hb9 hl9 hW9 hW9' hB9' ho9
        refine bodyPost_ret (v := .tuple #[.agg #[.int .i64 st, .string RS, .slice va fs.length vc, .string BY, .int .i64 mi, .slice none 0 0, .int .i64 kind, .int .i64 (len : Int), .bool per], .int .i64 ((N : Int) + (len : Int)), .int .i64 0]) (by simp [results, Tryz.results10, go_sem, q0, q1, q2, q3, q4, q5, q6, q7, q8, hwr]) rfl ?_
        rw [HG0.out, HQ.out]
        refine ⟨(.slice va fs.length vc), .slice none 0 0, ?_, (fun x hh => by injection hh with hh; rw [← hh]; exact ⟨HO9.out, (ownF_nil _ _ _)⟩), HL9.out⟩
        rw [HRS.out, HBY.out]
        rfl
    have HDf : Hid (R = _) := HDe.out.trans (if_neg hk1)
    have hkp : (kind == 1) = false := by simp [hk1]
    clear HDe hk1
    by_cases hrm : m < RT.size
    · have HQ : Hid (R = (none, (N : Int) + (m : Int), 125)) := HDf.out.trans (if_pos hrm)
      have hsum : (-9223372036854775808 : Int) ≤ (N : Int) + (m : Int) ∧ (N : Int) + (m : Int) ≤ 9223372036854775807 := by omega
      clear HDf
      go_wp2
      clear r0 k0 r1 k1 r2 k2 r3 k3 r4 k4 r5 k5 r6 k6 r7 k7 r8 k8 rf kf
      have hB9 := set9_blk HR3.out (.int .i64 0) (.string ⟨#[]⟩) (.slice none 0 0) (.string ⟨#[]⟩) (.int .i64 0) (.slice none 0 0) (.int .i64 0) (.int .i64 0) (.bool false)
      have hb9 := set9_but w3 g0 (.int .i64 0) (.string ⟨#[]⟩) (.slice none 0 0) (.string ⟨#[]⟩) (.int .i64 0) (.slice none 0 0) (.int .i64 0) (.int .i64 0) (.bool false)
      have hl9 : Below g0 w3 (set9 w3 g0 (.int .i64 0) (.string ⟨#[]⟩) (.slice none 0 0) (.string ⟨#[]⟩) (.int .i64 0) (.slice none 0 0) (.int .i64 0) (.int .i64 0) (.bool false)) := hb9.below (by have := HR3.out.lt; omega) (fun x hx => by simp at hx; omega)
      obtain ⟨W9, hW9⟩ : ∃ W9, W9 = (set9 w3 g0 (.int .i64 0) (.string ⟨#[]⟩) (.slice none 0 0) (.string ⟨#[]⟩) (.int .i64 0) (.slice none 0 0) (.int .i64 0) (.int .i64 0) (.bool false)) := ⟨_, rfl⟩
      have HL9 : Hid (Below g0 w W9) := (by rw [hW9]; exact HB3.out.trans hl9 : Below _ _ _)
      have hB9' : Blk 39 W9 g0 [.int .i64 0, .string ⟨#[]⟩, .slice none 0 0, .string ⟨#[]⟩, .int .i64 0, .slice none 0 0, .int .i64 0, .int .i64 0, .bool false] := by rw [hW9]; exact hB9
      have hW9' : (((((((((w3.setCell ⟨g0, 0, none⟩ (.int .i64 0)).setCell ⟨g0, 1, none⟩ (.string ⟨#[]⟩)).setCell ⟨g0, 2, none⟩ (.slice none 0 0)).setCell ⟨g0, 3, none⟩ (.string ⟨#[]⟩)).setCell ⟨g0, 4, none⟩ (.int .i64 0)).setCell ⟨g0, 5, none⟩ (.slice none 0 0)).setCell ⟨g0, 6, none⟩ (.int .i64 0)).setCell ⟨g0, 7, none⟩ (.int .i64 0)).setCell ⟨g0, 8, none⟩ (.bool false)) = W9 := hW9.symm
      rw [hW9']
      have q0 := hB9'.cell 0 rfl
      have q1 := hB9'.cell 1 rfl
      have q2 := hB9'.cell 2 rfl
      have q3 := hB9'.cell 3 rfl
      have q4 := hB9'.cell 4 rfl
      have q5 := hB9'.cell 5 rfl
      have q6 := hB9'.cell 6 rfl
      have q7 := hB9'.cell 7 rfl
      have q8 := hB9'.cell 8 rfl
      clear hB9 hb9 hl9 hW9 hW9' hB9'
      refine bodyPost_ret (v := .tuple #[.agg #[.int .i64 0, .string ⟨#[]⟩, .slice none 0 0, .string ⟨#[]⟩, .int .i64 0, .slice none 0 0, .int .i64 0, .int .i64 0, .bool false], .int .i64 ((N : Int) + (m : Int)), .int .i64 125]) (by simp [results, Tryz.results10, go_sem, q0, q1, q2, q3, q4, q5, q6, q7, q8]) rfl ?_
      rw [HG0.out, HQ.out]
      exact ⟨.slice none 0 0, .slice none 0 0, rfl, (fun h hh => by cases hh), HL9.out⟩
    have HDg : Hid (R = _) := HDf.out.trans (if_neg hrm)
    clear HDf
    cases en with
    | false =>
      have HQ : Hid (R = (none, (B.size : Int), 124)) := HDg.out.trans (if_pos rfl)
      clear HDg
      go_wp2
      clear r0 k0 r1 k1 r2 k2 r3 k3 r4 k4 r5 k5 r6 k6 r7 k7 r8 k8 rf kf
      have hB9 := set9_blk HR3.out (.int .i64 0) (.string ⟨#[]⟩) (.slice none 0 0) (.string ⟨#[]⟩) (.int .i64 0) (.slice none 0 0) (.int .i64 0) (.int .i64 0) (.bool false)
      have hb9 := set9_but w3 g0 (.int .i64 0) (.string ⟨#[]⟩) (.slice none 0 0) (.string ⟨#[]⟩) (.int .i64 0) (.slice none 0 0) (.int .i64 0) (.int .i64 0) (.bool false)
      have hl9 : Below g0 w3 (set9 w3 g0 (.int .i64 0) (.string ⟨#[]⟩) (.slice none 0 0) (.string ⟨#[]⟩) (.int .i64 0) (.slice none 0 0) (.int .i64 0) (.int .i64 0) (.bool false)) := hb9.below (by have := HR3.out.lt; omega) (fun x hx => by simp at hx; omega)
      obtain ⟨W9, hW9⟩ : ∃ W9, W9 = (set9 w3 g0 (.int .i64 0) (.string ⟨#[]⟩) (.slice none 0 0) (.string ⟨#[]⟩) (.int .i64 0) (.slice none 0 0) (.int .i64 0) (.int .i64 0) (.bool false)) := ⟨_, rfl⟩
      have HL9 : Hid (Below g0 w W9) := (by rw [hW9]; exact HB3.out.trans hl9 : Below _ _ _)
      have hB9' : Blk 39 W9 g0 [.int .i64 0, .string ⟨#[]⟩, .slice none 0 0, .string ⟨#[]⟩, .int .i64 0, .slice none 0 0, .int .i64 0, .int .i64 0, .bool false] := by rw [hW9]; exact hB9
      have hW9' : (((((((((w3.setCell ⟨g0, 0, none⟩ (.int .i64 0)).setCell ⟨g0, 1, none⟩ (.string ⟨#[]⟩)).setCell ⟨g0, 2, none⟩ (.slice none 0 0)).setCell ⟨g0, 3, none⟩ (.string ⟨#[]⟩)).setCell ⟨g0, 4, none⟩ (.int .i64 0)).setCell ⟨g0, 5, none⟩ (.slice none 0 0)).setCell ⟨g0, 6, none⟩ (.int .i64 0)).setCell ⟨g0, 7, none⟩ (.int .i64 0)).setCell ⟨g0, 8, none⟩ (.bool false)) = W9 := hW9.symm
      rw [hW9']
      have q0 := hB9'.cell 0 rfl
      have q1 := hB9'.cell 1 rfl
      have q2 := hB9'.cell 2 rfl
      have q3 := hB9'.cell 3 rfl
      have q4 := hB9'.cell 4 rfl
      have q5 := hB9'.cell 5 rfl
      have q6 := hB9'.cell 6 rfl
      have q7 := hB9'.cell 7 rfl
      have q8 := hB9'.cell 8 rfl
      clear hB9 hb9 hl9 hW9 hW9' hB9'
      refine bodyPost_ret (v := .tuple #[.agg #[.int .i64 0, .string ⟨#[]⟩, .slice none 0 0, .string ⟨#[]⟩, .int .i64 0, .slice none 0 0, .int .i64 0, .int .i64 0, .bool false], .int .i64 (B.size : Int), .int .i64 124]) (by simp [results, Tryz.results10, go_sem, q0, q1, q2, q3, q4, q5, q6, q7, q8]) rfl ?_
      rw [HG0.out, HQ.out]
      exact ⟨.slice none 0 0, .slice none 0 0, rfl, (fun h hh => by cases hh), HL9.out⟩
    | true =>
      have HQ : Hid (R = (some (⟨st, rs, fs, mi, kind, (len : Int), false⟩, RT.data.toList, []), (B.size : Int), 0)) := HDg.out.trans (if_neg (by simp))
      clear HDg
      have hb5 := setD (setD (But.refl [g1] w3) 3 (.string RT)) 8 (.bool false)
      obtain ⟨w5, hw5⟩ : ∃ w5, w5 = (w3.setCell ⟨g1, 3, none⟩ (.string RT)).setCell ⟨g1, 8, none⟩ (.bool false) := ⟨_, rfl⟩
      have HR5 : Hid (Blk 39 w5 g0 zeroC) := (by rw [hw5]; exact HR3.out.but hb5 (by simp; omega) : Blk _ _ _ _)
      have HF5 : Hid (OwnF 64 g0 (.slice va fs.length vc) fs w5) := (by rw [hw5]; exact HQ3.out.keep HF3.out (by decide) hb5 : OwnF _ _ _ _ _)
      have HB5 : Hid (Below g0 w w5) := (by rw [hw5]; exact HB3.out.trans (hb5.below (by have := HR3.out.lt; omega) (fun x hx => by simp at hx; omega)) : Below _ _ _)
      have HW5 : Hid (w5 = _) := hw5
      clear hb5 hw5
      go_wp2
      clear r0 k0 r1 k1 r2 k2 r3 k3 r4 k4 r5 k5 r6 k6 r7 k7 r8 k8 rf kf
      rw [← HW5.out]
      have hB9 := set9_blk HR5.out (.int .i64 st) (.string RS) (.slice va fs.length vc) (.string RT) (.int .i64 mi) (.slice none 0 0) (.int .i64 kind) (.int .i64 (len : Int)) (.bool false)
      have hb9 := set9_but w5 g0 (.int .i64 st) (.string RS) (.slice va fs.length vc) (.string RT) (.int .i64 mi) (.slice none 0 0) (.int .i64 kind) (.int .i64 (len : Int)) (.bool false)
      have hl9 : Below g0 w5 (set9 w5 g0 (.int .i64 st) (.string RS) (.slice va fs.length vc) (.string RT) (.int .i64 mi) (.slice none 0 0) (.int .i64 kind) (.int .i64 (len : Int)) (.bool false)) := hb9.below (by have := HR5.out.lt; omega) (fun x hx => by simp at hx; omega)
      have ho9 : OwnF 64 g0 (.slice va fs.length vc) fs (set9 w5 g0 (.int .i64 st) (.string RS) (.slice va fs.length vc) (.string RT) (.int .i64 mi) (.slice none 0 0) (.int .i64 kind) (.int .i64 (len : Int)) (.bool false)) := HR5.out.keep HF5.out (by decide) hb9
      obtain ⟨W9, hW9⟩ : ∃ W9, W9 = (set9 w5 g0 (.int .i64 st) (.string RS) (.slice va fs.length vc) (.string RT) (.int .i64 mi) (.slice none 0 0) (.int .i64 kind) (.int .i64 (len : Int)) (.bool false)) := ⟨_, rfl⟩
      have HL9 : Hid (Below g0 w W9) := (by rw [hW9]; exact HB5.out.trans hl9 : Below _ _ _)
      have HO9 : Hid (OwnF 64 g0 (.slice va fs.length vc) fs W9) := (by rw [hW9]; exact ho9 : OwnF _ _ _ _ _)
      have hB9' : Blk 39 W9 g0 [.int .i64 st, .string RS, .slice va fs.length vc, .string RT, .int .i64 mi, .slice none 0 0, .int .i64 kind, .int .i64 (len : Int), .bool false] := by rw [hW9]; exact hB9
      have hW9' : (((((((((w5.setCell ⟨g0, 0, none⟩ (.int .i64 st)).setCell ⟨g0, 1, none⟩ (.string RS)).setCell ⟨g0, 2, none⟩ (.slice va fs.length vc)).setCell ⟨g0, 3, none⟩ (.string RT)).setCell ⟨g0, 4, none⟩ (.int .i64 mi)).setCell ⟨g0, 5, none⟩ (.slice none 0 0)).setCell ⟨g0, 6, none⟩ (.int .i64 kind)).setCell ⟨g0, 7, none⟩ (.int .i64 (len : Int))).setCell ⟨g0, 8, none⟩ (.bool false)) = W9 := hW9.symm
      rw [hW9']
      have q0 := hB9'.cell 0 rfl
      have q1 := hB9'.cell 1 rfl
      have q2 := hB9'.cell 2 rfl
      have q3 := hB9'.cell 3 rfl
      have q4 := hB9'.cell 4 rfl
      have q5 := hB9'.cell 5 rfl
      have q6 := hB9'.cell 6 rfl
      have q7 := hB9'.cell 7 rfl
      have q8 := hB9'.cell 8 rfl
      clear hB9 hb9 hl9 hW9 hW9' hB9' ho9
      refine bodyPost_ret (v := .tuple #[.agg #[.int .i64 st, .string RS, .slice va fs.length vc, .string RT, .int .i64 mi, .slice none 0 0, .int .i64 kind, .int .i64 (len : Int), .bool false], .int .i64 (B.size : Int), .int .i64 0]) (by simp [results, Tryz.results10, go_sem, q0, q1, q2, q3, q4, q5, q6, q7, q8]) rfl ?_
      rw [HG0.out, HQ.out]
      refine ⟨(.slice va fs.length vc), .slice none 0 0, ?_, (fun x hh => by injection hh with hh; rw [← hh]; exact ⟨HO9.out, (ownF_nil _ _ _)⟩), HL9.out⟩
      rw [HRS.out]
      simp [ansD, repD, str_self]
end Ms
end Go.Proofs.YtdcfhnbagldilaaGreatDoor
