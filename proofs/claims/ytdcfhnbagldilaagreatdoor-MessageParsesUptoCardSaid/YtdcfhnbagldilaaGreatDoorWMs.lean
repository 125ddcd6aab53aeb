import Derived.Test.YtdcfhnbagldilaaGreatDoorMgM1
set_option linter.unusedVariables false
set_option linter.unusedSimpArgs false
set_option maxRecDepth 100000
namespace Go.Proofs.YtdcfhnbagldilaaGreatDoor
open Go.RowKit Go.Shelf
namespace Ms
open Oc Tg _root_.Go.Proofs.YtdcfhnbagldilaaGreatDoor.Fd _root_.Go.Proofs.YtdcfhnbagldilaaGreatDoor.Ck
def Twin (l1 l2 : List Value) (w : World) : Prop := (l1.length = 9 ∧ l2.length = 9) ∧ ∀ W, Below w.heap.size w W → Calls Tryz.prog 8 #[.agg l1.toArray, .agg l2.toArray] W fun e w' => e = .returned (.bool true) ∧ Below (World.heap W).size W w'
theorem rd_nilF (w : World) : RdF (.slice none 0 0) [] w := ⟨none, 0, rfl, .inl rfl⟩
theorem twin_H (D : Option Hd × Int × Int) (v1 v2 : Value) (n1 n2 : Nat) (w : World) (h1 : HdO 47 D v1 n1 w) (h2 : HdO 64 D v2 n2 w) (hl : ∀ x, D.1 = some x → x.fs.length ≤ 4294967296) : Twin (ansH D v1) (ansH D v2) w := by
  obtain ⟨o, n, e⟩ := D
  cases o with
  | none => exact ⟨⟨rfl, rfl⟩, fun W hW => same_reply 0 0 0 0 ⟨#[]⟩ ⟨#[]⟩ false (.slice none 0 0) (.slice none 0 0) (.slice none 0 0) (.slice none 0 0) [] [] W (rd_nilF W) (rd_nilF W) (rd_nilF W) (rd_nilF W) (by simp) (by simp)⟩
  | some x => exact ⟨⟨rfl, rfl⟩, fun W hW => same_reply x.st x.mi x.kind x.len (str x.rs) (str []) x.per v1 v2 (.slice none 0 0) (.slice none 0 0) x.fs [] W ((OwnF.rd (h1 x rfl)).below hW) ((OwnF.rd (h2 x rfl)).below hW) (rd_nilF W) (rd_nilF W) (hl x rfl) (by simp)⟩
theorem twin_D (D : Option (Hd × List UInt8 × List Fl) × Int × Int) (v1 v2 u1 u2 : Value) (n1 n2 : Nat) (w : World) (h1 : RpO 47 D v1 u1 n1 w) (h2 : RpO 64 D v2 u2 n2 w) (hl : ∀ x, D.1 = some x → x.1.fs.length ≤ 4294967296 ∧ x.2.2.length ≤ 4294967296) : Twin (ansD D v1 u1) (ansD D v2 u2) w := by
  obtain ⟨o, n, e⟩ := D
  cases o with
  | none => exact ⟨⟨rfl, rfl⟩, fun W hW => same_reply 0 0 0 0 ⟨#[]⟩ ⟨#[]⟩ false (.slice none 0 0) (.slice none 0 0) (.slice none 0 0) (.slice none 0 0) [] [] W (rd_nilF W) (rd_nilF W) (rd_nilF W) (rd_nilF W) (by simp) (by simp)⟩
  | some x => exact ⟨⟨rfl, rfl⟩, fun W hW => same_reply x.1.st x.1.mi x.1.kind x.1.len (str x.1.rs) (str x.2.1) x.1.per v1 v2 u1 u2 x.1.fs x.2.2 W ((OwnF.rd (h1 x rfl).1).below hW) ((OwnF.rd (h2 x rfl).1).below hW) ((OwnF.rd (h1 x rfl).2).below hW) ((OwnF.rd (h2 x rfl).2).below hW) (hl x rfl).1 (hl x rfl).2⟩
theorem HdO.below {FT : Nat} {D : Option Hd × Int × Int} {v : Value} {n : Nat} {w w' : World} (h : HdO FT D v n w) (b : Below w.heap.size w w') : HdO FT D v n w' := fun x hx => OwnF.below (h x hx) b
theorem RpO.below {FT : Nat} {D : Option (Hd × List UInt8 × List Fl) × Int × Int} {v u : Value} {n : Nat} {w w' : World} (h : RpO FT D v u n w) (b : Below w.heap.size w w') : RpO FT D v u n w' := fun x hx => ⟨OwnF.below (h x hx).1 b, OwnF.below (h x hx).2 b⟩
theorem list9 {α : Type} {l : List α} (h : l.length = 9) : ∃ a0 a1 a2 a3 a4 a5 a6 a7 a8, l = [a0, a1, a2, a3, a4, a5, a6, a7, a8] := by
  match l, h with
  | [a0, a1, a2, a3, a4, a5, a6, a7, a8], _ => exact ⟨a0, a1, a2, a3, a4, a5, a6, a7, a8, rfl⟩
theorem docH_cnt (B : ByteArray) (x : Hd) (h : (docH B).1 = some x) : x.fs.length ≤ 100 := by
  have ho := hRun_ok B.data.toList (newH B.data.toList false) (newH_ok B.data.toList false).1
  rw [← out_head B false] at h
  rw [outH_some h]
  refine (ho ?_).fs
  unfold outH at h
  split at h
  · cases h
  · rename_i e; simpa using e
theorem docP_cnt (me : List UInt8) (B : ByteArray) (m : Nat) (en : Bool) (hm : m ≤ 9223372036854775807) (x : Hd × List UInt8 × List Fl) (h : (docP me B m en).1 = some x) : x.1.fs.length ≤ 100 ∧ x.2.2.length ≤ B.size := by
  have hc := docH_cnt B
  unfold docP at h
  generalize docH B = D at *
  obtain ⟨o, n, e⟩ := D
  cases o with
  | none => cases h
  | some y =>
    have hc := hc y rfl
    have h : (docB me B m en y n).1 = some x := h
    unfold docB at h
    split at h
    · injection h with h; rw [← h]; exact ⟨hc, Nat.zero_le _⟩
    split at h
    · split at h
      · cases h
      · injection h with h
        rw [← h]
        refine ⟨hc, ?_⟩
        have h1 := decR_len (m : Int) 65536 100 (B.data.toList.drop n.toNat) (by omega) (by omega) (by omega)
        rw [List.length_drop, size_list] at h1
        exact Nat.le_trans h1 (by omega)
    split at h
    · split at h
      · cases h
      split at h
      · cases h
      · injection h with h; rw [← h]; exact ⟨hc, Nat.zero_le _⟩
    split at h
    · cases h
    split at h
    · cases h
    · injection h with h; rw [← h]; exact ⟨hc, Nat.zero_le _⟩
theorem ansH_form {FT n : Nat} {D : Option Hd × Int × Int} {v : Value} {w : World} (h : HdO FT D v n w) : ∃ a0 a1 a2 a2n a2c a3 a4 a5 a5n a5c a6 a7 a8, ansH D v = [.int .i64 a0, .string a1, .slice a2 a2n a2c, .string a3, .int .i64 a4, .slice a5 a5n a5c, .int .i64 a6, .int .i64 a7, .bool a8] := by
  obtain ⟨o, x, y⟩ := D
  cases o with
  | none => exact ⟨_, _, _, _, _, _, _, _, _, _, _, _, _, rfl⟩
  | some k =>
    obtain ⟨a, c, rfl⟩ := ownF_form (h k rfl)
    exact ⟨_, _, _, _, _, _, _, _, _, _, _, _, _, rfl⟩
theorem ansD_form {FT n : Nat} {D : Option (Hd × List UInt8 × List Fl) × Int × Int} {v u : Value} {w : World} (h : RpO FT D v u n w) : ∃ a0 a1 a2 a2n a2c a3 a4 a5 a5n a5c a6 a7 a8, ansD D v u = [.int .i64 a0, .string a1, .slice a2 a2n a2c, .string a3, .int .i64 a4, .slice a5 a5n a5c, .int .i64 a6, .int .i64 a7, .bool a8] := by
  obtain ⟨o, x, y⟩ := D
  cases o with
  | none => exact ⟨_, _, _, _, _, _, _, _, _, _, _, _, _, rfl⟩
  | some k =>
    obtain ⟨a, c, rfl⟩ := ownF_form (h k rfl).1
    obtain ⟨a', c', rfl⟩ := ownF_form (h k rfl).2
    exact ⟨_, _, _, _, _, _, _, _, _, _, _, _, _, rfl⟩
theorem set9_all {T : Nat} {w : World} {g : Nat} {l : List Value} (h : Blk T w g l) (hl : l.length = 9) (v0 v1 v2 v3 v4 v5 v6 v7 v8 : Value) : Blk T (set9 w g v0 v1 v2 v3 v4 v5 v6 v7 v8) g [v0, v1, v2, v3, v4, v5, v6, v7, v8] := by
  obtain ⟨a0, a1, a2, a3, a4, a5, a6, a7, a8, rfl⟩ := list9 hl
  exact ((((((((h.set 0 v0).set 1 v1).set 2 v2).set 3 v3).set 4 v4).set 5 v5).set 6 v6).set 7 v7).set 8 v8
def docQ (me : List UInt8) (B : ByteArray) (m : Int) (en : Bool) : Option (Hd × List UInt8 × List Fl) × Int × Int := if m < 0 then (none, 0, 1) else docP me B m.toNat en
theorem parse_q (A B : ByteArray) (m : Int) (en : Bool) (hm : i64 m) (hB : B.size ≤ 2000000) :
    (∀ W, Env W → Calls Tryz.prog 9 #[.string A, .string B, .int .i64 m, .bool en] W fun e w' => ∃ vf vt, e = .returned (.tuple #[.agg (ansD (docQ A.data.toList B m en) vf vt).toArray, .int .i64 (docQ A.data.toList B m en).2.1, .int .i64 (docQ A.data.toList B m en).2.2]) ∧ RpO 47 (docQ A.data.toList B m en) vf vt (World.heap W).size w' ∧ Below (World.heap W).size W w') ∧
    (∀ W, Calls Tryz.prog 10 #[.string A, .string B, .int .i64 m, .bool en] W fun e w' => ∃ vf vt, e = .returned (.tuple #[.agg (ansD (docQ A.data.toList B m en) vf vt).toArray, .int .i64 (docQ A.data.toList B m en).2.1, .int .i64 (docQ A.data.toList B m en).2.2]) ∧ RpO 64 (docQ A.data.toList B m en) vf vt (World.heap W).size w' ∧ Below (World.heap W).size W w') ∧
    (∀ x, (docQ A.data.toList B m en).1 = some x → x.1.fs.length ≤ 100 ∧ x.2.2.length ≤ B.size) := by
  by_cases h : m < 0
  · have e : docQ A.data.toList B m en = (none, 0, 1) := if_pos h
    rw [e]
    refine ⟨fun W hW => (Parse_neg A B m en h W).mono ?_, fun W => (rParse_neg A B m en h W).mono ?_, fun x hx => by cases hx⟩
    · rintro e w' ⟨rfl, hb⟩
      exact ⟨.slice none 0 0, .slice none 0 0, rfl, (fun x hx => by cases hx), hb⟩
    · rintro e w' ⟨rfl, hb⟩
      exact ⟨.slice none 0 0, .slice none 0 0, rfl, (fun x hx => by cases hx), hb⟩
  · have e : docQ A.data.toList B m en = docP A.data.toList B m.toNat en := if_neg h
    obtain ⟨k, rfl⟩ : ∃ k : Nat, m = (k : Int) := ⟨m.toNat, by omega⟩
    have hk : k ≤ 9223372036854775807 := by unfold i64 at hm; omega
    rw [e, show ((k : Int)).toNat = k from rfl]
    exact ⟨fun W hW => Parse_doc A B k en hk (by omega) W hW, fun W => rParse_any A B k en hk hB W, fun x hx => docP_cnt _ B k en hk x hx⟩
set_option maxHeartbeats 4000000 in
theorem walk_MessageParses (A B : ByteArray) (m : Int) (en : Bool) (hb : A.size + B.size ≤ 1048576) (hm : i64 m) (w : World) (hw : Env w) (hp : Pow w) :
    Calls Tryz.prog 3 #[.agg #[.string A, .string B, .int .i64 m, .bool en]] w fun e w' => e = .returned (.bool true) ∧ Below w.heap.size w w' := by
  obtain ⟨w0, hw0⟩ : ∃ w0, w0 = w.alloc (.cells #[.string A, .string B, .int .i64 m, .bool en] 23) := ⟨_, rfl⟩
  have HB0 : Hid (Below w.heap.size w w0) := (by rw [hw0]; exact (Below.refl _ w).alloc (Nat.le_refl _) _ : Below _ _ _)
  have HS0 : Hid (Blk 23 w0 w.heap.size [.string A, .string B, .int .i64 m, .bool en]) := (by rw [hw0]; exact heap_alloc_new w _ : Blk _ _ _ _)
  have HW0 : Hid (w0 = _) := hw0
  have HE : Hid (Env w) := hw
  have HA : Hid (Calls _ _ _ _ _) := awake_any w0 (hw.below HB0.out) (hp.below HB0.out (Nat.le_refl _))
  obtain ⟨hq1, hq2, hq3⟩ := parse_q A B m en hm (by omega)
  have HP1 : Hid (∀ W, Env W → Calls _ _ _ W _) := fun W h => hq1 W h
  have HP2 : Hid (∀ W, Calls _ _ _ W _) := fun W => hq2 W
  have HP3 : Hid (∀ x, (docQ A.data.toList B m en).1 = some x → x.1.fs.length ≤ 4294967296 ∧ x.2.2.length ≤ 4294967296) := fun x hx => ⟨by have := (hq3 x hx).1; omega, by have := (hq3 x hx).2; omega⟩
  have HH1 : Hid (∀ W, Env W → Calls _ _ _ W _) := fun W h => ParseHead_doc B (by omega) W h
  have HH2 : Hid (∀ W, Calls _ _ _ W _) := fun W => rParseHead_any B (by omega) W
  have HH3 : Hid (∀ x, (docH B).1 = some x → x.fs.length ≤ 4294967296) := fun x hx => by have := docH_cnt B x hx; omega
  generalize docQ A.data.toList B m en = Q at *
  generalize docH B = D at *
  clear hq1 hq2 hq3 hw0 hw hp
  go_enter Tryz.func3, Tryz.ntmps3
  go_wp2_with fail
  rw [← HW0.out]
  clear HW0
  generalize hg0 : w.heap.size = g0 at *
  have HG0 : Hid (w.heap.size = g0) := hg0
  clear hg0
  refine HA.out.mono ?_
  rintro e w1 ⟨rfl, hb1⟩
  have HB1 : Hid (Below g0 w w1) := HB0.out.trans (hb1.mono (by have := HB0.out.size; have := HG0.out; omega))
  have HS1 : Hid (Blk 23 w1 g0 [.string A, .string B, .int .i64 m, .bool en]) := HS0.out.below hb1
  clear hb1 HA HB0 HS0
  have s1 := HS1.out.cell 1 rfl
  go_wp2_with fail
  refine (HH1.out w1 (HE.out.below (by rw [HG0.out]; exact HB1.out))).mono ?_
  rintro e w2 ⟨v1, rfl, hd1, hb2⟩
  have HB2 : Hid (Below g0 w w2) := HB1.out.trans (hb2.mono (by have := HB1.out.size; have := HG0.out; omega))
  have HS2 : Hid (Blk 23 w2 g0 [.string A, .string B, .int .i64 m, .bool en]) := HS1.out.below hb2
  have hT := twin_H D v1
  obtain ⟨a0, a1, a2, a2n, a2c, a3, a4, a5, a5n, a5c, a6, a7, a8, hA⟩ := ansH_form hd1
  rw [hA]
  obtain ⟨w3, hw3⟩ : ∃ w3, w3 = w2.alloc (.cells #[.int .i64 a0, .string a1, .slice a2 a2n a2c, .string a3, .int .i64 a4, .slice a5 a5n a5c, .int .i64 a6, .int .i64 a7, .bool a8] 31) := ⟨_, rfl⟩
  have hba : Below w2.heap.size w2 w3 := by rw [hw3]; exact (Below.refl _ w2).alloc (Nat.le_refl _) _
  obtain ⟨g3, hg3⟩ : ∃ g3, g3 = w2.heap.size := ⟨_, rfl⟩
  have HA3 : Hid (Blk 31 w3 g3 [.int .i64 a0, .string a1, .slice a2 a2n a2c, .string a3, .int .i64 a4, .slice a5 a5n a5c, .int .i64 a6, .int .i64 a7, .bool a8]) := (by rw [hw3, hg3]; exact heap_alloc_new w2 _ : Blk _ _ _ _)
  have HD3 : Hid (HdO 47 D v1 w1.heap.size w3) := hd1.below hba
  have HB3 : Hid (Below g0 w w3) := HB2.out.trans (hba.mono (by have := HB2.out.size; have := HG0.out; omega))
  have HS3 : Hid (Blk 23 w3 g0 [.string A, .string B, .int .i64 m, .bool en]) := HS2.out.below hba
  have HW3 : Hid (w3 = _) := hw3
  have HG3 : Hid (w2.heap.size = g3) := hg3.symm
  have hg03 : g0 < g3 := by rw [hg3]; exact HS2.out.lt
  have HANA : Hid (ansH D v1 = [.int .i64 a0, .string a1, .slice a2 a2n a2c, .string a3, .int .i64 a4, .slice a5 a5n a5c, .int .i64 a6, .int .i64 a7, .bool a8]) := hA
  have k1 := HS2.out.cell 1 rfl
  clear hd1 hb2 hw3 hg3 hba hA s1 HB1 HS1 HB2 HS2
  have hlt3 : g0 < w2.heap.size := by rw [HG3.out]; exact hg03
  go_wp2_with fail
  rw [← HW3.out]
  rw [HG3.out]
  clear HW3 HG3 k1 hlt3
  refine (HH2.out w3).mono ?_
  rintro e w4 ⟨v2, rfl, hd2, hb4⟩
  have HB4 : Hid (Below g0 w w4) := HB3.out.trans (hb4.mono (by have := HB3.out.size; have := HG0.out; omega))
  have HS4 : Hid (Blk 23 w4 g0 [.string A, .string B, .int .i64 m, .bool en]) := HS3.out.below hb4
  have HA4 : Hid (Blk 31 w4 g3 [.int .i64 a0, .string a1, .slice a2 a2n a2c, .string a3, .int .i64 a4, .slice a5 a5n a5c, .int .i64 a6, .int .i64 a7, .bool a8]) := HA3.out.below hb4
  have HD4 : Hid (HdO 47 D v1 w1.heap.size w4) := HD3.out.below hb4
  obtain ⟨b0, b1, b2, b2n, b2c, b3, b4, b5, b5n, b5c, b6, b7, b8, hA⟩ := ansH_form hd2
  rw [hA]
  obtain ⟨w5, hw5⟩ : ∃ w5, w5 = w4.alloc (.cells #[.int .i64 b0, .string b1, .slice b2 b2n b2c, .string b3, .int .i64 b4, .slice b5 b5n b5c, .int .i64 b6, .int .i64 b7, .bool b8] 39) := ⟨_, rfl⟩
  have hba : Below w4.heap.size w4 w5 := by rw [hw5]; exact (Below.refl _ w4).alloc (Nat.le_refl _) _
  obtain ⟨g5, hg5⟩ : ∃ g5, g5 = w4.heap.size := ⟨_, rfl⟩
  have HC5 : Hid (Blk 39 w5 g5 [.int .i64 b0, .string b1, .slice b2 b2n b2c, .string b3, .int .i64 b4, .slice b5 b5n b5c, .int .i64 b6, .int .i64 b7, .bool b8]) := (by rw [hw5, hg5]; exact heap_alloc_new w4 _ : Blk _ _ _ _)
  have HA5 : Hid (Blk 31 w5 g3 [.int .i64 a0, .string a1, .slice a2 a2n a2c, .string a3, .int .i64 a4, .slice a5 a5n a5c, .int .i64 a6, .int .i64 a7, .bool a8]) := HA4.out.below hba
  have HB5 : Hid (Below g0 w w5) := HB4.out.trans (hba.mono (by have := HB4.out.size; have := HG0.out; omega))
  have HS5 : Hid (Blk 23 w5 g0 [.string A, .string B, .int .i64 m, .bool en]) := HS4.out.below hba
  have hg35 : g3 < g5 := by rw [hg5]; exact HA4.out.lt
  have HT5 : Hid (Twin [.int .i64 a0, .string a1, .slice a2 a2n a2c, .string a3, .int .i64 a4, .slice a5 a5n a5c, .int .i64 a6, .int .i64 a7, .bool a8] [.int .i64 b0, .string b1, .slice b2 b2n b2c, .string b3, .int .i64 b4, .slice b5 b5n b5c, .int .i64 b6, .int .i64 b7, .bool b8] w5) := (by
    have h := twin_H D v1 v2 w1.heap.size w3.heap.size w5 (HD4.out.below hba) (hd2.below hba) HH3.out
    rw [HANA.out, hA] at h
    exact h : Twin _ _ _)
  have HW5 : Hid (w5 = _) := hw5
  have HG5 : Hid (w4.heap.size = g5) := hg5.symm
  have HC : Hid (Calls Tryz.prog 8 #[.agg #[.int .i64 a0, .string a1, .slice a2 a2n a2c, .string a3, .int .i64 a4, .slice a5 a5n a5c, .int .i64 a6, .int .i64 a7, .bool a8], .agg #[.int .i64 b0, .string b1, .slice b2 b2n b2c, .string b3, .int .i64 b4, .slice b5 b5n b5c, .int .i64 b6, .int .i64 b7, .bool b8]] w5 fun e w' => e = .returned (.bool true) ∧ Below (World.heap w5).size w5 w') := HT5.out.2 w5 (Below.refl _ _)
  have x0 := HA4.out.cell 0 rfl
  have x1 := HA4.out.cell 1 rfl
  have x2 := HA4.out.cell 2 rfl
  have x3 := HA4.out.cell 3 rfl
  have x4 := HA4.out.cell 4 rfl
  have x5 := HA4.out.cell 5 rfl
  have x6 := HA4.out.cell 6 rfl
  have x7 := HA4.out.cell 7 rfl
  have x8 := HA4.out.cell 8 rfl
  have hlt5 : g3 < w4.heap.size := HA4.out.lt
  clear hd2 hb4 hw5 hg5 hba hA HB3 HS3 HA3 HD3 HD4 HT5 HANA HH1 HH2 HH3
  generalize hn1 : D.2.1 = n1 at *
  generalize hn2 : D.2.2 = n2 at *
  clear hn1 hn2
  go_wp2_with fail
  rw [← HW5.out]
  try rw [HG5.out]
  clear HW5 HG5 hlt5 x0 x1 x2 x3 x4 x5 x6 x7 x8
  refine HC.out.mono ?_
  rintro e w6 ⟨rfl, hb6⟩
  have HB6 : Hid (Below g0 w w6) := HB5.out.trans (hb6.mono (by have := HB5.out.size; have := HG0.out; omega))
  have HS6 : Hid (Blk 23 w6 g0 [.string A, .string B, .int .i64 m, .bool en]) := HS5.out.below hb6
  have HA6 : Hid (Blk 31 w6 g3 [.int .i64 a0, .string a1, .slice a2 a2n a2c, .string a3, .int .i64 a4, .slice a5 a5n a5c, .int .i64 a6, .int .i64 a7, .bool a8]) := HA5.out.below hb6
  have HC6 : Hid (Blk 39 w6 g5 [.int .i64 b0, .string b1, .slice b2 b2n b2c, .string b3, .int .i64 b4, .slice b5 b5n b5c, .int .i64 b6, .int .i64 b7, .bool b8]) := HC5.out.below hb6
  clear hb6 HC HB5 HS5 HA5 HC5 HA4 HB4 HS4
  have s0 := HS6.out.cell 0 rfl
  have s1 := HS6.out.cell 1 rfl
  have s2 := HS6.out.cell 2 rfl
  have s3 := HS6.out.cell 3 rfl
  go_wp2_with fail
  refine (HP1.out w6 (HE.out.below (by rw [HG0.out]; exact HB6.out))).mono ?_
  rintro e w7 ⟨vf, vt, rfl, hq, hb7⟩
  obtain ⟨c0, c1, c2, c2n, c2c, c3, c4, c5, c5n, c5c, c6, c7, c8, hA⟩ := ansD_form hq
  rw [hA]
  have HANC : Hid (ansD Q vf vt = [.int .i64 c0, .string c1, .slice c2 c2n c2c, .string c3, .int .i64 c4, .slice c5 c5n c5c, .int .i64 c6, .int .i64 c7, .bool c8]) := hA
  have HA7 : Hid (Blk 31 w7 g3 [.int .i64 a0, .string a1, .slice a2 a2n a2c, .string a3, .int .i64 a4, .slice a5 a5n a5c, .int .i64 a6, .int .i64 a7, .bool a8]) := HA6.out.below hb7
  have hb9 := set9_but w7 g3 (.int .i64 c0) (.string c1) (.slice c2 c2n c2c) (.string c3) (.int .i64 c4) (.slice c5 c5n c5c) (.int .i64 c6) (.int .i64 c7) (.bool c8)
  obtain ⟨w8, hw8⟩ : ∃ w8, w8 = set9 w7 g3 (.int .i64 c0) (.string c1) (.slice c2 c2n c2c) (.string c3) (.int .i64 c4) (.slice c5 c5n c5c) (.int .i64 c6) (.int .i64 c7) (.bool c8) := ⟨_, rfl⟩
  have HA8 : Hid (Blk 31 w8 g3 [.int .i64 c0, .string c1, .slice c2 c2n c2c, .string c3, .int .i64 c4, .slice c5 c5n c5c, .int .i64 c6, .int .i64 c7, .bool c8]) := (by rw [hw8]; exact set9_all HA7.out rfl _ _ _ _ _ _ _ _ _ : Blk _ _ _ _)
  have HS8 : Hid (Blk 23 w8 g0 [.string A, .string B, .int .i64 m, .bool en]) := (by rw [hw8]; exact (HS6.out.below hb7).but hb9 (by simp; omega) : Blk _ _ _ _)
  have HC8 : Hid (Blk 39 w8 g5 [.int .i64 b0, .string b1, .slice b2 b2n b2c, .string b3, .int .i64 b4, .slice b5 b5n b5c, .int .i64 b6, .int .i64 b7, .bool b8]) := (by rw [hw8]; exact (HC6.out.below hb7).but hb9 (by simp; omega) : Blk _ _ _ _)
  have HB8 : Hid (Below g0 w w8) := (by rw [hw8]; exact (HB6.out.trans (hb7.mono (by have := HB6.out.size; have := HG0.out; omega))).trans (hb9.below (by have := HA7.out.lt; omega) (fun x hx => by simp at hx; omega)) : Below _ _ _)
  have HQ8 : Hid (RpO 47 Q vf vt w6.heap.size w8) := (by rw [hw8]; exact fun x hx => ⟨HA7.out.keep (hq x hx).1 (by decide) hb9, HA7.out.keep (hq x hx).2 (by decide) hb9⟩ : RpO _ _ _ _ _ _)
  have HW8 : Hid ((((((((((w7.setCell ⟨g3, 0, none⟩ (.int .i64 c0)).setCell ⟨g3, 1, none⟩ (.string c1)).setCell ⟨g3, 2, none⟩ (.slice c2 c2n c2c)).setCell ⟨g3, 3, none⟩ (.string c3)).setCell ⟨g3, 4, none⟩ (.int .i64 c4)).setCell ⟨g3, 5, none⟩ (.slice c5 c5n c5c)).setCell ⟨g3, 6, none⟩ (.int .i64 c6)).setCell ⟨g3, 7, none⟩ (.int .i64 c7)).setCell ⟨g3, 8, none⟩ (.bool c8)) = w8) := hw8.symm
  have HS7 : Hid (Blk 23 w7 g0 [.string A, .string B, .int .i64 m, .bool en]) := HS6.out.below hb7
  have x0 := HA7.out.cell 0 rfl
  have x1 := HA7.out.cell 1 rfl
  have x2 := HA7.out.cell 2 rfl
  have x3 := HA7.out.cell 3 rfl
  have x4 := HA7.out.cell 4 rfl
  have x5 := HA7.out.cell 5 rfl
  have x6 := HA7.out.cell 6 rfl
  have x7 := HA7.out.cell 7 rfl
  have x8 := HA7.out.cell 8 rfl
  have xf := HA7.out.free
  clear hq hb7 hb9 hw8 hA HB6 HS6 HA6 HC6 HP1 s0 s1 s2 s3
  have s0 := HS7.out.cell 0 rfl
  have s1 := HS7.out.cell 1 rfl
  have s2 := HS7.out.cell 2 rfl
  have s3 := HS7.out.cell 3 rfl
  have hne : ¬ g3 = g0 := by omega
  have hne2 : ¬ g0 = g3 := by omega
  go_wp2_with fail
  rw [HW8.out]
  clear HW8 xf s0 s1 s2 s3 x0 x1 x2 x3 x4 x5 x6 x7 x8 hne hne2
  refine (HP2.out w8).mono ?_
  rintro e w9 ⟨uf, ut, rfl, hq, hb9'⟩
  obtain ⟨d0, d1, d2, d2n, d2c, d3, d4, d5, d5n, d5c, d6, d7, d8, hA⟩ := ansD_form hq
  rw [hA]
  have HC9 : Hid (Blk 39 w9 g5 [.int .i64 b0, .string b1, .slice b2 b2n b2c, .string b3, .int .i64 b4, .slice b5 b5n b5c, .int .i64 b6, .int .i64 b7, .bool b8]) := HC8.out.below hb9'
  have HA9 : Hid (Blk 31 w9 g3 [.int .i64 c0, .string c1, .slice c2 c2n c2c, .string c3, .int .i64 c4, .slice c5 c5n c5c, .int .i64 c6, .int .i64 c7, .bool c8]) := HA8.out.below hb9'
  have hb9 := set9_but w9 g5 (.int .i64 d0) (.string d1) (.slice d2 d2n d2c) (.string d3) (.int .i64 d4) (.slice d5 d5n d5c) (.int .i64 d6) (.int .i64 d7) (.bool d8)
  obtain ⟨w10, hw10⟩ : ∃ w10, w10 = set9 w9 g5 (.int .i64 d0) (.string d1) (.slice d2 d2n d2c) (.string d3) (.int .i64 d4) (.slice d5 d5n d5c) (.int .i64 d6) (.int .i64 d7) (.bool d8) := ⟨_, rfl⟩
  have HC10 : Hid (Blk 39 w10 g5 [.int .i64 d0, .string d1, .slice d2 d2n d2c, .string d3, .int .i64 d4, .slice d5 d5n d5c, .int .i64 d6, .int .i64 d7, .bool d8]) := (by rw [hw10]; exact set9_all HC9.out rfl _ _ _ _ _ _ _ _ _ : Blk _ _ _ _)
  have HA10 : Hid (Blk 31 w10 g3 [.int .i64 c0, .string c1, .slice c2 c2n c2c, .string c3, .int .i64 c4, .slice c5 c5n c5c, .int .i64 c6, .int .i64 c7, .bool c8]) := (by rw [hw10]; exact HA9.out.but hb9 (by simp; omega) : Blk _ _ _ _)
  have HB10 : Hid (Below g0 w w10) := (by rw [hw10]; exact (HB8.out.trans (hb9'.mono (by have := HB8.out.size; have := HG0.out; omega))).trans (hb9.below (by have := HC9.out.lt; omega) (fun x hx => by simp at hx; omega)) : Below _ _ _)
  have HT10 : Hid (Twin [.int .i64 c0, .string c1, .slice c2 c2n c2c, .string c3, .int .i64 c4, .slice c5 c5n c5c, .int .i64 c6, .int .i64 c7, .bool c8] [.int .i64 d0, .string d1, .slice d2 d2n d2c, .string d3, .int .i64 d4, .slice d5 d5n d5c, .int .i64 d6, .int .i64 d7, .bool d8] w10) := (by
    have h1 : RpO 47 Q vf vt w6.heap.size w10 := by rw [hw10]; exact fun x hx => ⟨HC9.out.keep (HQ8.out.below hb9' x hx).1 (by decide) hb9, HC9.out.keep (HQ8.out.below hb9' x hx).2 (by decide) hb9⟩
    have h2 : RpO 64 Q uf ut w8.heap.size w10 := by rw [hw10]; exact fun x hx => ⟨HC9.out.keep (hq x hx).1 (by decide) hb9, HC9.out.keep (hq x hx).2 (by decide) hb9⟩
    have h := twin_D Q vf uf vt ut w6.heap.size w8.heap.size w10 h1 h2 HP3.out
    rw [HANC.out, hA] at h
    exact h : Twin _ _ _)
  have HW10 : Hid ((((((((((w9.setCell ⟨g5, 0, none⟩ (.int .i64 d0)).setCell ⟨g5, 1, none⟩ (.string d1)).setCell ⟨g5, 2, none⟩ (.slice d2 d2n d2c)).setCell ⟨g5, 3, none⟩ (.string d3)).setCell ⟨g5, 4, none⟩ (.int .i64 d4)).setCell ⟨g5, 5, none⟩ (.slice d5 d5n d5c)).setCell ⟨g5, 6, none⟩ (.int .i64 d6)).setCell ⟨g5, 7, none⟩ (.int .i64 d7)).setCell ⟨g5, 8, none⟩ (.bool d8)) = w10) := hw10.symm
  have HCx : Hid (Calls Tryz.prog 8 #[.agg #[.int .i64 c0, .string c1, .slice c2 c2n c2c, .string c3, .int .i64 c4, .slice c5 c5n c5c, .int .i64 c6, .int .i64 c7, .bool c8], .agg #[.int .i64 d0, .string d1, .slice d2 d2n d2c, .string d3, .int .i64 d4, .slice d5 d5n d5c, .int .i64 d6, .int .i64 d7, .bool d8]] w10 fun e w' => e = .returned (.bool true) ∧ Below (World.heap w10).size w10 w') := HT10.out.2 w10 (Below.refl _ _)
  have x0 := HA9.out.cell 0 rfl
  have y0 := HC9.out.cell 0 rfl
  have x1 := HA9.out.cell 1 rfl
  have y1 := HC9.out.cell 1 rfl
  have x2 := HA9.out.cell 2 rfl
  have y2 := HC9.out.cell 2 rfl
  have x3 := HA9.out.cell 3 rfl
  have y3 := HC9.out.cell 3 rfl
  have x4 := HA9.out.cell 4 rfl
  have y4 := HC9.out.cell 4 rfl
  have x5 := HA9.out.cell 5 rfl
  have y5 := HC9.out.cell 5 rfl
  have x6 := HA9.out.cell 6 rfl
  have y6 := HC9.out.cell 6 rfl
  have x7 := HA9.out.cell 7 rfl
  have y7 := HC9.out.cell 7 rfl
  have x8 := HA9.out.cell 8 rfl
  have y8 := HC9.out.cell 8 rfl
  have yf := HC9.out.free
  have hne : ¬ g3 = g5 := by omega
  have hne2 : ¬ g5 = g3 := by omega
  clear hq hb9' hb9 hw10 hA HB8 HS8 HA8 HC8 HP2 HP3 HQ8 HT10 HANC HS7 HA7
  generalize hn1' : Q.2.1 = m1 at *
  generalize hn2' : Q.2.2 = m2 at *
  clear hn1' hn2'
  go_wp2_with fail
  rw [HW10.out]
  refine HCx.out.mono ?_
  rintro e w11 ⟨rfl, hb11⟩
  have HB11 : Hid (Below g0 w w11) := HB10.out.trans (hb11.mono (by have := HB10.out.size; have := HG0.out; omega))
  clear hb11 HCx
  go_wp2
  go_ret
  exact ⟨rfl, by rw [HG0.out]; exact HB11.out⟩
end Ms
end Go.Proofs.YtdcfhnbagldilaaGreatDoor
