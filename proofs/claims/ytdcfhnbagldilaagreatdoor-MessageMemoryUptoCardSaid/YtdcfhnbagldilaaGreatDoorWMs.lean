import Derived.Test.YtdcfhnbagldilaaGreatDoorMgE1
set_option linter.unusedVariables false
set_option linter.unusedSimpArgs false
set_option maxRecDepth 100000
namespace Go.Proofs.YtdcfhnbagldilaaGreatDoor
open Go.RowKit Go.Shelf
namespace Ms
open Oc Tg _root_.Go.Proofs.YtdcfhnbagldilaaGreatDoor.Fd _root_.Go.Proofs.YtdcfhnbagldilaaGreatDoor.Ck
def Twin (l1 l2 : List Value) (w : World) : Prop := (l1.length = 9 ∧ l2.length = 9) ∧ ∀ W, Below w.heap.size w W → Calls Tryz.prog 8 #[.agg l1.toArray, .agg l2.toArray] W fun e w' => e = .returned (.bool true) ∧ Below (World.heap W).size W w'
theorem HdO.below {FT : Nat} {D : Option Hd × Int × Int} {v : Value} {n : Nat} {w w' : World} (h : HdO FT D v n w) (b : Below w.heap.size w w') : HdO FT D v n w' := fun x hx => OwnF.below (h x hx) b
theorem RpO.below {FT : Nat} {D : Option (Hd × List UInt8 × List Fl) × Int × Int} {v u : Value} {n : Nat} {w w' : World} (h : RpO FT D v u n w) (b : Below w.heap.size w w') : RpO FT D v u n w' := fun x hx => ⟨OwnF.below (h x hx).1 b, OwnF.below (h x hx).2 b⟩
theorem docH_cnt (B : ByteArray) (x : Hd) (h : (docH B).1 = some x) : x.fs.length ≤ 100 := by
  have ho := hRun_ok B.data.toList (newH B.data.toList false) (newH_ok B.data.toList false).1
  rw [← out_head B false] at h
  rw [outH_some h]
  refine (ho ?_).fs
  unfold outH at h
  split at h
  · cases h
  · rename_i e; simpa using e
theorem docP_cnt (me : List UInt8) (B : ByteArray) (m : Nat) (en : Bool) (hm : m ≤ 9223372036854775807) (x : Hd × List UInt8 × List Fl) (h : (docP me B m en).1 = some x) : x.1.fs.length ≤ 100 ∧ x.2.2.length ≤ B.size := by
  have hc := docH_cnt B
  unfold docP at h
  generalize docH B = D at *
  obtain ⟨o, n, e⟩ := D
  cases o with
  | none => cases h
  | some y =>
    have hc := hc y rfl
    have h : (docB me B m en y n).1 = some x := h
    unfold docB at h
    split at h
    · injection h with h; rw [← h]; exact ⟨hc, Nat.zero_le _⟩
    split at h
    · split at h
      · cases h
      · injection h with h
        rw [← h]
        refine ⟨hc, ?_⟩
        have h1 := decR_len (m : Int) 65536 100 (B.data.toList.drop n.toNat) (by omega) (by omega) (by omega)
        rw [List.length_drop, size_list] at h1
        exact Nat.le_trans h1 (by omega)
    split at h
    · split at h
      · cases h
      split at h
      · cases h
      · injection h with h; rw [← h]; exact ⟨hc, Nat.zero_le _⟩
    split at h
    · cases h
    split at h
    · cases h
    · injection h with h; rw [← h]; exact ⟨hc, Nat.zero_le _⟩
theorem ansD_form {FT n : Nat} {D : Option (Hd × List UInt8 × List Fl) × Int × Int} {v u : Value} {w : World} (h : RpO FT D v u n w) : ∃ a0 a1 a2 a2n a2c a3 a4 a5 a5n a5c a6 a7 a8, ansD D v u = [.int .i64 a0, .string a1, .slice a2 a2n a2c, .string a3, .int .i64 a4, .slice a5 a5n a5c, .int .i64 a6, .int .i64 a7, .bool a8] := by
  obtain ⟨o, x, y⟩ := D
  cases o with
  | none => exact ⟨_, _, _, _, _, _, _, _, _, _, _, _, _, rfl⟩
  | some k =>
    obtain ⟨a, c, rfl⟩ := ownF_form (h k rfl).1
    obtain ⟨a', c', rfl⟩ := ownF_form (h k rfl).2
    exact ⟨_, _, _, _, _, _, _, _, _, _, _, _, _, rfl⟩
def docQ (me : List UInt8) (B : ByteArray) (m : Int) (en : Bool) : Option (Hd × List UInt8 × List Fl) × Int × Int := if m < 0 then (none, 0, 1) else docP me B m.toNat en
theorem parse_q (A B : ByteArray) (m : Int) (en : Bool) (hm : i64 m) (hB : B.size ≤ 2000000) :
    (∀ W, Env W → Calls Tryz.prog 9 #[.string A, .string B, .int .i64 m, .bool en] W fun e w' => ∃ vf vt, e = .returned (.tuple #[.agg (ansD (docQ A.data.toList B m en) vf vt).toArray, .int .i64 (docQ A.data.toList B m en).2.1, .int .i64 (docQ A.data.toList B m en).2.2]) ∧ RpO 47 (docQ A.data.toList B m en) vf vt (World.heap W).size w' ∧ Below (World.heap W).size W w') ∧
    (∀ W, Calls Tryz.prog 10 #[.string A, .string B, .int .i64 m, .bool en] W fun e w' => ∃ vf vt, e = .returned (.tuple #[.agg (ansD (docQ A.data.toList B m en) vf vt).toArray, .int .i64 (docQ A.data.toList B m en).2.1, .int .i64 (docQ A.data.toList B m en).2.2]) ∧ RpO 64 (docQ A.data.toList B m en) vf vt (World.heap W).size w' ∧ Below (World.heap W).size W w') ∧
    (∀ x, (docQ A.data.toList B m en).1 = some x → x.1.fs.length ≤ 100 ∧ x.2.2.length ≤ B.size) := by
  by_cases h : m < 0
  · have e : docQ A.data.toList B m en = (none, 0, 1) := if_pos h
    rw [e]
    refine ⟨fun W hW => (Parse_neg A B m en h W).mono ?_, fun W => (rParse_neg A B m en h W).mono ?_, fun x hx => by cases hx⟩
    · rintro e w' ⟨rfl, hb⟩
      exact ⟨.slice none 0 0, .slice none 0 0, rfl, (fun x hx => by cases hx), hb⟩
    · rintro e w' ⟨rfl, hb⟩
      exact ⟨.slice none 0 0, .slice none 0 0, rfl, (fun x hx => by cases hx), hb⟩
  · have e : docQ A.data.toList B m en = docP A.data.toList B m.toNat en := if_neg h
    obtain ⟨k, rfl⟩ : ∃ k : Nat, m = (k : Int) := ⟨m.toNat, by omega⟩
    have hk : k ≤ 9223372036854775807 := by unfold i64 at hm; omega
    rw [e, show ((k : Int)).toNat = k from rfl]
    exact ⟨fun W hW => Parse_doc A B k en hk (by omega) W hW, fun W => rParse_any A B k en hk hB W, fun x hx => docP_cnt _ B k en hk x hx⟩
end Ms
end Go.Proofs.YtdcfhnbagldilaaGreatDoor
