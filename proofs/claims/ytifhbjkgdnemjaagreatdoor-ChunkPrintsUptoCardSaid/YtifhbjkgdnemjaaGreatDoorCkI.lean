/-
  chunk: a decoder, plain: what stays within bounds; bytes in a row.
-/
import Derived.Test.YtifhbjkgdnemjaaGreatDoorCkA
set_option linter.unusedVariables false
set_option linter.unusedSimpArgs false
set_option maxRecDepth 100000
namespace Go.Proofs.YtifhbjkgdnemjaaGreatDoor
open Go.RowKit Go.Shelf Go.Lib
namespace Ck
open Oc Tg _root_.Go.Proofs.YtifhbjkgdnemjaaGreatDoor.Fd

theorem Ok.fin {s : DS} {k : Nat} (h : Ok s k) (e : Int) : Ok (fin s e) k := by
  refine ⟨Nat.le_refl _, h.most, h.room, h.fields, h.left, (fun h => by cases h), h.total, ?_, (fun h => absurd h (by show ¬ (5 : Nat) ≤ 3; decide)), (fun _ => rfl), ?_⟩
  · have := h.len
    show 0 + s.body.length + s.tr.length ≤ k
    omega
  · refine ⟨fun _ => ?_, fun _ => rfl⟩
    show (e == 0) = true ∨ e ≠ 0
    by_cases h : e = 0
    · exact .inl (by simp [h])
    · exact .inr h
theorem Ok.mono {s : DS} {k m : Nat} (h : Ok s k) (hm : k ≤ m) : Ok s m := ⟨h.mode, h.most, h.room, h.fields, h.left, h.pos, ⟨h.total.1, by have := h.total.2; omega⟩, by have := h.len; omega, h.size, h.bare, h.over⟩
theorem Ok.new (most room fields : Int) (h1 : 0 ≤ most ∧ most ≤ 9223372036854775807) (h2 : 0 ≤ room ∧ room ≤ 9223372036854775807) (h3 : 0 ≤ fields ∧ fields ≤ 9223372036854775807) : Ok (new most room fields) 0 := by
  refine ⟨Nat.zero_le _, h1, h2, h3, ⟨by show (0 : Int) ≤ 0; decide, by show (0 : Int) ≤ 1099511627776; decide⟩, (fun h => by cases h), ⟨by show (0 : Int) ≤ 0; decide, by show (0 : Int) ≤ 0; decide⟩, Nat.le_refl _, (fun _ => by show 0 < 256; decide), (fun _ => rfl), ?_⟩
  constructor
  · intro h; cases h
  · rintro (h | h)
    · cases h
    · exact absurd rfl h
theorem Ok.live {s : DS} {k : Nat} (h : Ok s k) (hm : s.mode ≠ 5) : s.done = false ∧ s.err = 0 := by
  constructor
  · cases hd : s.done with
    | false => rfl
    | true => exact absurd (h.over.2 (.inl hd)) hm
  · by_cases he : s.err = 0
    · exact he
    · exact absurd (h.over.2 (.inr he)) hm
theorem notOver {s : DS} {k : Nat} (h : Ok s k) (hm : s.mode ≠ 5) : ¬ (s.done = true ∨ s.err ≠ 0) := fun e => hm (h.over.2 e)

/-- A decoder that is not over, its line aside. -/
theorem Ok.re {s s' : DS} {k m : Nat} (h : Ok s k) (hm : s.mode ≠ 5) (hm' : s'.mode < 5) (hmo : 0 ≤ s'.most ∧ s'.most ≤ 9223372036854775807) (hro : 0 ≤ s'.room ∧ s'.room ≤ 9223372036854775807) (hfi : 0 ≤ s'.fields ∧ s'.fields ≤ 9223372036854775807)
    (hle : 0 ≤ s'.left ∧ s'.left ≤ 1099511627776) (hpo : s'.mode = 1 → 0 < s'.left) (hto : s'.total = s.total) (hlen : s'.line.length + s'.body.length + s'.tr.length ≤ m) (hkm : k ≤ m) (hsz : s'.mode ≤ 3 → s'.line.length < 256) (hba : s'.mode = 1 ∨ s'.mode = 2 ∨ s'.mode = 3 → s'.line = [])
    (hd : s'.done = s.done) (he : s'.err = s.err) : Ok s' m := by
  have ht := h.total
  refine ⟨by omega, hmo, hro, hfi, hle, hpo, by rw [hto]; omega, hlen, hsz, hba, ?_⟩
  rw [hd, he]
  exact ⟨fun e => by omega, fun e => absurd e (notOver h hm)⟩

theorem endSize_ok {s : DS} {k : Nat} (h : Ok { s with line := [] } k) (hm : s.mode ≠ 5) : Ok (endSize s) k := by
  have hq := sizeR_bd (said s)
  have hmo := h.most
  have hl := h.len
  simp only at hmo hl
  unfold endSize
  split
  · exact h.fin _
  · split
    · exact h.fin _
    · split
      · exact h.fin _
      · split
        · exact h.re hm (by show 4 < 5; decide) h.most h.room h.fields h.left (fun e => by cases e) rfl h.len (Nat.le_refl _) (fun e => by simp at e) (fun e => by simp at e) rfl rfl
        · rename_i h1 h2 h3 h4
          refine h.re hm (by show 1 < 5; decide) ⟨?_, ?_⟩ h.room h.fields ⟨?_, ?_⟩ (fun _ => ?_) rfl h.len (Nat.le_refl _) (fun _ => by show 0 < 256; decide) (fun _ => rfl) rfl rfl
          · show 0 ≤ s.most - (sizeR (said s)).1; omega
          · show s.most - (sizeR (said s)).1 ≤ _; omega
          · show 0 ≤ (sizeR (said s)).1; omega
          · show (sizeR (said s)).1 ≤ _; omega
          · show 0 < (sizeR (said s)).1; omega

theorem Ok.clear {s : DS} {k : Nat} (h : Ok s k) : Ok { s with line := [] } k :=
  ⟨h.mode, h.most, h.room, h.fields, h.left, h.pos, h.total, by have := h.len; show 0 + s.body.length + s.tr.length ≤ k; omega, (fun _ => by show 0 < 256; decide), (fun _ => rfl), h.over⟩

theorem inSize_ok {s : DS} {k : Nat} (h : Ok s k) (hm : s.mode = 0) (c : UInt8) : Ok (inSize s c) (k + 1) := by
  have hl := h.len
  have hz := h.size (by omega)
  unfold inSize
  split
  · exact endSize_ok (s := put s c) (h.clear.mono (Nat.le_succ _)) (by show s.mode ≠ 5; omega)
  · split
    · exact (h.clear.fin 100).mono (Nat.le_succ _)
    · refine h.re (by omega) (by show s.mode < 5; omega) h.most h.room h.fields h.left (fun e => h.pos e) rfl ?_ (Nat.le_succ _) (fun _ => ?_) (fun e => ?_) rfl rfl
      · show (s.line ++ [c]).length + s.body.length + s.tr.length ≤ k + 1
        simp; omega
      · show (s.line ++ [c]).length < 256
        simp; omega
      · have e' : s.mode = 1 ∨ s.mode = 2 ∨ s.mode = 3 := e
        omega
theorem inChunk_ok {s : DS} {k : Nat} (h : Ok s k) (hm : s.mode = 1) (t : List UInt8) (ht : (t.length : Int) ≤ s.left) : Ok (inChunk s t) (k + t.length) := by
  have hl := h.len
  have hle := h.left
  have hb := h.bare (by omega)
  refine h.re (by omega) ?_ h.most h.room h.fields ⟨?_, ?_⟩ ?_ rfl ?_ (by omega) ?_ ?_ rfl rfl
  · show (if s.left - (t.length : Int) = 0 then 2 else 1) < 5
    split <;> decide
  · show 0 ≤ s.left - (t.length : Int); omega
  · show s.left - (t.length : Int) ≤ _; omega
  · intro e
    show 0 < s.left - (t.length : Int)
    have e' : (if s.left - (t.length : Int) = 0 then 2 else 1) = 1 := e
    split at e'
    · cases e'
    · omega
  · show s.line.length + (s.body ++ t).length + s.tr.length ≤ k + t.length
    simp; omega
  · intro _; show s.line.length < 256; rw [hb]; decide
  · intro _; exact hb
theorem behindChunk_ok {s : DS} {k : Nat} (h : Ok s k) (hm : s.mode = 2) (c : UInt8) : Ok (behindChunk s c) (k + 1) := by
  have hl := h.len
  have hb := h.bare (by omega)
  have h3 : Ok { s with mode := 3 } (k + 1) := h.re (by omega) (by show 3 < 5; decide) h.most h.room h.fields h.left (fun e => by cases e) rfl (by show s.line.length + s.body.length + s.tr.length ≤ _; omega) (Nat.le_succ _) (fun _ => by show s.line.length < 256; rw [hb]; decide) (fun _ => hb) rfl rfl
  unfold behindChunk
  split
  · exact h3
  · exact h3.fin _
theorem behindReturn_ok {s : DS} {k : Nat} (h : Ok s k) (hm : s.mode = 3) (c : UInt8) : Ok (behindReturn s c) (k + 1) := by
  have hl := h.len
  have hb := h.bare (by omega)
  have h3 : Ok { s with mode := 0 } (k + 1) := h.re (by omega) (by show 0 < 5; decide) h.most h.room h.fields h.left (fun e => by cases e) rfl (by show s.line.length + s.body.length + s.tr.length ≤ _; omega) (Nat.le_succ _) (fun _ => by show s.line.length < 256; rw [hb]; decide) (fun e => hb) rfl rfl
  unfold behindReturn
  split
  · exact h3
  · exact h3.fin _
theorem keep_ok {s : DS} {k : Nat} (h : Ok s k) (hm : s.mode = 4) (hf : s.fields ≠ 0) (l : List UInt8) (hl : s.line.length + s.body.length + s.tr.length + 1 ≤ k) : Ok (keep s l) k := by
  have hfi := h.fields
  unfold keep
  split
  · exact h.fin _
  · refine h.re (by omega) (by show s.mode < 5; omega) h.most h.room ⟨?_, ?_⟩ h.left (fun e => h.pos e) rfl ?_ (Nat.le_refl _) (fun e => ?_) (fun e => ?_) rfl rfl
    · show 0 ≤ s.fields - 1; omega
    · show s.fields - 1 ≤ _; omega
    · show s.line.length + s.body.length + (s.tr ++ [(parseL l).1]).length ≤ k
      simp; omega
    · have e' : s.mode ≤ 3 := e
      omega
    · have e' : s.mode = 1 ∨ s.mode = 2 ∨ s.mode = 3 := e
      omega
theorem endTrailer_ok {s : DS} {k : Nat} (h : Ok { s with line := [] } k) (hm : s.mode = 4) (hl : s.body.length + s.tr.length + 1 ≤ k) : Ok (endTrailer s) k := by
  unfold endTrailer
  split
  · exact h.fin _
  · split
    · exact h.fin _
    · split
      · exact h.fin _
      · rename_i h3
        exact keep_ok h hm h3 _ (by show 0 + s.body.length + s.tr.length + 1 ≤ k; omega)
theorem inTrailers_ok {s : DS} {k : Nat} (h : Ok s k) (hm : s.mode = 4) (c : UInt8) : Ok (inTrailers s c) (k + 1) := by
  have hl := h.len
  have hr := h.room
  unfold inTrailers
  split
  · exact (h.fin _).mono (Nat.le_succ _)
  · rename_i h0
    have h1 : Ok { s with room := s.room - 1 } k := h.re (by omega) (by show s.mode < 5; omega) h.most ⟨by show 0 ≤ s.room - 1; omega, by show s.room - 1 ≤ _; omega⟩ h.fields h.left (fun e => h.pos e) rfl h.len (Nat.le_refl _) (fun e => h.size e) (fun e => h.bare e) rfl rfl
    split
    · exact endTrailer_ok (s := put { s with room := s.room - 1 } c) (h1.clear.mono (Nat.le_succ _)) hm (by show s.body.length + s.tr.length + 1 ≤ k + 1; omega)
    · refine h1.re (by show s.mode ≠ 5; omega) (by show s.mode < 5; omega) h1.most h1.room h1.fields h1.left (fun e => h1.pos e) rfl ?_ (Nat.le_succ _) (fun e => ?_) (fun e => ?_) rfl rfl
      · show (s.line ++ [c]).length + s.body.length + s.tr.length ≤ k + 1
        simp; omega
      · have e' : s.mode ≤ 3 := e
        omega
      · have e' : s.mode = 1 ∨ s.mode = 2 ∨ s.mode = 3 := e
        omega
theorem mode_cases {s : DS} {k : Nat} (h : Ok s k) (hm : s.mode ≠ 5) : s.mode = 0 ∨ s.mode = 1 ∨ s.mode = 2 ∨ s.mode = 3 ∨ s.mode = 4 := by
  have := h.mode
  omega
theorem bstep_ok {s : DS} {k : Nat} (h : Ok s k) (hm : s.mode ≠ 5) (c : UInt8) : Ok (bstep s c) (k + 1) := by
  unfold bstep
  rcases mode_cases h hm with e | e | e | e | e
  · rw [e]; exact inSize_ok h e c
  · rw [e]; exact inChunk_ok h e [c] (by have := h.pos e; simp; omega)
  · rw [e]; exact behindChunk_ok h e c
  · rw [e]; exact behindReturn_ok h e c
  · rw [e]; exact inTrailers_ok h e c

theorem eat_nil (s : DS) : eat s [] = (0, s) := by rw [eat]
theorem eat_over {s : DS} (h : s.mode = 5) (l : List UInt8) : eat s l = (0, s) := by
  cases l with
  | nil => exact eat_nil s
  | cons c t => rw [eat, if_pos h]
theorem eat_cons {s : DS} (h : s.mode ≠ 5) (c : UInt8) (t : List UInt8) : eat s (c :: t) = ((eat (bstep s c) t).1 + 1, (eat (bstep s c) t).2) := by rw [eat, if_neg h]
theorem eat_le : ∀ (l : List UInt8) (s : DS), (eat s l).1 ≤ l.length
  | [], s => by rw [eat_nil]; exact Nat.le_refl _
  | c :: t, s => by
    by_cases h : s.mode = 5
    · rw [eat_over h]; exact Nat.zero_le _
    · rw [eat_cons h]; have := eat_le t (bstep s c); simp; omega
theorem eat_ok : ∀ (l : List UInt8) (s : DS) (k : Nat), Ok s k → Ok (eat s l).2 (k + (eat s l).1)
  | [], s, k, h => by rw [eat_nil]; exact h
  | c :: t, s, k, h => by
    by_cases hm : s.mode = 5
    · rw [eat_over hm]; exact h
    · rw [eat_cons hm]
      have := eat_ok t (bstep s c) (k + 1) (bstep_ok h hm c)
      rw [show k + ((eat (bstep s c) t).1 + 1) = k + 1 + (eat (bstep s c) t).1 by omega]
      exact this
/-- Bytes in two parts. -/
theorem eat_app : ∀ (a b : List UInt8) (s : DS), eat s (a ++ b) = ((eat s a).1 + (eat (eat s a).2 b).1, (eat (eat s a).2 b).2)
  | [], b, s => by rw [eat_nil]; simp
  | c :: a, b, s => by
    by_cases hm : s.mode = 5
    · rw [eat_over hm, eat_over hm]
      simp [eat_over hm]
    · rw [List.cons_append, eat_cons hm, eat_cons hm, eat_app a b (bstep s c)]
      simp; omega
/-- What is not taken makes it over. -/
theorem eat_all : ∀ (l : List UInt8) (s : DS), (eat s l).2.mode ≠ 5 → (eat s l).1 = l.length
  | [], s, _ => by rw [eat_nil]; rfl
  | c :: t, s, h => by
    by_cases hm : s.mode = 5
    · rw [eat_over hm] at h; exact absurd hm h
    · rw [eat_cons hm] at h ⊢
      have := eat_all t (bstep s c) h
      simp [this]

theorem inChunk_cons {s : DS} {k : Nat} (h : Ok s k) (hm : s.mode = 1) (c d : UInt8) (t : List UInt8) (ht : ((c :: d :: t).length : Int) ≤ s.left) : inChunk (inChunk s [c]) (d :: t) = inChunk s (c :: d :: t) := by
  unfold inChunk
  simp only [List.length_cons, List.length_nil, List.append_assoc, List.singleton_append]
  have e : s.left - ((0 + 1 : Nat) : Int) - ((t.length + 1 : Nat) : Int) = s.left - ((t.length + 1 + 1 : Nat) : Int) := by omega
  simp only [e]
/-- Bytes of a chunk, at once. -/
theorem eat_chunk : ∀ (t r : List UInt8) (s : DS) (k : Nat), Ok s k → s.mode = 1 → t ≠ [] → (t.length : Int) ≤ s.left → eat s (t ++ r) = (t.length + (eat (inChunk s t) r).1, (eat (inChunk s t) r).2)
  | [], r, s, k, h, hm, hn, ht => absurd rfl hn
  | [c], r, s, k, h, hm, hn, ht => by
    have e : bstep s c = inChunk s [c] := by unfold bstep; rw [hm]; rfl
    rw [List.singleton_append, eat_cons (by omega), e]
    simp; omega
  | c :: d :: t, r, s, k, h, hm, hn, ht => by
    have e : bstep s c = inChunk s [c] := by unfold bstep; rw [hm]; rfl
    have hk := inChunk_ok h hm [c] (by simp at ht ⊢; omega)
    have hm1 : (inChunk s [c]).mode = 1 := by
      show (if s.left - (([c] : List UInt8).length : Int) = 0 then 2 else 1) = 1
      rw [if_neg (by simp at ht ⊢; omega)]
    rw [List.cons_append, eat_cons (by omega), e, eat_chunk (d :: t) r (inChunk s [c]) _ hk hm1 (by simp) (by show _ ≤ s.left - (([c] : List UInt8).length : Int); simp at ht ⊢; omega), inChunk_cons h hm c d t ht]
    simp; omega

end Ck
end Go.Proofs.YtifhbjkgdnemjaaGreatDoor
