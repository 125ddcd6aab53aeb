import Derived.Test.YtdcfhnbagldilaaGreatDoorMgH1
import Derived.Test.YtdcfhnbagldilaaGreatDoorMgC1
import Derived.Test.YtdcfhnbagldilaaGreatDoorMgF1
import Derived.Test.YtdcfhnbagldilaaGreatDoorMuC
import Derived.Test.YtdcfhnbagldilaaGreatDoorMgE1
import Derived.Test.YtdcfhnbagldilaaGreatDoorMsZ
import Derived.Test.YtdcfhnbagldilaaGreatDoorMgC
set_option linter.unusedVariables false
set_option linter.unusedSimpArgs false
set_option maxRecDepth 100000
namespace Go.Proofs.YtdcfhnbagldilaaGreatDoor
open Go.RowKit Go.Shelf
namespace Ck
open Oc Tg _root_.Go.Proofs.YtdcfhnbagldilaaGreatDoor.Fd
def Fine (s : DS) : Prop := s.done = true → s.err = 0
theorem fine_fin (s : DS) (e : Int) : Fine (fin s e) := fun h => by simpa [fin] using h
theorem fine_step {s : DS} (h : Fine s) (c : UInt8) : Fine (bstep s c) := by
  unfold bstep
  split
  · unfold inSize endSize
    repeat' split
    all_goals first | exact fine_fin _ _ | exact h
  · exact h
  · unfold behindChunk
    split
    · exact h
    · exact fine_fin _ _
  · unfold behindReturn
    split
    · exact h
    · exact fine_fin _ _
  · unfold inTrailers endTrailer keep
    repeat' split
    all_goals first | exact fine_fin _ _ | exact h
  · exact h
theorem fine_eat : ∀ (l : List UInt8) (s : DS), Fine s → Fine (eat s l).2
  | [], s, h => by rw [eat_nil]; exact h
  | c :: l, s, h => by
    by_cases hm : s.mode = 5
    · rw [eat_over hm]; exact h
    · rw [eat_cons hm]; exact fine_eat l (bstep s c) (fine_step h c)
theorem fine_new (m r f : Int) : Fine (new m r f) := fun h => by cases h
set_option maxHeartbeats 1000000 in
theorem rLimits_ok (m r f : Int) (h1 : 0 ≤ m) (h2 : 0 ≤ r) (h3 : 0 ≤ f) (w : World) :
    Calls Tryz.prog 41 #[.int .i64 m, .int .i64 r, .int .i64 f] w fun e w' => e = .returned (.int .i64 0) ∧ w' = w := by
  have g1 : ¬ m < 0 := by omega
  have g2 : ¬ r < 0 := by omega
  have g3 : ¬ f < 0 := by omega
  go_enter Tryz.func41, Tryz.ntmps41
  go_wp2
  go_ret
  exact ⟨rfl, rfl⟩
set_option maxHeartbeats 1000000 in
theorem rLimits_no (m r f : Int) (h : m < 0 ∨ r < 0 ∨ f < 0) (w : World) :
    Calls Tryz.prog 41 #[.int .i64 m, .int .i64 r, .int .i64 f] w fun e w' => e = .returned (.int .i64 1) ∧ w' = w := by
  by_cases g1 : m < 0
  · clear h
    go_enter Tryz.func41, Tryz.ntmps41
    go_wp2
    go_ret
    exact ⟨rfl, rfl⟩
  by_cases g2 : r < 0
  · clear h
    go_enter Tryz.func41, Tryz.ntmps41
    go_wp2
    go_ret
    exact ⟨rfl, rfl⟩
  · have g3 : f < 0 := by omega
    clear h
    go_enter Tryz.func41, Tryz.ntmps41
    go_wp2
    go_ret
    exact ⟨rfl, rfl⟩
set_option maxHeartbeats 2000000 in
theorem rDecode_any (s : ByteArray) (hs : s.size ≤ 2000000) (m r f : Int) (h1 : m ≤ 9223372036854775807) (h2 : r ≤ 9223372036854775807) (h3 : f ≤ 9223372036854775807) (w : World) :
    Calls Tryz.prog 21 #[.string s, .int .i64 m, .int .i64 r, .int .i64 f] w fun e w' => ∃ v, e = .returned (.tuple #[.string (str (decR m r f s.data.toList).1), v, .int .i64 (decR m r f s.data.toList).2.2.1, .int .i64 (decR m r f s.data.toList).2.2.2]) ∧ OwnF 64 w.heap.size v (decR m r f s.data.toList).2.1 w' ∧ Below w.heap.size w w' := by
  by_cases hneg : m < 0 ∨ r < 0 ∨ f < 0
  · have HL : Hid (Calls Tryz.prog 41 #[.int .i64 m, .int .i64 r, .int .i64 f] w fun e w' => e = .returned (.int .i64 1) ∧ w' = w) := rLimits_no m r f hneg w
    have e : decR m r f s.data.toList = ([], [], 0, 1) := by unfold decR; rw [if_pos hneg]
    rw [e]
    clear hneg e
    go_enter Tryz.func21, Tryz.ntmps21
    go_wp2_with fail
    refine HL.out.mono ?_
    rintro e w1 ⟨rfl, hw⟩
    rw [hw]
    go_wp2
    refine bodyPost_ret (v := .tuple #[.string ⟨#[]⟩, .slice none 0 0, .int .i64 0, .int .i64 1]) (by simp [results, Tryz.results21, go_sem]) rfl ?_
    exact ⟨.slice none 0 0, rfl, ownF_nil _ _ _, Below.refl _ _⟩
  · have HL : Hid (Calls Tryz.prog 41 #[.int .i64 m, .int .i64 r, .int .i64 f] w fun e w' => e = .returned (.int .i64 0) ∧ w' = w) := rLimits_ok m r f (by omega) (by omega) (by omega) w
    have HW : Hid (∀ w, Calls Tryz.prog 42 #[.string s, .int .i64 m, .int .i64 r, .int .i64 f] w fun x w' => ∃ (n : Nat) (e : Int) (d : Bool) (b : ByteArray) (t : List Fl) (v : Value), x = .returned (wkV (n : Int) e d b v) ∧ Sees (eat (new m r f) s.data.toList) n e d b.data.toList t ∧ OwnF 64 w.heap.size v t w' ∧ Below w.heap.size w w') := fun w => rWalk_any s hs m r f (by omega) h1 (by omega) h2 (by omega) h3 w
    have hok := eat_ok s.data.toList _ 0 (Ok.new m r f ⟨by omega, h1⟩ ⟨by omega, h2⟩ ⟨by omega, h3⟩)
    have hfi := fine_eat s.data.toList _ (fine_new m r f)
    have hall := eat_all s.data.toList (new m r f)
    have hle := eat_le s.data.toList (new m r f)
    have HD : Hid (decR m r f s.data.toList = if (eat (new m r f) s.data.toList).2.err ≠ 0 then ([], [], ((eat (new m r f) s.data.toList).1 : Int) - 1, (eat (new m r f) s.data.toList).2.err) else if (eat (new m r f) s.data.toList).2.done = false then ([], [], ((eat (new m r f) s.data.toList).1 : Int), 105) else ((eat (new m r f) s.data.toList).2.body, (eat (new m r f) s.data.toList).2.tr, ((eat (new m r f) s.data.toList).1 : Int), 0)) := (by unfold decR; rw [if_neg hneg] : decR m r f s.data.toList = _)
    generalize eat (new m r f) s.data.toList = E at *
    clear hneg
    go_enter Tryz.func21, Tryz.ntmps21
    go_wp2_with fail
    refine HL.out.mono ?_
    rintro e w1 ⟨rfl, hw⟩
    rw [hw]
    clear hw
    go_wp2_with fail
    refine (HW.out _).mono ?_
    rintro x w2 ⟨n, e, d, b, t, v, rfl, hsee, hown, hb2⟩
    obtain ⟨z1, z2, z3, z4, z5⟩ := hsee
    rw [z1, z2, z3, z4, z5] at HD
    have HN1 : Hid (e = 0 → d = false → (n : Int) = (s.size : Int)) := fun he hd => by
      have : E.2.mode ≠ 5 := fun h5 => by
        rcases hok.over.1 h5 with h | h
        · rw [z3, hd] at h; cases h
        · rw [z2] at h; exact h he
      have h := hall this
      rw [z1, size_list] at h
      omega
    have HN2 : Hid (d = true → e = 0) := fun hd => by
      have h := hfi (by rw [z3]; exact hd)
      rw [z2] at h
      exact h
    have hn : n ≤ s.size := by rw [← z1, ← size_list]; exact hle
    clear z1 z2 z3 z4 z5 hok hfi hall hle
    obtain ⟨va, vc, hv⟩ := OwnF.form hown
    subst hv
    have HO2 : Hid (OwnF 64 w.heap.size (.slice va t.length vc) t w2) := hown
    have HB2 : Hid (Below w.heap.size w w2) := hb2
    have hs2 := hb2.size
    clear hown hb2
    unfold wkV
    cases d with
    | true =>
      have he := HN2.out rfl
      subst he
      have HD2 : Hid (decR m r f s.data.toList = (b.data.toList, t, (n : Int), 0)) := (by rw [HD.out]; simp : decR m r f s.data.toList = _)
      have hA : Below w2.heap.size w2 (w2.alloc (.cells #[.int .i64 (n : Int), .int .i64 0, .bool true, .string b, .slice va t.length vc] 93)) := (Below.refl _ _).alloc (Nat.le_refl _) _
      have HO3 : Hid (OwnF 64 w.heap.size (.slice va t.length vc) t (w2.alloc (.cells #[.int .i64 (n : Int), .int .i64 0, .bool true, .string b, .slice va t.length vc] 93)).drew) := (HO2.out.below hA).below ((Below.refl _ _).drew)
      have HB3 : Hid (Below w.heap.size w (w2.alloc (.cells #[.int .i64 (n : Int), .int .i64 0, .bool true, .string b, .slice va t.length vc] 93)).drew) := (bel_trans HB2.out hA).drew
      clear hA
      go_wp2_with fail
      go_region
      go_wp2
      refine bodyPost_ret (v := .tuple #[.string b, .slice va t.length vc, .int .i64 (n : Int), .int .i64 0]) (by simp [results, Tryz.results21, go_sem]) rfl ?_
      rw [HD2.out]
      exact ⟨.slice va t.length vc, (by rw [str_self]), HO3.out, HB3.out⟩
    | false =>
      by_cases he : e = 0
      · have hn2 := HN1.out he rfl
        have HD2 : Hid (decR m r f s.data.toList = ([], [], (s.size : Int), 105)) := (by rw [HD.out, he, ← hn2]; simp : decR m r f s.data.toList = _)
        subst he
        clear hn2
        go_wp2
        refine bodyPost_ret (v := .tuple #[.string ⟨#[]⟩, .slice none 0 0, .int .i64 (s.size : Int), .int .i64 105]) (by simp [results, Tryz.results21, go_sem]) rfl ?_
        rw [HD2.out]
        exact ⟨.slice none 0 0, rfl, ownF_nil _ _ _, HB2.out.alloc hs2 _⟩
      · have he' : (e != 0) = true := by simp [he]
        have HD2 : Hid (decR m r f s.data.toList = ([], [], (n : Int) - 1, e)) := (by rw [HD.out, if_pos he] : decR m r f s.data.toList = _)
        have hwn : IntKind.i64.wrap ((n : Int) - 1) = (n : Int) - 1 := by rw [IntKind.wrap_i64]; omega
        have HB3 : Hid (Below w.heap.size w (w2.alloc (.cells #[.int .i64 (n : Int), .int .i64 e, .bool false, .string b, .slice va t.length vc] 93)).drew) := (HB2.out.alloc hs2 _).drew
        clear he
        go_wp2_with fail
        go_region
        go_wp2
        refine bodyPost_ret (v := .tuple #[.string ⟨#[]⟩, .slice none 0 0, .int .i64 ((n : Int) - 1), .int .i64 e]) (by simp [results, Tryz.results21, go_sem]) rfl ?_
        rw [HD2.out]
        exact ⟨.slice none 0 0, rfl, ownF_nil _ _ _, HB3.out⟩
theorem decR_len (m r f : Int) (l : List UInt8) (h1 : m ≤ 9223372036854775807) (h2 : r ≤ 9223372036854775807) (h3 : f ≤ 9223372036854775807) : (decR m r f l).2.1.length ≤ l.length := by
  unfold decR
  split
  · exact Nat.zero_le _
  · rename_i h
    have hok := eat_ok l _ 0 (Ok.new m r f ⟨by omega, h1⟩ ⟨by omega, h2⟩ ⟨by omega, h3⟩)
    have hle := eat_le l (new m r f)
    have := hok.len
    split
    · exact Nat.zero_le _
    · split
      · exact Nat.zero_le _
      · show (eat (new m r f) l).2.tr.length ≤ l.length
        omega
end Ck
end Go.Proofs.YtdcfhnbagldilaaGreatDoor
set_option linter.unusedVariables false
set_option linter.unusedSimpArgs false
set_option maxRecDepth 100000
namespace Go.Proofs.YtdcfhnbagldilaaGreatDoor
open Go.RowKit Go.Shelf
namespace Ms
open Oc Tg _root_.Go.Proofs.YtdcfhnbagldilaaGreatDoor.Fd _root_.Go.Proofs.YtdcfhnbagldilaaGreatDoor.Ck
theorem run_rest : ∀ (l : List UInt8) (s : HS), s.piece = l → s.used ≤ (hRun s l).1.used ∧ (hRun s l).1.piece = l.drop ((hRun s l).1.used - s.used) ∧ (hRun s l).1.ended = s.ended ∧ (hRun s l).1.used ≤ s.used + l.length
  | [], s, h => ⟨Nat.le_refl _, by show s.piece = _; rw [h]; simp, rfl, Nat.le_refl _⟩
  | u :: t, s, h => by
    have e : hRun s (u :: t) = if s.headed = true then (s, 0) else if (hTake (hNext s t) u s.used).2 ≠ 0 then hTake (hNext s t) u s.used else hRun (hTake (hNext s t) u s.used).1 t := rfl
    rw [e]
    obtain ⟨p1, p2, p3⟩ := hTake_piece (hNext s t) u s.used
    have q1 : (hNext s t).piece = t := rfl
    have q2 : (hNext s t).used = s.used + 1 := rfl
    have q3 : (hNext s t).ended = s.ended := rfl
    rw [q1] at p1
    rw [q2] at p2
    rw [q3] at p3
    by_cases hh : s.headed = true
    · rw [if_pos hh]
      refine ⟨Nat.le_refl _, ?_, rfl, Nat.le_add_right _ _⟩
      show s.piece = _
      rw [h, Nat.sub_self]
      rfl
    · rw [if_neg hh]
      by_cases hz : (hTake (hNext s t) u s.used).2 ≠ 0
      · rw [if_pos hz, p1, p2, p3]
        refine ⟨by omega, ?_, rfl, by rw [List.length_cons]; omega⟩
        rw [show s.used + 1 - s.used = 1 by omega]
        rfl
      · rw [if_neg hz]
        obtain ⟨i1, i2, i3, i4⟩ := run_rest t (hTake (hNext s t) u s.used).1 p1
        rw [p2] at i1 i2 i4
        rw [p3] at i3
        refine ⟨by omega, ?_, i3, by rw [List.length_cons]; omega⟩
        rw [i2]
        generalize (hRun (hTake (hNext s t) u s.used).1 t).1.used = U at *
        rw [show U - s.used = (U - (s.used + 1)) + 1 by omega]
        rfl
def Shut (s : DS) : Prop := s.err ≠ 105
theorem shut_fin (s : DS) (e : Int) (h : e ≠ 105) : Shut (fin s e) := h
theorem size_err (l : List UInt8) : (sizeR l).2.2 ≠ 105 := by
  unfold sizeR
  repeat' split
  all_goals (dsimp only; decide)
theorem shut_step {s : DS} (h : Shut s) (c : UInt8) : Shut (bstep s c) := by
  unfold bstep
  split
  · unfold inSize endSize
    repeat' split
    all_goals first | exact h | exact shut_fin _ _ (by decide) | exact shut_fin _ _ (size_err _)
  · exact h
  · unfold behindChunk
    split
    · exact h
    · exact shut_fin _ _ (by decide)
  · unfold behindReturn
    split
    · exact h
    · exact shut_fin _ _ (by decide)
  · unfold inTrailers endTrailer keep
    repeat' split
    all_goals first | exact h | exact shut_fin _ _ (by decide)
  · exact h
theorem shut_eat : ∀ (l : List UInt8) (s : DS), Shut s → Shut (eat s l).2
  | [], s, h => by rw [eat_nil]; exact h
  | c :: l, s, h => by
    by_cases hm : s.mode = 5
    · rw [eat_over hm]; exact h
    · rw [eat_cons hm]; exact shut_eat l (bstep s c) (shut_step h c)
def cE (e : Int) : Int := if e = 105 then 124 else if e = 102 then 125 else e
def docB (me : List UInt8) (B : ByteArray) (m : Nat) (en : Bool) (h : Hd) (n : Int) : Option (Hd × List UInt8 × List Fl) × Int × Int :=
  if bdl me h.st = true then (some (h, [], []), n, 0)
  else if h.kind = 2 then
    (if cE (Ck.decR (m : Int) 65536 100 (B.data.toList.drop n.toNat)).2.2.2 ≠ 0 then (none, n + (Ck.decR (m : Int) 65536 100 (B.data.toList.drop n.toNat)).2.2.1, cE (Ck.decR (m : Int) 65536 100 (B.data.toList.drop n.toNat)).2.2.2)
    else (some (h, (Ck.decR (m : Int) 65536 100 (B.data.toList.drop n.toNat)).1, (Ck.decR (m : Int) 65536 100 (B.data.toList.drop n.toNat)).2.1), n + (Ck.decR (m : Int) 65536 100 (B.data.toList.drop n.toNat)).2.2.1, 0))
  else if h.kind = 1 then
    (if (m : Int) < h.len then (none, n, 125) else if ((B.data.toList.drop n.toNat).length : Int) < h.len then (none, (B.size : Int), 124) else (some (h, (B.data.toList.drop n.toNat).take h.len.toNat, []), n + h.len, 0))
  else if m < (B.data.toList.drop n.toNat).length then (none, n + (m : Int), 125) else if en = false then (none, (B.size : Int), 124) else (some ({ h with per := false }, B.data.toList.drop n.toNat, []), (B.size : Int), 0)
def docP (me : List UInt8) (B : ByteArray) (m : Nat) (en : Bool) : Option (Hd × List UInt8 × List Fl) × Int × Int :=
  match (docH B).1 with
  | none => (none, (docH B).2.1, (docH B).2.2)
  | some h => docB me B m en h (docH B).2.1
def outW (z : Nat) (W : BR × List Fl) : Option (Hd × List UInt8 × List Fl) × Int × Int :=
  if W.1.err ≠ 0 then (none, W.1.s.wrong, W.1.err) else if W.1.done = false then (none, (z : Int), 124) else (some (⟨W.1.s.st, W.1.s.rs, W.1.s.fs, W.1.s.minor, W.1.s.kind, W.1.s.len, W.1.s.per⟩, W.1.bd, W.2), (W.1.s.used : Int), 0)
theorem out_parse (me : List UInt8) (B : ByteArray) (m : Nat) (en : Bool) (hm : (m : Int) ≤ 9223372036854775807) (hlen : (hRun (newH B.data.toList en) B.data.toList).1.headed = true → ∃ n : Nat, (hRun (newH B.data.toList en) B.data.toList).1.len = (n : Int)) :
    outW B.size (rspW (newH B.data.toList en) me m) = docP me B m en := by
  have hH := out_head B en
  obtain ⟨-, r2, r3, r4⟩ := run_rest B.data.toList (newH B.data.toList en) rfl
  have hp : (newH B.data.toList en).piece = B.data.toList := rfl
  have h0 : (newH B.data.toList en).used = 0 := rfl
  have h3 : (newH B.data.toList en).ended = en := rfl
  rw [h0, Nat.sub_zero] at r2
  rw [h0, Nat.zero_add, size_list] at r4
  rw [h3] at r3
  unfold rspW rspR
  rw [hp]
  unfold docP
  rw [← hH]
  generalize hRun (newH B.data.toList en) B.data.toList = R at *
  obtain ⟨s, z⟩ := R
  dsimp only at hlen r2 r3 r4 ⊢
  clear hH hp h0 h3
  unfold outH
  dsimp only
  by_cases hz : z = 0
  case neg =>
    have hz2 : z ≠ 0 := hz
    rw [if_neg (fun h => hz h.1), if_pos (.inl hz2), if_pos hz2]
    unfold outW
    dsimp only
    rw [if_pos hz2]
  subst hz
  rw [if_neg (show ¬ ((0 : Int) ≠ 0) from fun h => h rfl)]
  by_cases hh : s.headed = false
  · rw [if_neg (fun h => by rw [hh] at h; cases h.2.1), if_pos (.inr hh), if_pos hh]
    unfold outW
    dsimp only
    rw [if_neg (fun h => h rfl), if_pos rfl]
  have hh1 : s.headed = true := by simpa using hh
  obtain ⟨len, hl⟩ := hlen hh1
  have hno : ¬ ((0 : Int) ≠ 0 ∨ s.headed = false) := fun h => h.elim (fun h => h rfl) hh
  rw [if_neg hh, if_neg hno]
  dsimp only
  have hu : ((s.used : Nat) : Int).toNat = s.used := rfl
  unfold docB
  dsimp only
  rw [hu, ← r2]
  by_cases hb : bdl me s.st = true
  · rw [if_neg (fun h => by rw [hb] at h; cases h.2.2.1), if_pos hb, if_pos hb]
    rfl
  have hb1 : bdl me s.st = false := by simpa using hb
  rw [if_neg hb, if_neg hb]
  by_cases hk : s.kind = 2
  · rw [if_pos ⟨rfl, hh1, hb1, hk⟩, if_pos hk]
    have hsh := shut_eat s.piece (new (m : Int) 65536 100) (by show (0 : Int) ≠ 105; decide)
    have hok := eat_ok s.piece _ 0 (Ok.new (m : Int) 65536 100 ⟨by omega, hm⟩ ⟨by omega, by omega⟩ ⟨by omega, by omega⟩)
    have hall := eat_all s.piece (new (m : Int) 65536 100)
    unfold chkR Ck.decR
    rw [if_neg (show ¬ ((m : Int) < 0 ∨ (65536 : Int) < 0 ∨ (100 : Int) < 0) by omega)]
    have hpl : s.piece.length = B.size - s.used := by rw [r2, List.length_drop, size_list]
    generalize eat (new (m : Int) 65536 100) s.piece = E at *
    by_cases he : E.2.err ≠ 0
    · rw [if_pos he, if_pos he]
      dsimp only
      have hE : cE E.2.err = cErr E.2.err := by
        unfold cE cErr
        rw [if_neg hsh]
      have hne : cErr E.2.err ≠ 0 := by
        unfold cErr
        split
        · decide
        · exact he
      rw [hE, if_pos hne]
      unfold outW
      dsimp only
      rw [if_pos hne]
      congr 2
      omega
    · rw [if_neg he, if_neg he]
      by_cases hd : E.2.done = true
      · rw [if_pos hd, if_neg (show ¬ E.2.done = false by rw [hd]; simp)]
        dsimp only
        rw [if_neg (show ¬ (cE 0 ≠ 0) from fun h => h rfl)]
        rfl
      · have hd1 : E.2.done = false := by simpa using hd
        rw [if_neg hd, if_pos hd1]
        dsimp only
        rw [if_pos (show cE 105 ≠ 0 by decide)]
        unfold outW
        dsimp only
        rw [if_neg (fun h => h rfl), if_pos rfl]
        have hmo : E.2.mode ≠ 5 := fun h5 => by
          rcases hok.over.1 h5 with h | h
          · exact hd h
          · exact he h
        have := hall hmo
        rw [this]
        congr 2
        omega
  · rw [if_neg (fun h => hk h.2.2.2), if_neg hk]
    have hpl : s.piece.length = B.size - s.used := by rw [r2, List.length_drop, size_list]
    by_cases h1 : s.kind = 1
    · rw [if_pos h1, if_pos h1, hl]
      have hlt : ((len : Nat) : Int).toNat = len := rfl
      rw [hlt]
      unfold lenR
      have ht : took s [] len = min len s.piece.length := rfl
      rw [ht]
      by_cases c1 : m < len
      · rw [if_pos c1, if_pos (show (m : Int) < (len : Int) by omega)]
        rfl
      · rw [if_neg c1, if_neg (show ¬ (m : Int) < (len : Int) by omega)]
        by_cases c2 : s.piece.length < len
        · rw [if_pos (show ([] : List UInt8).length + min len s.piece.length < len by simp only [List.length_nil]; omega), if_pos (show (s.piece.length : Int) < (len : Int) by omega)]
          rfl
        · rw [if_neg (show ¬ ([] : List UInt8).length + min len s.piece.length < len by simp only [List.length_nil]; omega), if_neg (show ¬ (s.piece.length : Int) < (len : Int) by omega)]
          unfold outW
          dsimp only
          rw [if_neg (fun h => h rfl), if_neg (by simp), Nat.min_eq_left (by omega), List.nil_append]
          unfold bNext
          dsimp only
          rw [hl]
          congr 2
    · rw [if_neg h1, if_neg h1]
      unfold endR
      have ht : took s [] m = min m s.piece.length := rfl
      rw [ht, r3]
      by_cases c1 : m < s.piece.length
      · rw [if_pos c1, if_pos (show s.piece.drop (min m s.piece.length) ≠ [] by
          rw [Nat.min_eq_left (by omega)]
          intro h
          have := congrArg List.length h
          rw [List.length_drop] at this
          simp only [List.length_nil] at this
          omega), Nat.min_eq_left (by omega)]
        unfold outW
        dsimp only
        rw [if_pos (by decide)]
        congr 2
      · rw [if_neg c1, if_neg (show ¬ s.piece.drop (min m s.piece.length) ≠ [] by
          intro h
          exact h (List.drop_eq_nil_of_le (by omega)))]
        by_cases c2 : en = false
        · rw [if_pos c2, if_pos c2]
          rfl
        · rw [if_neg c2, if_neg c2, Nat.min_eq_right (by omega), List.nil_append, List.take_length]
          unfold outW bNext
          dsimp only
          rw [if_neg (fun h => h rfl), if_neg (by simp)]
          congr 2
          omega
end Ms
end Go.Proofs.YtdcfhnbagldilaaGreatDoor
set_option linter.unusedVariables false
set_option linter.unusedSimpArgs false
set_option maxRecDepth 100000
namespace Go.Proofs.YtdcfhnbagldilaaGreatDoor
open Go.RowKit Go.Shelf
namespace Ms
open Oc Tg _root_.Go.Proofs.YtdcfhnbagldilaaGreatDoor.Fd _root_.Go.Proofs.YtdcfhnbagldilaaGreatDoor.Ck
def parH (R : HS × Int) (z : Nat) (vf : Value) : List Value × Int × Int :=
  if R.2 ≠ 0 then (zeroC, R.1.wrong, R.2) else if R.1.headed = false then (zeroC, (z : Int), 124) else (repC R.1 [] vf (.slice none 0 0), (R.1.used : Int), 0)
set_option maxHeartbeats 4000000 in
theorem ParseHead_any (p : ByteArray) (hp : p.size ≤ 3000000000) (w : World) (hw : Env w) :
    Calls Tryz.prog 6 #[.string p] w fun e w' => ∃ vf, e = .returned (.tuple #[.agg (parH (hRun (newH p.data.toList false) p.data.toList) p.size vf).1.toArray, .int .i64 (parH (hRun (newH p.data.toList false) p.data.toList) p.size vf).2.1, .int .i64 (parH (hRun (newH p.data.toList false) p.data.toList) p.size vf).2.2]) ∧ OwnF 47 w.heap.size vf (hRun (newH p.data.toList false) p.data.toList).1.fs w' ∧ Below w.heap.size w w' := by
  obtain ⟨k1, k2, k3⟩ := newH_ok p.data.toList false
  obtain ⟨wR, hwR⟩ : ∃ wR, wR = w.alloc (.cells #[.int .i64 0, .string ⟨#[]⟩, .slice none 0 0, .string ⟨#[]⟩, .int .i64 0, .slice none 0 0, .int .i64 0, .int .i64 0, .bool false] 31) := ⟨_, rfl⟩
  have hbR : Below w.heap.size w wR := by rw [hwR]; exact (Below.refl _ w).alloc (Nat.le_refl _) _
  have hRb : Blk 31 wR w.heap.size zeroC := by rw [hwR]; exact heap_alloc_new w _
  have hRs : wR.heap.size = w.heap.size + 1 := by rw [hwR]; simp
  obtain ⟨wS, hwS⟩ : ∃ wS, wS = wR.alloc (.cells #[.string p, .bool false, .int .i64 0, .int .i64 0, .slice none 0 0, .int .i64 0, .bool false, .slice none 0 0, .pointer none, .int .i64 0, .string ⟨#[]⟩, .slice none 0 0, .string ⟨#[]⟩, .int .i64 0, .slice none 0 0, .int .i64 0, .int .i64 0, .bool false] 56) := ⟨_, rfl⟩
  have hstr : lcH (newH p.data.toList false) (.slice none 0 0) (.slice none 0 0) [] = [.string p, .bool false, .int .i64 0, .int .i64 0, .slice none 0 0, .int .i64 0, .bool false, .slice none 0 0, .pointer none, .int .i64 0, .string ⟨#[]⟩, .slice none 0 0, .string ⟨#[]⟩, .int .i64 0, .slice none 0 0, .int .i64 0, .int .i64 0, .bool false] := by
    show (Value.string (str p.data.toList) :: _) = _
    rw [str_self]
    rfl
  have hbS : Below wR.heap.size wR wS := by rw [hwS]; exact (Below.refl _ wR).alloc (Nat.le_refl _) _
  have hSb : Blk 56 wS wR.heap.size (lcH (newH p.data.toList false) (.slice none 0 0) (.slice none 0 0) []) := by rw [hstr, hwS]; exact heap_alloc_new wR _
  have hD : HdS 56 [] wS wR.heap.size (newH p.data.toList false) [wR.heap.size] := ⟨.slice none 0 0, .slice none 0 0, ⟨hSb, World.ownsRow_nil _ _ _ _, World.ownsRow_nil _ _ _ _⟩, rfl⟩
  have hB : Base wR wS [wR.heap.size] := ⟨hw.below hbR, hbS, fun x hx => by simp at hx; omega⟩
  have hRr := readHead_any tok_stream hB hD k1 (by show p.data.toList.length ≤ _; rw [size_list]; omega)
  have e1 : (newH p.data.toList false).piece = p.data.toList := rfl
  rw [e1] at hRr
  have HBR : Hid (Below w.heap.size w wR) := hbR
  have HRB : Hid (Blk 31 wR w.heap.size zeroC) := hRb
  have HBS : Hid (Base wR wS [wR.heap.size]) := hB
  have HRS : Hid (wR.heap.size = w.heap.size + 1) := hRs
  generalize hRun (newH p.data.toList false) p.data.toList = R at *
  rw [hRs] at hRr
  have HRr : Hid (Calls _ _ _ _ _) := hRr
  clear hRr hB hD hSb hbS hstr hRb hbR k1 k2 k3 e1
  go_enter Tryz.func6, Tryz.ntmps6
  go_wp2_with fail
  rw [← hwR, ← hwS]
  refine HRr.out.mono ?_
  rintro e w3 ⟨rfl, b3, hd3, hg3⟩
  have hB3 := HBS.out.goes (by rw [HRS.out]; exact hg3)
  have HB3 : Hid (Below w.heap.size w w3) := HBR.out.trans (hB3.bel.mono (by have := HBR.out.size; exact this))
  have HR3 : Hid (Blk 31 w3 w.heap.size zeroC) := HRB.out.below hB3.bel
  obtain ⟨vl, vf, HI, hbs⟩ := hd3
  have HFs : Hid (OwnF 47 w.heap.size vf R.1.fs w3) := owns_base HI.fs (fun g hg => by
    have := hB3.new g (by rw [hbs]; simp [ftH, hg])
    have h2 := HRS.out
    omega)
  obtain ⟨fa, fc, rfl⟩ := ownF_form HI.fs
  have HI3 : Hid (IsH 56 [] w3 (w.heap.size + 1) R.1 vl (.slice fa R.1.fs.length fc)) := HI
  clear hB3 hg3 hbs HI HRr HBS HRB hwR hwS hRs
  generalize hg0 : w.heap.size = g0 at *
  have HG0 : Hid (w.heap.size = g0) := hg0
  clear hg0
  have r0 := HR3.out.cell 0 rfl
  have r1 := HR3.out.cell 1 rfl
  have r2 := HR3.out.cell 2 rfl
  have r3 := HR3.out.cell 3 rfl
  have r4 := HR3.out.cell 4 rfl
  have r5 := HR3.out.cell 5 rfl
  have r6 := HR3.out.cell 6 rfl
  have r7 := HR3.out.cell 7 rfl
  have r8 := HR3.out.cell 8 rfl
  have rf := HR3.out.free
  obtain ⟨s, err⟩ := R
  dsimp only at HFs HI3
  have HP : Hid (∀ v, parH (s, err) p.size v = if err ≠ 0 then (zeroC, s.wrong, err) else if s.headed = false then (zeroC, (p.size : Int), 124) else (repC s [] v (.slice none 0 0), (s.used : Int), 0)) := fun _ => rfl
  have c6 : w3.cell? ⟨g0 + 1, 6, none⟩ = some (.bool s.headed) := HI3.out.str.cell 6 rfl
  have c3 : w3.cell? ⟨g0 + 1, 3, none⟩ = some (.int .i64 s.wrong) := HI3.out.str.cell 3 rfl
  dsimp only
  by_cases he : err = 0
  case neg =>
    have he1 : (err != 0) = true := by simp [he]
    have HQ : Hid (∀ v, parH (s, err) p.size v = (zeroC, s.wrong, err)) := fun v => (HP.out v).trans (if_pos he)
    have d3 : w3.drew.cell? ⟨g0 + 1, 3, none⟩ = some (.int .i64 s.wrong) := c3
    clear he HP
    go_wp2_with fail
    go_region_law (fail)
    all_goals
      go_simp
      go_wp2
      have hB9 := set9_blk HR3.out (.int .i64 0) (.string ⟨#[]⟩) (.slice none 0 0) (.string ⟨#[]⟩) (.int .i64 0) (.slice none 0 0) (.int .i64 0) (.int .i64 0) (.bool false)
      have hb9 := set9_but w3 g0 (.int .i64 0) (.string ⟨#[]⟩) (.slice none 0 0) (.string ⟨#[]⟩) (.int .i64 0) (.slice none 0 0) (.int .i64 0) (.int .i64 0) (.bool false)
      have hf9 : OwnF 47 g0 (.slice fa s.fs.length fc) s.fs (set9 w3 g0 (.int .i64 0) (.string ⟨#[]⟩) (.slice none 0 0) (.string ⟨#[]⟩) (.int .i64 0) (.slice none 0 0) (.int .i64 0) (.int .i64 0) (.bool false)) := HR3.out.keep HFs.out (by decide) hb9
      have hl9 : Below g0 w3 (set9 w3 g0 (.int .i64 0) (.string ⟨#[]⟩) (.slice none 0 0) (.string ⟨#[]⟩) (.int .i64 0) (.slice none 0 0) (.int .i64 0) (.int .i64 0) (.bool false)) := hb9.below (by have := HR3.out.lt; omega) (fun x hx => by simp at hx; omega)
      obtain ⟨W9, hW9⟩ : ∃ W9, W9 = (set9 w3 g0 (.int .i64 0) (.string ⟨#[]⟩) (.slice none 0 0) (.string ⟨#[]⟩) (.int .i64 0) (.slice none 0 0) (.int .i64 0) (.int .i64 0) (.bool false)).drew := ⟨_, rfl⟩
      have hB9' : Blk 31 W9 g0 [.int .i64 0, .string ⟨#[]⟩, .slice none 0 0, .string ⟨#[]⟩, .int .i64 0, .slice none 0 0, .int .i64 0, .int .i64 0, .bool false] := by rw [hW9]; exact hB9.but (But.refl [] _).drew (fun e => by cases e)
      have HF9 : Hid (OwnF 47 g0 (.slice fa s.fs.length fc) s.fs W9) := (by rw [hW9]; exact (But.refl [] _).drew.owns hf9 (fun _ _ e => by cases e) : OwnF _ _ _ _ _)
      have HL9 : Hid (Below g0 w W9) := (by rw [hW9]; exact HB3.out.trans hl9.drew : Below _ _ _)
      have hW9' : (((((((((w3.setCell ⟨g0, 0, none⟩ (.int .i64 0)).setCell ⟨g0, 1, none⟩ (.string ⟨#[]⟩)).setCell ⟨g0, 2, none⟩ (.slice none 0 0)).setCell ⟨g0, 3, none⟩ (.string ⟨#[]⟩)).setCell ⟨g0, 4, none⟩ (.int .i64 0)).setCell ⟨g0, 5, none⟩ (.slice none 0 0)).setCell ⟨g0, 6, none⟩ (.int .i64 0)).setCell ⟨g0, 7, none⟩ (.int .i64 0)).setCell ⟨g0, 8, none⟩ (.bool false)).drew = W9 := hW9.symm
      rw [hW9']
      have q0 := hB9'.cell 0 rfl
      have q1 := hB9'.cell 1 rfl
      have q2 := hB9'.cell 2 rfl
      have q3 := hB9'.cell 3 rfl
      have q4 := hB9'.cell 4 rfl
      have q5 := hB9'.cell 5 rfl
      have q6 := hB9'.cell 6 rfl
      have q7 := hB9'.cell 7 rfl
      have q8 := hB9'.cell 8 rfl
      clear hB9 hb9 hf9 hl9 hW9 hW9' hB9'
      refine bodyPost_ret (v := .tuple #[.agg #[.int .i64 0, .string ⟨#[]⟩, .slice none 0 0, .string ⟨#[]⟩, .int .i64 0, .slice none 0 0, .int .i64 0, .int .i64 0, .bool false], .int .i64 s.wrong, .int .i64 err]) (by simp [results, Tryz.results6, go_sem, q0, q1, q2, q3, q4, q5, q6, q7, q8]) rfl ?_
      rw [HG0.out]
      refine ⟨.slice fa s.fs.length fc, ?_, HF9.out, HL9.out⟩
      rw [HQ.out]
      rfl
  subst he
  have HP2 : Hid (∀ v, parH (s, 0) p.size v = if s.headed = false then (zeroC, (p.size : Int), 124) else (repC s [] v (.slice none 0 0), (s.used : Int), 0)) := fun v => (HP.out v).trans (if_neg (fun h => h rfl))
  cases hhd : s.headed with
  | false =>
    rw [hhd] at c6
    have HQ : Hid (∀ v, parH (s, 0) p.size v = (zeroC, (p.size : Int), 124)) := fun v => (HP2.out v).trans (if_pos hhd)
    clear HP HP2 hhd
    go_wp2
    have hB9 := set9_blk HR3.out (.int .i64 0) (.string ⟨#[]⟩) (.slice none 0 0) (.string ⟨#[]⟩) (.int .i64 0) (.slice none 0 0) (.int .i64 0) (.int .i64 0) (.bool false)
    have hb9 := set9_but w3 g0 (.int .i64 0) (.string ⟨#[]⟩) (.slice none 0 0) (.string ⟨#[]⟩) (.int .i64 0) (.slice none 0 0) (.int .i64 0) (.int .i64 0) (.bool false)
    have hf9 : OwnF 47 g0 (.slice fa s.fs.length fc) s.fs (set9 w3 g0 (.int .i64 0) (.string ⟨#[]⟩) (.slice none 0 0) (.string ⟨#[]⟩) (.int .i64 0) (.slice none 0 0) (.int .i64 0) (.int .i64 0) (.bool false)) := HR3.out.keep HFs.out (by decide) hb9
    have hl9 : Below g0 w3 (set9 w3 g0 (.int .i64 0) (.string ⟨#[]⟩) (.slice none 0 0) (.string ⟨#[]⟩) (.int .i64 0) (.slice none 0 0) (.int .i64 0) (.int .i64 0) (.bool false)) := hb9.below (by have := HR3.out.lt; omega) (fun x hx => by simp at hx; omega)
    obtain ⟨W9, hW9⟩ : ∃ W9, W9 = (set9 w3 g0 (.int .i64 0) (.string ⟨#[]⟩) (.slice none 0 0) (.string ⟨#[]⟩) (.int .i64 0) (.slice none 0 0) (.int .i64 0) (.int .i64 0) (.bool false)) := ⟨_, rfl⟩
    have hB9' : Blk 31 W9 g0 [.int .i64 0, .string ⟨#[]⟩, .slice none 0 0, .string ⟨#[]⟩, .int .i64 0, .slice none 0 0, .int .i64 0, .int .i64 0, .bool false] := by rw [hW9]; exact hB9
    have HF9 : Hid (OwnF 47 g0 (.slice fa s.fs.length fc) s.fs W9) := (by rw [hW9]; exact hf9 : OwnF _ _ _ _ _)
    have HL9 : Hid (Below g0 w W9) := (by rw [hW9]; exact HB3.out.trans hl9 : Below _ _ _)
    have hW9' : (((((((((w3.setCell ⟨g0, 0, none⟩ (.int .i64 0)).setCell ⟨g0, 1, none⟩ (.string ⟨#[]⟩)).setCell ⟨g0, 2, none⟩ (.slice none 0 0)).setCell ⟨g0, 3, none⟩ (.string ⟨#[]⟩)).setCell ⟨g0, 4, none⟩ (.int .i64 0)).setCell ⟨g0, 5, none⟩ (.slice none 0 0)).setCell ⟨g0, 6, none⟩ (.int .i64 0)).setCell ⟨g0, 7, none⟩ (.int .i64 0)).setCell ⟨g0, 8, none⟩ (.bool false)) = W9 := hW9.symm
    rw [hW9']
    have q0 := hB9'.cell 0 rfl
    have q1 := hB9'.cell 1 rfl
    have q2 := hB9'.cell 2 rfl
    have q3 := hB9'.cell 3 rfl
    have q4 := hB9'.cell 4 rfl
    have q5 := hB9'.cell 5 rfl
    have q6 := hB9'.cell 6 rfl
    have q7 := hB9'.cell 7 rfl
    have q8 := hB9'.cell 8 rfl
    clear hB9 hb9 hf9 hl9 hW9 hW9' hB9'
    refine bodyPost_ret (v := .tuple #[.agg #[.int .i64 0, .string ⟨#[]⟩, .slice none 0 0, .string ⟨#[]⟩, .int .i64 0, .slice none 0 0, .int .i64 0, .int .i64 0, .bool false], .int .i64 (p.size : Int), .int .i64 124]) (by simp [results, Tryz.results6, go_sem, q0, q1, q2, q3, q4, q5, q6, q7, q8]) rfl ?_
    rw [HG0.out]
    refine ⟨.slice fa s.fs.length fc, ?_, HF9.out, HL9.out⟩
    rw [HQ.out]
    rfl
  | true =>
    rw [hhd] at c6
    have HQ : Hid (∀ v, parH (s, 0) p.size v = (repC s [] v (.slice none 0 0), (s.used : Int), 0)) := fun v => (HP2.out v).trans (if_neg (by rw [hhd]; simp))
    clear HP HP2 hhd
    have c2 : w3.cell? ⟨g0 + 1, 2, none⟩ = some (.int .i64 (s.used : Int)) := HI3.out.str.cell 2 rfl
    have c9 : w3.cell? ⟨g0 + 1, 9, none⟩ = some (.int .i64 s.st) := HI3.out.str.cell 9 rfl
    have c10 : w3.cell? ⟨g0 + 1, 10, none⟩ = some (.string (str s.rs)) := HI3.out.str.cell 10 rfl
    have c11 : w3.cell? ⟨g0 + 1, 11, none⟩ = some (.slice fa s.fs.length fc) := HI3.out.str.cell 11 rfl
    have c12 : w3.cell? ⟨g0 + 1, 12, none⟩ = some (.string ⟨#[]⟩) := HI3.out.str.cell 12 rfl
    have c13 : w3.cell? ⟨g0 + 1, 13, none⟩ = some (.int .i64 s.minor) := HI3.out.str.cell 13 rfl
    have c14 : w3.cell? ⟨g0 + 1, 14, none⟩ = some (.slice none 0 0) := HI3.out.str.cell 14 rfl
    have c15 : w3.cell? ⟨g0 + 1, 15, none⟩ = some (.int .i64 s.kind) := HI3.out.str.cell 15 rfl
    have c16 : w3.cell? ⟨g0 + 1, 16, none⟩ = some (.int .i64 s.len) := HI3.out.str.cell 16 rfl
    have c17 : w3.cell? ⟨g0 + 1, 17, none⟩ = some (.bool s.per) := HI3.out.str.cell 17 rfl
    go_wp2_with fail
    go_region_law (fail)
    all_goals
      go_simp
      go_wp2
      have hB9 := set9_blk HR3.out (.int .i64 s.st) (.string (str s.rs)) (.slice fa s.fs.length fc) (.string ⟨#[]⟩) (.int .i64 s.minor) (.slice none 0 0) (.int .i64 s.kind) (.int .i64 s.len) (.bool s.per)
      have hb9 := set9_but w3 g0 (.int .i64 s.st) (.string (str s.rs)) (.slice fa s.fs.length fc) (.string ⟨#[]⟩) (.int .i64 s.minor) (.slice none 0 0) (.int .i64 s.kind) (.int .i64 s.len) (.bool s.per)
      have hf9 : OwnF 47 g0 (.slice fa s.fs.length fc) s.fs (set9 w3 g0 (.int .i64 s.st) (.string (str s.rs)) (.slice fa s.fs.length fc) (.string ⟨#[]⟩) (.int .i64 s.minor) (.slice none 0 0) (.int .i64 s.kind) (.int .i64 s.len) (.bool s.per)) := HR3.out.keep HFs.out (by decide) hb9
      have hl9 : Below g0 w3 (set9 w3 g0 (.int .i64 s.st) (.string (str s.rs)) (.slice fa s.fs.length fc) (.string ⟨#[]⟩) (.int .i64 s.minor) (.slice none 0 0) (.int .i64 s.kind) (.int .i64 s.len) (.bool s.per)) := hb9.below (by have := HR3.out.lt; omega) (fun x hx => by simp at hx; omega)
      obtain ⟨W9, hW9⟩ : ∃ W9, W9 = (set9 w3 g0 (.int .i64 s.st) (.string (str s.rs)) (.slice fa s.fs.length fc) (.string ⟨#[]⟩) (.int .i64 s.minor) (.slice none 0 0) (.int .i64 s.kind) (.int .i64 s.len) (.bool s.per)).drew := ⟨_, rfl⟩
      have hB9' : Blk 31 W9 g0 [.int .i64 s.st, .string (str s.rs), .slice fa s.fs.length fc, .string ⟨#[]⟩, .int .i64 s.minor, .slice none 0 0, .int .i64 s.kind, .int .i64 s.len, .bool s.per] := by rw [hW9]; exact hB9.but (But.refl [] _).drew (fun e => by cases e)
      have HF9 : Hid (OwnF 47 g0 (.slice fa s.fs.length fc) s.fs W9) := (by rw [hW9]; exact (But.refl [] _).drew.owns hf9 (fun _ _ e => by cases e) : OwnF _ _ _ _ _)
      have HL9 : Hid (Below g0 w W9) := (by rw [hW9]; exact HB3.out.trans hl9.drew : Below _ _ _)
      have hW9' : (((((((((w3.setCell ⟨g0, 0, none⟩ (.int .i64 s.st)).setCell ⟨g0, 1, none⟩ (.string (str s.rs))).setCell ⟨g0, 2, none⟩ (.slice fa s.fs.length fc)).setCell ⟨g0, 3, none⟩ (.string ⟨#[]⟩)).setCell ⟨g0, 4, none⟩ (.int .i64 s.minor)).setCell ⟨g0, 5, none⟩ (.slice none 0 0)).setCell ⟨g0, 6, none⟩ (.int .i64 s.kind)).setCell ⟨g0, 7, none⟩ (.int .i64 s.len)).setCell ⟨g0, 8, none⟩ (.bool s.per)).drew = W9 := hW9.symm
      rw [hW9']
      have q0 := hB9'.cell 0 rfl
      have q1 := hB9'.cell 1 rfl
      have q2 := hB9'.cell 2 rfl
      have q3 := hB9'.cell 3 rfl
      have q4 := hB9'.cell 4 rfl
      have q5 := hB9'.cell 5 rfl
      have q6 := hB9'.cell 6 rfl
      have q7 := hB9'.cell 7 rfl
      have q8 := hB9'.cell 8 rfl
      clear hB9 hb9 hf9 hl9 hW9 hW9' hB9'
      refine bodyPost_ret (v := .tuple #[.agg #[.int .i64 s.st, .string (str s.rs), .slice fa s.fs.length fc, .string ⟨#[]⟩, .int .i64 s.minor, .slice none 0 0, .int .i64 s.kind, .int .i64 s.len, .bool s.per], .int .i64 (s.used : Int), .int .i64 0]) (by simp [results, Tryz.results6, go_sem, q0, q1, q2, q3, q4, q5, q6, q7, q8]) rfl ?_
      rw [HG0.out]
      refine ⟨.slice fa s.fs.length fc, ?_, HF9.out, HL9.out⟩
      rw [HQ.out]
      rfl
end Ms
end Go.Proofs.YtdcfhnbagldilaaGreatDoor
set_option linter.unusedVariables false
set_option linter.unusedSimpArgs false
set_option maxRecDepth 100000
namespace Go.Proofs.YtdcfhnbagldilaaGreatDoor
open Go.RowKit Go.Shelf
namespace Ms
open Oc Tg _root_.Go.Proofs.YtdcfhnbagldilaaGreatDoor.Fd _root_.Go.Proofs.YtdcfhnbagldilaaGreatDoor.Ck
end Ms
end Go.Proofs.YtdcfhnbagldilaaGreatDoor
