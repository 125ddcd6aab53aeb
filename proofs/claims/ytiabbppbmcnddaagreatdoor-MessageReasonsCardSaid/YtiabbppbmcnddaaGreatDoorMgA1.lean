/- Several texts as one. -/
import Derived.Test.YtiabbppbmcnddaaGreatDoorMgZ
import Derived.Test.YtiabbppbmcnddaaGreatDoorMgO
import Derived.Lib.AppendZeros
import Derived.Test.YtiabbppbmcnddaaGreatDoorMgK
import Derived.Shelf.Spec.SlicesGrow
import Derived.Ground.Names8Prog
import Derived.Shelf.SlGeneric
import Derived.Test.YtiabbppbmcnddaaGreatDoorProg
/-
  message: slices.Grow of no fields, slices.Concat of two lists of fields.
-/
set_option linter.unusedVariables false
set_option linter.unusedSimpArgs false
set_option maxRecDepth 100000
namespace Go.Proofs.YtiabbppbmcnddaaGreatDoor
open Go.RowKit Go.Shelf
namespace Ms
open Oc Tg _root_.Go.Proofs.YtiabbppbmcnddaaGreatDoor.Fd _root_.Go.Proofs.YtiabbppbmcnddaaGreatDoor.Ck

set_option maxHeartbeats 2000000 in
theorem Grow_nil (k : Nat) (hk : k ≤ 2147483648) (w : World) :
    Calls Tryz.prog 70 #[.slice none 0 0, .int .i64 (k : Int)] w fun e w' => ∃ v, e = .returned v ∧ OwnF 66 w.heap.size v [] w' ∧ Below w.heap.size w w' := by
  by_cases h0 : k = 0
  · subst h0
    go_enter Tryz.func70, Tryz.ntmps70
    go_wp2
    go_ret
    exact ⟨_, rfl, ownF_nil _ _ _, Below.refl _ _⟩
  · obtain ⟨i0, hi, hz0, hz1, hz2⟩ := info_parts infoF
    have hrun := fun ty => Lib.run_append_nil_zeros (P := Tryz.prog) w 26 3 ty 66 i0 (.agg #[.string ⟨#[]⟩, .string ⟨#[]⟩]) .i64 .i64 Tryz.underlying26 Tryz.underlying3 hi hz0 k (by omega) (by rw [hz1]; omega) (by omega) (by rw [hz2]; omega)
    have hge := grownCap_ge w k 0 66
    have hle := grownCap_le_maxLen w k 0 66 (by unfold maxLen; omega)
    generalize grownCap w k 0 66 = cp at *
    have HO : Hid (OwnF 66 w.heap.size (.slice (some ⟨w.heap.size, 0, none⟩) 0 cp) [] (w.drew.alloc (.cells (Builtin.zeroCells (Value.agg #[.string ⟨#[]⟩, .string ⟨#[]⟩]).cells k ++ Builtin.zeroCells (Value.agg #[.string ⟨#[]⟩, .string ⟨#[]⟩]).cells (cp - k)) 66))) := by
      refine ⟨rfl, .inr ⟨w.heap.size, cp, _, rfl, Nat.le_refl _, heap_alloc_new w.drew _, Nat.zero_le _, hle, ?_, rfl⟩⟩
      have hz1 : (Value.agg #[.string ⟨#[]⟩, .string ⟨#[]⟩]).cells.size = 2 := rfl
      simp only [Array.size_append, size_zeroCells, hz1]
      omega
    have HB : Hid (Below w.heap.size w (w.drew.alloc (.cells (Builtin.zeroCells (Value.agg #[.string ⟨#[]⟩, .string ⟨#[]⟩]).cells k ++ Builtin.zeroCells (Value.agg #[.string ⟨#[]⟩, .string ⟨#[]⟩]).cells (cp - k)) 66))) := (Below.refl _ w).drew.alloc (Nat.le_refl _) _
    obtain ⟨W, hW⟩ : ∃ W, W = w.drew.alloc (.cells (Builtin.zeroCells (Value.agg #[.string ⟨#[]⟩, .string ⟨#[]⟩]).cells k ++ Builtin.zeroCells (Value.agg #[.string ⟨#[]⟩, .string ⟨#[]⟩]).cells (cp - k)) 66) := ⟨_, rfl⟩
    rw [← hW] at HO HB
    have hrun2 : ∀ ty, (Builtin.append_ #[26, 3] ty #[.slice none 0 0, .int .i64 (k : Int)]).run Tryz.prog w = .ok (.slice (some ⟨w.heap.size, 0, none⟩) k cp) W := fun ty => by rw [hW]; exact hrun ty
    clear hrun hW
    have hk0 : 0 < (k : Int) := by omega
    have hk1 : ¬ (k : Int) < 0 := by omega
    unfold maxLen at hle
    go_enter Tryz.func70, Tryz.ntmps70
    go_wp2_with (at_builtin; refine Lib.wpList_append_run _ rfl _ _ _ _ rfl _ _ rfl rfl _ _ (hrun2 _) ?_)
    go_ret
    exact ⟨_, rfl, HO.out, HB.out⟩

set_option maxHeartbeats 4000000 in
theorem Concat_two (v1 v2 : Value) (t1 t2 : List Fl) (b : Nat) (w : World) (h1 : InF v1 t1 w) (h2 : InF v2 t2 w) (hl : t1.length + t2.length ≤ 2147483648) (c0 : w.cell? ⟨b, 0, none⟩ = some v1) (c1 : w.cell? ⟨b, 1, none⟩ = some v2) :
    Calls Tryz.prog 45 #[.slice (some ⟨b, 0, none⟩) 2 2] w fun e w' => ∃ v, e = .returned v ∧ OwnF 66 w.heap.size v (t1 ++ t2) w' ∧ Below w.heap.size w w' := by
  have H1 : Hid (InF v1 t1 w) := h1
  have H2 : Hid (InF v2 t2 w) := h2
  have HC0 : Hid (w.cell? ⟨b, 0, none⟩ = some v1) := c0
  have HC1 : Hid (w.cell? ⟨b, 1, none⟩ = some v2) := c1
  obtain ⟨a1, k1, rfl, _⟩ := h1.1
  obtain ⟨a2, k2, rfl, _⟩ := h2.1
  clear h1 h2
  have HG : Hid (Calls _ _ _ _ _) := Grow_nil (t1.length + t2.length) hl w
  have hcs : (((t1.length + t2.length : Nat) : Int)) = (t1.length : Int) + (t2.length : Int) := by omega
  rw [hcs] at HG
  clear hcs
  go_enter Tryz.func45, Tryz.ntmps45
  go_wp2
  go_loopw [3, 11] (fun z i wr => Hid (wr = w) ∧ (i = .int .i64 0 ∧ z = .int .i64 0 ∨ i = .int .i64 1 ∧ z = .int .i64 (t1.length : Int) ∨ i = .int .i64 2 ∧ z = .int .i64 ((t1.length : Int) + (t2.length : Int)))) (fun _ i _ => 2 - (intOf i).toNat)
  case atStart => exact ⟨rfl, .inl ⟨rfl, rfl⟩⟩
  case round =>
    obtain ⟨hw, hrel⟩ := hrel
    obtain rfl : w = wr := hw.out.symm
    rcases hrel with ⟨rfl, rfl⟩ | ⟨rfl, rfl⟩ | ⟨rfl, rfl⟩
    · have hn : ¬ (t1.length : Int) < 0 := by omega
      go_wp2
      go_roundw
      case rel => exact ⟨trivial, .inr (.inl ⟨rfl, by simp⟩)⟩
      case measure => simp [intOf]
    · have hn : ¬ (t1.length : Int) + (t2.length : Int) < 0 := by omega
      go_wp2
      go_roundw
      case rel => exact ⟨trivial, .inr (.inr ⟨rfl, rfl⟩)⟩
      case measure => simp [intOf]
    · go_wp2_with fail
      refine HG.out.mono ?_
      rintro e w1 ⟨v, rfl, ho1, hb1⟩
      have HO1 : Hid (OwnF 66 w.heap.size v [] w1) := ho1
      have HB1 : Hid (Below w.heap.size w w1) := hb1
      clear ho1 hb1 hw
      go_wp2
      go_loopw [6, 27] (fun v i wr => ∃ t : List Fl, (i = .int .i64 0 ∧ t = [] ∨ i = .int .i64 1 ∧ t = t1 ∨ i = .int .i64 2 ∧ t = t1 ++ t2) ∧ Hid (OwnF 66 w.heap.size v t wr) ∧ Hid (Below w.heap.size w wr)) (fun _ i _ => 2 - (intOf i).toNat)
      case atStart => exact ⟨[], .inl ⟨rfl, rfl⟩, HO1, HB1⟩
      case round =>
        rename_i v6 i6
        obtain ⟨t, hit, hown, hbl⟩ := hrel
        rcases hit with ⟨rfl, rfl⟩ | ⟨rfl, rfl⟩ | ⟨rfl, rfl⟩
        ·
          obtain ⟨ax, cx, rfl⟩ := ownF_form hown.out
          have hsz := hbl.out.size
          have cb : wr.cell? ⟨b, 0, none⟩ = some (.slice a1 t1.length k1) := by rw [hbl.out.cell (World.block_lt_of_cell? w _ HC0.out)]; exact HC0.out
          have HIn : Hid (InF (.slice a1 t1.length k1) t1 wr) := H1.out.below hbl.out
          go_wp2_with (at_builtin; go_must (refine wp_appFs 66 26 infoF Tryz.underlying26 rfl (.tmp 31) (.tmp 32) rfl w.heap.size _ _ [] t1 rfl hown.out rfl HIn.out (by first | omega | (simp; omega)) hsz ?_); intro v5 w5 o5 b5)
          have O5 : Hid (OwnF 66 w.heap.size v5 t1 w5) := o5
          have B5 : Hid (Below w.heap.size w w5) := hbl.out.trans b5
          clear o5 b5 cb
          go_roundw
          case rel => exact ⟨t1, .inr (.inl ⟨rfl, rfl⟩), O5, B5⟩
          case measure => simp [intOf]
        ·
          obtain ⟨ax, cx, rfl⟩ := ownF_form hown.out
          have hsz := hbl.out.size
          have cb : wr.cell? ⟨b, 1, none⟩ = some (.slice a2 t2.length k2) := by rw [hbl.out.cell (World.block_lt_of_cell? w _ HC1.out)]; exact HC1.out
          have HIn : Hid (InF (.slice a2 t2.length k2) t2 wr) := H2.out.below hbl.out
          go_wp2_with (at_builtin; go_must (refine wp_appFs 66 26 infoF Tryz.underlying26 rfl (.tmp 31) (.tmp 32) rfl w.heap.size _ _ t t2 rfl hown.out rfl HIn.out (by first | omega | (simp; omega)) hsz ?_); intro v5 w5 o5 b5)
          have O5 : Hid (OwnF 66 w.heap.size v5 (t ++ t2) w5) := o5
          have B5 : Hid (Below w.heap.size w w5) := hbl.out.trans b5
          clear o5 b5 cb
          go_roundw
          case rel => exact ⟨t ++ t2, .inr (.inr ⟨rfl, rfl⟩), O5, B5⟩
          case measure => simp [intOf]
        · go_wp2
          go_ret
          exact ⟨_, rfl, hown.out, hbl.out⟩

end Ms
end Go.Proofs.YtiabbppbmcnddaaGreatDoor

/-
  chunk: a decoder, plain: what stays within bounds; bytes in a row.
-/
set_option linter.unusedVariables false
set_option linter.unusedSimpArgs false
set_option maxRecDepth 100000
namespace Go.Proofs.YtiabbppbmcnddaaGreatDoor
open Go.RowKit Go.Shelf Go.Lib
namespace Ck
open Oc Tg _root_.Go.Proofs.YtiabbppbmcnddaaGreatDoor.Fd

theorem Ok.fin {s : DS} {k : Nat} (h : Ok s k) (e : Int) : Ok (fin s e) k := by
  refine ⟨Nat.le_refl _, h.most, h.room, h.fields, h.left, (fun h => by cases h), h.total, ?_, (fun h => absurd h (by show ¬ (5 : Nat) ≤ 3; decide)), (fun _ => rfl), ?_⟩
  · have := h.len
    show 0 + s.body.length + s.tr.length ≤ k
    omega
  · refine ⟨fun _ => ?_, fun _ => rfl⟩
    show (e == 0) = true ∨ e ≠ 0
    by_cases h : e = 0
    · exact .inl (by simp [h])
    · exact .inr h
theorem Ok.mono {s : DS} {k m : Nat} (h : Ok s k) (hm : k ≤ m) : Ok s m := ⟨h.mode, h.most, h.room, h.fields, h.left, h.pos, ⟨h.total.1, by have := h.total.2; omega⟩, by have := h.len; omega, h.size, h.bare, h.over⟩
theorem Ok.new (most room fields : Int) (h1 : 0 ≤ most ∧ most ≤ 9223372036854775807) (h2 : 0 ≤ room ∧ room ≤ 9223372036854775807) (h3 : 0 ≤ fields ∧ fields ≤ 9223372036854775807) : Ok (new most room fields) 0 := by
  refine ⟨Nat.zero_le _, h1, h2, h3, ⟨by show (0 : Int) ≤ 0; decide, by show (0 : Int) ≤ 1099511627776; decide⟩, (fun h => by cases h), ⟨by show (0 : Int) ≤ 0; decide, by show (0 : Int) ≤ 0; decide⟩, Nat.le_refl _, (fun _ => by show 0 < 256; decide), (fun _ => rfl), ?_⟩
  constructor
  · intro h; cases h
  · rintro (h | h)
    · cases h
    · exact absurd rfl h
theorem Ok.live {s : DS} {k : Nat} (h : Ok s k) (hm : s.mode ≠ 5) : s.done = false ∧ s.err = 0 := by
  constructor
  · cases hd : s.done with
    | false => rfl
    | true => exact absurd (h.over.2 (.inl hd)) hm
  · by_cases he : s.err = 0
    · exact he
    · exact absurd (h.over.2 (.inr he)) hm
theorem notOver {s : DS} {k : Nat} (h : Ok s k) (hm : s.mode ≠ 5) : ¬ (s.done = true ∨ s.err ≠ 0) := fun e => hm (h.over.2 e)

/-- A decoder that is not over, its line aside. -/
theorem Ok.re {s s' : DS} {k m : Nat} (h : Ok s k) (hm : s.mode ≠ 5) (hm' : s'.mode < 5) (hmo : 0 ≤ s'.most ∧ s'.most ≤ 9223372036854775807) (hro : 0 ≤ s'.room ∧ s'.room ≤ 9223372036854775807) (hfi : 0 ≤ s'.fields ∧ s'.fields ≤ 9223372036854775807)
    (hle : 0 ≤ s'.left ∧ s'.left ≤ 1099511627776) (hpo : s'.mode = 1 → 0 < s'.left) (hto : s'.total = s.total) (hlen : s'.line.length + s'.body.length + s'.tr.length ≤ m) (hkm : k ≤ m) (hsz : s'.mode ≤ 3 → s'.line.length < 256) (hba : s'.mode = 1 ∨ s'.mode = 2 ∨ s'.mode = 3 → s'.line = [])
    (hd : s'.done = s.done) (he : s'.err = s.err) : Ok s' m := by
  have ht := h.total
  refine ⟨by omega, hmo, hro, hfi, hle, hpo, by rw [hto]; omega, hlen, hsz, hba, ?_⟩
  rw [hd, he]
  exact ⟨fun e => by omega, fun e => absurd e (notOver h hm)⟩

theorem endSize_ok {s : DS} {k : Nat} (h : Ok { s with line := [] } k) (hm : s.mode ≠ 5) : Ok (endSize s) k := by
  have hq := sizeR_bd (said s)
  have hmo := h.most
  have hl := h.len
  simp only at hmo hl
  unfold endSize
  split
  · exact h.fin _
  · split
    · exact h.fin _
    · split
      · exact h.fin _
      · split
        · exact h.re hm (by show 4 < 5; decide) h.most h.room h.fields h.left (fun e => by cases e) rfl h.len (Nat.le_refl _) (fun e => by simp at e) (fun e => by simp at e) rfl rfl
        · rename_i h1 h2 h3 h4
          refine h.re hm (by show 1 < 5; decide) ⟨?_, ?_⟩ h.room h.fields ⟨?_, ?_⟩ (fun _ => ?_) rfl h.len (Nat.le_refl _) (fun _ => by show 0 < 256; decide) (fun _ => rfl) rfl rfl
          · show 0 ≤ s.most - (sizeR (said s)).1; omega
          · show s.most - (sizeR (said s)).1 ≤ _; omega
          · show 0 ≤ (sizeR (said s)).1; omega
          · show (sizeR (said s)).1 ≤ _; omega
          · show 0 < (sizeR (said s)).1; omega

theorem Ok.clear {s : DS} {k : Nat} (h : Ok s k) : Ok { s with line := [] } k :=
  ⟨h.mode, h.most, h.room, h.fields, h.left, h.pos, h.total, by have := h.len; show 0 + s.body.length + s.tr.length ≤ k; omega, (fun _ => by show 0 < 256; decide), (fun _ => rfl), h.over⟩

theorem inSize_ok {s : DS} {k : Nat} (h : Ok s k) (hm : s.mode = 0) (c : UInt8) : Ok (inSize s c) (k + 1) := by
  have hl := h.len
  have hz := h.size (by omega)
  unfold inSize
  split
  · exact endSize_ok (s := put s c) (h.clear.mono (Nat.le_succ _)) (by show s.mode ≠ 5; omega)
  · split
    · exact (h.clear.fin 100).mono (Nat.le_succ _)
    · refine h.re (by omega) (by show s.mode < 5; omega) h.most h.room h.fields h.left (fun e => h.pos e) rfl ?_ (Nat.le_succ _) (fun _ => ?_) (fun e => ?_) rfl rfl
      · show (s.line ++ [c]).length + s.body.length + s.tr.length ≤ k + 1
        simp; omega
      · show (s.line ++ [c]).length < 256
        simp; omega
      · have e' : s.mode = 1 ∨ s.mode = 2 ∨ s.mode = 3 := e
        omega
theorem inChunk_ok {s : DS} {k : Nat} (h : Ok s k) (hm : s.mode = 1) (t : List UInt8) (ht : (t.length : Int) ≤ s.left) : Ok (inChunk s t) (k + t.length) := by
  have hl := h.len
  have hle := h.left
  have hb := h.bare (by omega)
  refine h.re (by omega) ?_ h.most h.room h.fields ⟨?_, ?_⟩ ?_ rfl ?_ (by omega) ?_ ?_ rfl rfl
  · show (if s.left - (t.length : Int) = 0 then 2 else 1) < 5
    split <;> decide
  · show 0 ≤ s.left - (t.length : Int); omega
  · show s.left - (t.length : Int) ≤ _; omega
  · intro e
    show 0 < s.left - (t.length : Int)
    have e' : (if s.left - (t.length : Int) = 0 then 2 else 1) = 1 := e
    split at e'
    · cases e'
    · omega
  · show s.line.length + (s.body ++ t).length + s.tr.length ≤ k + t.length
    simp; omega
  · intro _; show s.line.length < 256; rw [hb]; decide
  · intro _; exact hb
theorem behindChunk_ok {s : DS} {k : Nat} (h : Ok s k) (hm : s.mode = 2) (c : UInt8) : Ok (behindChunk s c) (k + 1) := by
  have hl := h.len
  have hb := h.bare (by omega)
  have h3 : Ok { s with mode := 3 } (k + 1) := h.re (by omega) (by show 3 < 5; decide) h.most h.room h.fields h.left (fun e => by cases e) rfl (by show s.line.length + s.body.length + s.tr.length ≤ _; omega) (Nat.le_succ _) (fun _ => by show s.line.length < 256; rw [hb]; decide) (fun _ => hb) rfl rfl
  unfold behindChunk
  split
  · exact h3
  · exact h3.fin _
theorem behindReturn_ok {s : DS} {k : Nat} (h : Ok s k) (hm : s.mode = 3) (c : UInt8) : Ok (behindReturn s c) (k + 1) := by
  have hl := h.len
  have hb := h.bare (by omega)
  have h3 : Ok { s with mode := 0 } (k + 1) := h.re (by omega) (by show 0 < 5; decide) h.most h.room h.fields h.left (fun e => by cases e) rfl (by show s.line.length + s.body.length + s.tr.length ≤ _; omega) (Nat.le_succ _) (fun _ => by show s.line.length < 256; rw [hb]; decide) (fun e => hb) rfl rfl
  unfold behindReturn
  split
  · exact h3
  · exact h3.fin _
theorem keep_ok {s : DS} {k : Nat} (h : Ok s k) (hm : s.mode = 4) (hf : s.fields ≠ 0) (l : List UInt8) (hl : s.line.length + s.body.length + s.tr.length + 1 ≤ k) : Ok (keep s l) k := by
  have hfi := h.fields
  unfold keep
  split
  · exact h.fin _
  · refine h.re (by omega) (by show s.mode < 5; omega) h.most h.room ⟨?_, ?_⟩ h.left (fun e => h.pos e) rfl ?_ (Nat.le_refl _) (fun e => ?_) (fun e => ?_) rfl rfl
    · show 0 ≤ s.fields - 1; omega
    · show s.fields - 1 ≤ _; omega
    · show s.line.length + s.body.length + (s.tr ++ [(parseL l).1]).length ≤ k
      simp; omega
    · have e' : s.mode ≤ 3 := e
      omega
    · have e' : s.mode = 1 ∨ s.mode = 2 ∨ s.mode = 3 := e
      omega
theorem endTrailer_ok {s : DS} {k : Nat} (h : Ok { s with line := [] } k) (hm : s.mode = 4) (hl : s.body.length + s.tr.length + 1 ≤ k) : Ok (endTrailer s) k := by
  unfold endTrailer
  split
  · exact h.fin _
  · split
    · exact h.fin _
    · split
      · exact h.fin _
      · rename_i h3
        exact keep_ok h hm h3 _ (by show 0 + s.body.length + s.tr.length + 1 ≤ k; omega)
theorem inTrailers_ok {s : DS} {k : Nat} (h : Ok s k) (hm : s.mode = 4) (c : UInt8) : Ok (inTrailers s c) (k + 1) := by
  have hl := h.len
  have hr := h.room
  unfold inTrailers
  split
  · exact (h.fin _).mono (Nat.le_succ _)
  · rename_i h0
    have h1 : Ok { s with room := s.room - 1 } k := h.re (by omega) (by show s.mode < 5; omega) h.most ⟨by show 0 ≤ s.room - 1; omega, by show s.room - 1 ≤ _; omega⟩ h.fields h.left (fun e => h.pos e) rfl h.len (Nat.le_refl _) (fun e => h.size e) (fun e => h.bare e) rfl rfl
    split
    · exact endTrailer_ok (s := put { s with room := s.room - 1 } c) (h1.clear.mono (Nat.le_succ _)) hm (by show s.body.length + s.tr.length + 1 ≤ k + 1; omega)
    · refine h1.re (by show s.mode ≠ 5; omega) (by show s.mode < 5; omega) h1.most h1.room h1.fields h1.left (fun e => h1.pos e) rfl ?_ (Nat.le_succ _) (fun e => ?_) (fun e => ?_) rfl rfl
      · show (s.line ++ [c]).length + s.body.length + s.tr.length ≤ k + 1
        simp; omega
      · have e' : s.mode ≤ 3 := e
        omega
      · have e' : s.mode = 1 ∨ s.mode = 2 ∨ s.mode = 3 := e
        omega
theorem mode_cases {s : DS} {k : Nat} (h : Ok s k) (hm : s.mode ≠ 5) : s.mode = 0 ∨ s.mode = 1 ∨ s.mode = 2 ∨ s.mode = 3 ∨ s.mode = 4 := by
  have := h.mode
  omega
theorem bstep_ok {s : DS} {k : Nat} (h : Ok s k) (hm : s.mode ≠ 5) (c : UInt8) : Ok (bstep s c) (k + 1) := by
  unfold bstep
  rcases mode_cases h hm with e | e | e | e | e
  · rw [e]; exact inSize_ok h e c
  · rw [e]; exact inChunk_ok h e [c] (by have := h.pos e; simp; omega)
  · rw [e]; exact behindChunk_ok h e c
  · rw [e]; exact behindReturn_ok h e c
  · rw [e]; exact inTrailers_ok h e c

theorem eat_nil (s : DS) : eat s [] = (0, s) := by rw [eat]
theorem eat_over {s : DS} (h : s.mode = 5) (l : List UInt8) : eat s l = (0, s) := by
  cases l with
  | nil => exact eat_nil s
  | cons c t => rw [eat, if_pos h]
theorem eat_cons {s : DS} (h : s.mode ≠ 5) (c : UInt8) (t : List UInt8) : eat s (c :: t) = ((eat (bstep s c) t).1 + 1, (eat (bstep s c) t).2) := by rw [eat, if_neg h]
theorem eat_le : ∀ (l : List UInt8) (s : DS), (eat s l).1 ≤ l.length
  | [], s => by rw [eat_nil]; exact Nat.le_refl _
  | c :: t, s => by
    by_cases h : s.mode = 5
    · rw [eat_over h]; exact Nat.zero_le _
    · rw [eat_cons h]; have := eat_le t (bstep s c); simp; omega
theorem eat_ok : ∀ (l : List UInt8) (s : DS) (k : Nat), Ok s k → Ok (eat s l).2 (k + (eat s l).1)
  | [], s, k, h => by rw [eat_nil]; exact h
  | c :: t, s, k, h => by
    by_cases hm : s.mode = 5
    · rw [eat_over hm]; exact h
    · rw [eat_cons hm]
      have := eat_ok t (bstep s c) (k + 1) (bstep_ok h hm c)
      rw [show k + ((eat (bstep s c) t).1 + 1) = k + 1 + (eat (bstep s c) t).1 by omega]
      exact this
/-- Bytes in two parts. -/
theorem eat_app : ∀ (a b : List UInt8) (s : DS), eat s (a ++ b) = ((eat s a).1 + (eat (eat s a).2 b).1, (eat (eat s a).2 b).2)
  | [], b, s => by rw [eat_nil]; simp
  | c :: a, b, s => by
    by_cases hm : s.mode = 5
    · rw [eat_over hm, eat_over hm]
      simp [eat_over hm]
    · rw [List.cons_append, eat_cons hm, eat_cons hm, eat_app a b (bstep s c)]
      simp; omega
/-- What is not taken makes it over. -/
theorem eat_all : ∀ (l : List UInt8) (s : DS), (eat s l).2.mode ≠ 5 → (eat s l).1 = l.length
  | [], s, _ => by rw [eat_nil]; rfl
  | c :: t, s, h => by
    by_cases hm : s.mode = 5
    · rw [eat_over hm] at h; exact absurd hm h
    · rw [eat_cons hm] at h ⊢
      have := eat_all t (bstep s c) h
      simp [this]

theorem inChunk_cons {s : DS} {k : Nat} (h : Ok s k) (hm : s.mode = 1) (c d : UInt8) (t : List UInt8) (ht : ((c :: d :: t).length : Int) ≤ s.left) : inChunk (inChunk s [c]) (d :: t) = inChunk s (c :: d :: t) := by
  unfold inChunk
  simp only [List.length_cons, List.length_nil, List.append_assoc, List.singleton_append]
  have e : s.left - ((0 + 1 : Nat) : Int) - ((t.length + 1 : Nat) : Int) = s.left - ((t.length + 1 + 1 : Nat) : Int) := by omega
  simp only [e]
/-- Bytes of a chunk, at once. -/
theorem eat_chunk : ∀ (t r : List UInt8) (s : DS) (k : Nat), Ok s k → s.mode = 1 → t ≠ [] → (t.length : Int) ≤ s.left → eat s (t ++ r) = (t.length + (eat (inChunk s t) r).1, (eat (inChunk s t) r).2)
  | [], r, s, k, h, hm, hn, ht => absurd rfl hn
  | [c], r, s, k, h, hm, hn, ht => by
    have e : bstep s c = inChunk s [c] := by unfold bstep; rw [hm]; rfl
    rw [List.singleton_append, eat_cons (by omega), e]
    simp; omega
  | c :: d :: t, r, s, k, h, hm, hn, ht => by
    have e : bstep s c = inChunk s [c] := by unfold bstep; rw [hm]; rfl
    have hk := inChunk_ok h hm [c] (by simp at ht ⊢; omega)
    have hm1 : (inChunk s [c]).mode = 1 := by
      show (if s.left - (([c] : List UInt8).length : Int) = 0 then 2 else 1) = 1
      rw [if_neg (by simp at ht ⊢; omega)]
    rw [List.cons_append, eat_cons (by omega), e, eat_chunk (d :: t) r (inChunk s [c]) _ hk hm1 (by simp) (by show _ ≤ s.left - (([c] : List UInt8).length : Int); simp at ht ⊢; omega), inChunk_cons h hm c d t ht]
    simp; omega

end Ck
end Go.Proofs.YtiabbppbmcnddaaGreatDoor

/-
  DERIVED: THE SHELF's CONTRACTS AT THIS DUMP, IN PLAIN WORDS (tools/lay-plain.mjs out of 'TryzShelf.lean', which tools/lay-shelf.mjs wrote): THE SAME DECLARATIONS UNDER THE SAME NAMES: 'import', 'namespace', 'open', 'def', 'theorem' AND NOTHING ELSE: no command of the shelf's: FOR A HAND-IN. Each laying: the table of numbers ('.._ren') and one theorem, a field a fact of the dump's own or the kernel's comparison; each contract: ONE APPLICATION.
-/
namespace Go.Proofs
open Go.Shelf
def Tryz.growB_ren : Go.Shelf.Ren := ⟨fun | 4 => 207 | n => n, fun | 22 => 81 | 25 => 5 | 3 => 3 | 4 => 4 | 9 => 9 | 20 => 20 | 0 => 0 | n => n, fun | n => n⟩
theorem Tryz.growB : Go.Proofs.Lays8.n4 Tryz.prog Tryz.growB_ren := {
  mixed := by kernel_rfl
  f4 := ⟨Tryz.f207.name, by decide, Tryz.func207.trans (congrArg some (by kernel_rfl))⟩
  t0 := Tryz.underlying0
  a0 := Tryz.isAgg0
  z0 := Tryz.sizeOf0
  v0 := Tryz.zeroValue0
  t3 := Tryz.underlying3
  a3 := Tryz.isAgg3
  z3 := Tryz.sizeOf3
  v3 := Tryz.zeroValue3
  t4 := Tryz.underlying4
  a4 := Tryz.isAgg4
  z4 := Tryz.sizeOf4
  v4 := Tryz.zeroValue4
  t9 := Tryz.underlying9
  a9 := Tryz.isAgg9
  z9 := Tryz.sizeOf9
  v9 := Tryz.zeroValue9
  t20 := Tryz.underlying20
  a20 := Tryz.isAgg20
  z20 := Tryz.sizeOf20
  v20 := Tryz.zeroValue20
  t22 := Tryz.underlying81
  a22 := Tryz.isAgg81
  z22 := Tryz.sizeOf81
  v22 := Tryz.zeroValue81 }
end Go.Proofs
