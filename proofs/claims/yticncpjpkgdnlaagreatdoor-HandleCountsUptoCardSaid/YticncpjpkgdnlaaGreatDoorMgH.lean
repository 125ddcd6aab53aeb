/- Several texts as one. -/
import Derived.Test.YticncpjpkgdnlaaGreatDoorGBd
import Derived.Stop.RegionWithIn
import Derived.Test.YticncpjpkgdnlaaGreatDoorMgB
/-
  target: Encode.
-/
set_option linter.unusedVariables false
set_option linter.unusedSimpArgs false
namespace Go.Proofs.YticncpjpkgdnlaaGreatDoor
open Go.RowKit Go.Shelf
namespace Tg
open Oc

theorem cls_unr {c : UInt8} (h : unr c = true) : cls c = 1 := by unfold cls; rw [if_pos h]
theorem cls_not {c : UInt8} (h : unr c = false) : (cls c == 1) = false := by
  unfold cls
  rw [if_neg (by simp [h])]
  (repeat' split) <;> decide
theorem take_enc (s : ByteArray) (k : Nat) (h : k < s.size) : enc (s.data.toList.take (k + 1)) = enc (s.data.toList.take k) ++ encB (s.data.toList.getD k 0) := by
  rw [take_snoc s k h, enc_append]; simp [enc]
theorem digits_at (n : Nat) (h : n < 16) : ∀ (h' : n < (⟨#[48, 49, 50, 51, 52, 53, 54, 55, 56, 57, 65, 66, 67, 68, 69, 70]⟩ : ByteArray).size), (⟨#[48, 49, 50, 51, 52, 53, 54, 55, 56, 57, 65, 66, 67, 68, 69, 70]⟩ : ByteArray)[n] = hd n := fun h' => (at_lt _ n h').symm

set_option maxRecDepth 100000 in
set_option maxHeartbeats 4000000 in
theorem Encode_any (s : ByteArray) (hs : s.size ≤ 40000000000) (w : World) :
    Calls Tryz.prog 48 #[.string s] w fun e w' => e = .returned (.string (str (enc s.data.toList))) ∧ Below w.heap.size w w' := by
  have hcv := fun w => Lib.run_convert_string_bytes (P := Tryz.prog) w 9 42 5 s Tryz.underlying9 Tryz.underlying42 Tryz.underlying5
  have hr := bytes_row (w.alloc (.cells #[.pointer none, .slice none 0 0] 58)) 5 s
  have hbb := below_bytes (w.alloc (.cells #[.pointer none, .slice none 0 0] 58)) 5 s
  have hbd := (Bd.new w (w.heap.size + 2)).below hbb
  have hbw : Below w.heap.size w (Lib.bytesWorld (w.alloc (.cells #[.pointer none, .slice none 0 0] 58)) 5 s) := ((Below.refl _ w).alloc (Nat.le_refl _) _).trans (hbb.mono (by simp))
  have hsz : (Lib.bytesWorld (w.alloc (.cells #[.pointer none, .slice none 0 0] 58)) 5 s).heap.size = w.heap.size + 2 := by rw [Lib.bytesWorld_size, World.size_alloc]
  rw [World.size_alloc] at hr
  have HR : Hid (_) := hr
  have HBD : Hid (_) := hbd
  have HBW : Hid (_) := hbw
  have HSZ : Hid (_) := hsz
  clear hr hbd hbw hbb hsz
  go_enter Tryz.func48, Tryz.ntmps48
  go_wp2
  go_loopw [9] (fun i wr => ∃ k : Nat, k ≤ s.size ∧ i = .int .i64 k ∧ Hid (Bd (w.heap.size + 2) w.heap.size (Lib.byteCells (enc (s.data.toList.take k))) wr) ∧ Hid (Keep (w.heap.size + 1) (Lib.bytesWorld (w.alloc (.cells #[.pointer none, .slice none 0 0] 58)) 5 s) wr) ∧ Hid (Below w.heap.size w wr) ∧ Hid (w.heap.size + 2 ≤ wr.heap.size)) (fun i _ => s.size - (intOf i).toNat)
  case atStart => exact ⟨0, Nat.zero_le _, rfl, HBD, (rfl : Keep _ _ _), HBW, (by rw [HSZ.out]; exact Nat.le_refl _ : _ ≤ _)⟩
  case round =>
    obtain ⟨k, hk, rfl, hB, hK, hW, hS⟩ := hrel
    by_cases hlt : k < s.size
    · have hck := (hK.out.cell k).trans (HR.out.cell k hlt)
      have hb1 : (byt s k) = ((s.data.toList.getD k 0).toNat : Int) := rfl
      rw [hb1] at hck
      have HT : Hid (_) := take_enc s k hlt
      generalize s.data.toList.getD k 0 = c at *
      have hel := enc_len (s.data.toList.take k)
      have htl : (s.data.toList.take k).length ≤ s.size := by rw [List.length_take, size_list]; omega
      have HL : Hid (_) := hel
      clear hel
      have hcn := c.toNat_lt
      have HFIN : Hid (∀ w', Bd (w.heap.size + 2) w.heap.size (Lib.byteCells (enc (s.data.toList.take k)) ++ Lib.byteCells (encB c)) w' → Fr (w.heap.size + 2) w.heap.size wr w' → Hid (Bd (w.heap.size + 2) w.heap.size (Lib.byteCells (enc (s.data.toList.take (k + 1)))) w') ∧ Hid (Keep (w.heap.size + 1) (Lib.bytesWorld (w.alloc (.cells #[.pointer none, .slice none 0 0] 58)) 5 s) w') ∧ Hid (Below w.heap.size w w') ∧ Hid (w.heap.size + 2 ≤ w'.heap.size)) := fun w' h1 h2 =>
        ⟨(by rw [HT.out, cells_app]; exact h1 : Bd _ _ _ _), hK.out.trans (h2.keep (by omega) (by omega)), hW.out.trans (h2.below (by omega) (Nat.le_refl _)), Nat.le_trans hS.out h2.size⟩
      cases hu : unr c with
      | true =>
        have he : encB c = [c] := by unfold encB; rw [if_pos hu]
        have hcl := cls_unr hu
        have HC : Hid (∀ w, Calls Tryz.prog 84 #[.int .u8 (c.toNat : Int)] w fun e w' => e = .returned (.int .u8 1) ∧ w' = w) := fun w => by rw [← hcl]; exact classOf_any c w
        rw [he, cells_one] at HFIN
        go_wp2_with (first | (go_at_call 84; refine (HC.out _).mono ?_; rintro e w1 ⟨rfl, rfl⟩) | (go_at_call 82; refine (WriteByte_bd _ _ _ _ _ hB.out (by rw [cells_len]; have := HL.out; omega) hS.out).mono ?_; rintro e w2 ⟨rfl, hB2, hF2⟩; obtain ⟨q1, q2, q3, q4⟩ := HFIN.out _ hB2 hF2))
        go_roundw
        case rel => exact ⟨k + 1, by omega, by go_num, q1, q2, q3, q4⟩
        case measure => simp [intOf]; omega
      | false =>
        have he : encB c = [37, hd (c.toNat / 16), hd (c.toNat % 16)] := by unfold encB; rw [if_neg (by simp [hu])]
        have hcl := cls_not hu
        have HC : Hid (∀ w, Calls Tryz.prog 84 #[.int .u8 (c.toNat : Int)] w fun e w' => e = .returned (.int .u8 (cls c)) ∧ w' = w) := fun w => classOf_any c w
        generalize cls c = v at *
        have e3 : Lib.byteCells (encB c) = [Value.int .u8 37, .int .u8 ((hd (c.toNat / 16)).toNat : Int), .int .u8 ((hd (c.toNat % 16)).toNat : Int)] := by rw [he]; rfl
        rw [e3] at HFIN
        go_wp2_with (first | (go_at_call 84; refine (HC.out _).mono ?_; rintro e w1 ⟨rfl, rfl⟩) | fail)
        refine (WriteByte_bd _ _ _ _ _ hB.out (by rw [cells_len]; have := HL.out; omega) hS.out).mono ?_
        rintro e w2 ⟨rfl, hB2, hF2⟩
        have HB2 : Hid (_) := hB2
        have HF2 : Hid (_) := hF2
        clear hB2 hF2
        go_wp2_with fail
        rw [digits_at (c.toNat / 16) (by omega)]
        refine (WriteByte_bd _ _ _ _ _ HB2.out (by rw [List.length_append, cells_len]; have := HL.out; simp; omega) (Nat.le_trans hS.out HF2.out.size)).mono ?_
        rintro e w3 ⟨rfl, hB3, hF3⟩
        have HB3 : Hid (_) := hB3
        have HF3 : Hid (_) := HF2.out.trans hF3
        clear hB3 hF3 HB2 HF2
        go_wp2_with fail
        rw [digits_at (c.toNat % 16) (by omega)]
        refine (WriteByte_bd _ _ _ _ _ HB3.out (by rw [List.length_append, List.length_append, cells_len]; have := HL.out; simp; omega) (Nat.le_trans hS.out HF3.out.size)).mono ?_
        rintro e w4 ⟨rfl, hB4, hF4⟩
        obtain ⟨q1, q2, q3, q4⟩ := HFIN.out _ (by simpa using hB4) (HF3.out.trans hF4)
        clear hB4 hF4
        go_wp2
        go_roundw
        case rel => exact ⟨k + 1, by omega, by go_num, q1, q2, q3, q4⟩
        case measure => simp [intOf]; omega
    · obtain rfl : k = s.size := by omega
      have hall : s.data.toList.take s.size = s.data.toList := List.take_of_length_le (by rw [size_list]; exact Nat.le_refl _)
      rw [hall] at hB
      clear hall
      go_wp2_with fail
      refine (String_bd _ _ _ _ hB.out hS.out).mono ?_
      rintro e w2 ⟨rfl, hb2, _⟩
      go_wp2
      go_ret
      exact ⟨rfl, hW.out.trans (hb2.mono (by omega))⟩

end Tg
end Go.Proofs.YticncpjpkgdnlaaGreatDoor

/-
  target: Decode.
-/
set_option linter.unusedVariables false
set_option linter.unusedSimpArgs false
namespace Go.Proofs.YticncpjpkgdnlaaGreatDoor
open Go.RowKit Go.Shelf
attribute [local go_sem] Oper.semAt_some
namespace Tg
open Oc

theorem box_fr {B b c : Nat} {t : TypeId} {v : Value} {w w' : World} (h : Boxed w c t v) (f : Fr B b w w') (hc : c < B) (hb : c ≠ b) : Boxed w' c t v := (f.block c hc hb).trans h
theorem box_below {n c : Nat} {t : TypeId} {v : Value} {w w' : World} (h : Boxed w c t v) (f : Below n w w') (hc : c < n) : Boxed w' c t v := (f.block c hc).trans h
theorem box_put {W : World} {b D : Nat} {t : TypeId} {v : Value} (h : Boxed W b t v) (hD : b ≠ D) (o : Obj) : (W.putObj D o).cell? ⟨b, 0, none⟩ = some v := by
  have e : (W.putObj D o).heap[b]? = W.heap[b]? := World.putObj_heap_other hD
  exact (World.cell?_of_block (w := W) (w' := W.putObj D o) (a := ⟨b, 0, none⟩) e).trans h.cell
theorem below_put {n : Nat} {w W : World} {D : Nat} (h : Below n w W) (hD : n ≤ D) (o : Obj) : Below n w (W.putObj D o) := ⟨h.os, h.tape, h.output, by have := h.size; simpa [World.putObj] using this, fun k hk => (World.putObj_heap_other (by omega)).trans (h.block k hk)⟩
theorem fr_wide {B b : Nat} {w w' : World} (h : Below w.heap.size w w') (hB : B ≤ w.heap.size) : Fr B b w w' := Fr.of_below h hB
def lastAt (pre : List Sg) : Nat := (pre.getLast?.map Sg.at_).getD 0
theorem lastAt_app (pre : List Sg) (x : Sg) : lastAt (pre ++ [x]) = x.at_ := by simp [lastAt]
theorem valS_one {x : Sg} {c : UInt8} (h : x.z = [c]) : valS x = [c] := by unfold valS; rw [h]
theorem valS_three {x : Sg} {a b c : UInt8} (h : x.z = [a, b, c]) : valS x = [byteOf b c] := by unfold valS; rw [h]
theorem bad_iff (x : Sg) : bad x = true ↔ x.z = [37] := by unfold bad; simp
theorem vals_len (pre : List Sg) : (pre.flatMap valS).length = pre.length := by
  induction pre with
  | nil => rfl
  | cons x r ih => rw [List.flatMap_cons, List.length_append, ih, valS_len]; simp; omega
theorem decR_all (l : List UInt8) (h : ∀ x ∈ sg 0 l, bad x = false) : decR l = ((sg 0 l).flatMap valS, 0, 0) := by
  unfold decR
  rw [List.find?_eq_none.2 (fun x hx => by rw [h x hx]; simp)]
theorem decR_at (l : List UInt8) (pre : List Sg) (x : Sg) (rest : List Sg) (e : pre ++ [x] ++ rest = sg 0 l) (h : ∀ y ∈ pre, bad y = false) (hx : bad x = true) : decR l = ([], x.at_, 51) := by
  unfold decR
  rw [← e, List.append_assoc, List.find?_append, List.find?_eq_none.2 (fun y hy => by rw [h y hy]; simp)]
  simp [hx]

set_option maxRecDepth 100000 in
set_option maxHeartbeats 8000000 in
theorem Decode_any (s : ByteArray) (hs : s.size ≤ 40000000000) (w : World) :
    Calls Tryz.prog 47 #[.string s] w fun e w' => e = .returned (.tuple #[.string (str (decR s.data.toList).1), .int .i64 ((decR s.data.toList).2.1 : Int), .int .i64 (decR s.data.toList).2.2]) ∧ Below w.heap.size w w' := by
  obtain ⟨w5, hw5⟩ : ∃ w5, w5 = (((((w.alloc (.cells #[.string ⟨#[]⟩] 9)).alloc (.cells #[.int .i64 0] 3)).alloc (.cells #[.int .i64 0] 53)).alloc (.cells #[.pointer none, .slice none 0 0] 58)).alloc (.cells #[.string s] 9)) := ⟨_, rfl⟩
  have hsz5 : w5.heap.size = w.heap.size + 5 := by rw [hw5]; simp
  have b0 : Boxed w5 w.heap.size 9 (.string ⟨#[]⟩) := by rw [hw5]; exact ((((Boxed.new w _ _).alloc _).alloc _).alloc _).alloc _
  have b1 : Boxed w5 (w.heap.size + 1) 3 (.int .i64 0) := by rw [hw5]; have := (((Boxed.new (w.alloc (.cells #[.string ⟨#[]⟩] 9)) 3 (.int .i64 0)).alloc (.cells #[.int .i64 0] 53)).alloc (.cells #[.pointer none, .slice none 0 0] 58)).alloc (.cells #[.string s] 9); rwa [World.size_alloc] at this
  have b2 : Boxed w5 (w.heap.size + 2) 53 (.int .i64 0) := by rw [hw5]; have := ((Boxed.new ((w.alloc (.cells #[.string ⟨#[]⟩] 9)).alloc (.cells #[.int .i64 0] 3)) 53 (.int .i64 0)).alloc (.cells #[.pointer none, .slice none 0 0] 58)).alloc (.cells #[.string s] 9); rwa [World.size_alloc, World.size_alloc] at this
  have b3 : Bd (w.heap.size + 5) (w.heap.size + 3) [] w5 := by
    rw [hw5]
    have h := Bd.new (((w.alloc (.cells #[.string ⟨#[]⟩] 9)).alloc (.cells #[.int .i64 0] 3)).alloc (.cells #[.int .i64 0] 53)) (w.heap.size + 5)
    rw [World.size_alloc, World.size_alloc, World.size_alloc] at h
    exact h.below ((Below.refl _ _).alloc (Nat.le_refl _) _)
  have b4 : w5.cell? ⟨w.heap.size + 4, 0, none⟩ = some (.string s) := by
    rw [hw5]
    have h := (Boxed.new ((((w.alloc (.cells #[.string ⟨#[]⟩] 9)).alloc (.cells #[.int .i64 0] 3)).alloc (.cells #[.int .i64 0] 53)).alloc (.cells #[.pointer none, .slice none 0 0] 58)) 9 (.string s)).cell
    rwa [World.size_alloc, World.size_alloc, World.size_alloc, World.size_alloc] at h
  have hB5 : Below w.heap.size w w5 := by
    rw [hw5]
    exact ((((((Below.refl _ w).alloc (Nat.le_refl _) _).alloc (by simp) _).alloc (by simp; omega) _).alloc (by simp; omega) _).alloc (by simp; omega) _)
  have HW5 : Hid (_ = _) := hw5
  refine (callsIn_wide (n := 9)).1 ?_
  refine callsIn_of_wp_marks Tryz.func47 rfl trivial ?_ rfl
  simp only [Tryz.ntmps47, List.size_toArray, List.length_cons, List.length_nil, Nat.reduceAdd, Nat.reduceSub, Array.replicate_succ, Array.replicate_zero, List.push_toArray, List.append_toArray, List.nil_append, List.cons_append]
  have hq : ∀ (k : Nat) (cs : Array Value) (W : World), (binOp .eql 105 (.func (.func k) #[] cs) .nilFunc).run Tryz.prog W = .ok (.bool false) W := fun k cs W => by kernel_rfl
  clear hw5
  gi_wp2_with (refine ⟨trivial, ?_⟩; gi_at_call 80; refine (callsIn_wide.2 (signs_any s _)).mono ?_; rintro e w3 ⟨rfl, e3⟩; have e4 := e3.trans HW5.out.symm; subst e4; clear e3)
  simp only [Nat.add_assoc, Nat.reduceAdd]
  clear HW5
  refine wpIn_rangeFunc_ownG rfl (by omega) (gf := 128) (lb := #[.pointer (some ⟨w.heap.size + 4, 0, none⟩)]) rfl trivial (enters_of Tryz.func128 (by kernel_rfl) rfl)
    (signs_stops 8 (w.heap.size + 4) s (by omega) _ b4) keepK_t (keepK_b (by omega)) (Below.refl _ _) (fun _ => rfl)
    (fun (pre : List Sg) W => (((Boxed W w.heap.size 9 (.string ⟨#[]⟩) ∧ Boxed W (w.heap.size + 1) 3 (.int .i64 0)) ∧ Boxed W (w.heap.size + 2) 53 (.int .i64 0)) ∧ Bd (w.heap.size + 5) (w.heap.size + 3) (Lib.byteCells (pre.flatMap valS)) W) ∧ ((Below w.heap.size w W ∧ w.heap.size + 5 ≤ W.heap.size) ∧ ∀ y ∈ pre, bad y = false))
    (fun c pre W => (((Boxed W w.heap.size 9 (.string ⟨#[]⟩) ∧ Boxed W (w.heap.size + 1) 3 (.int .i64 (lastAt pre : Int))) ∧ Boxed W (w.heap.size + 2) 53 (.int .i64 51)) ∧ ((Below w.heap.size w W ∧ w.heap.size + 5 ≤ W.heap.size) ∧ (c = .ret ∧ ∃ p x, pre = p ++ [x] ∧ bad x = true ∧ ∀ y ∈ p, bad y = false))))
    (OwnFrom.and (OwnFrom.and (OwnFrom.and (OwnFrom.and (Own.from (boxed_own _ _ _) _) (Own.from (boxed_own _ _ _) _)) (Own.from (boxed_own _ _ _) _)) (Own.from (bd_own _ _ (fun pre : List Sg => Lib.byteCells (pre.flatMap valS))) _)) (OwnFrom.and (OwnFrom.and (ownFrom_below (Nat.le_refl _) (by omega)) (fun _ _ _ _ h hg _ => Nat.le_trans h hg.size)) (ownFrom_pure _ _)))
    (fun c => OwnFrom.and (OwnFrom.and (OwnFrom.and (Own.from (boxed_own _ _ _) _) (Own.from (boxed_own _ _ (fun pre : List Sg => .int .i64 (lastAt pre : Int))) _)) (Own.from (boxed_own _ _ _) _)) (OwnFrom.and (OwnFrom.and (ownFrom_below (Nat.le_refl _) (by omega)) (fun _ _ _ _ h hg _ => Nat.le_trans h hg.size)) (ownFrom_pure _ (fun pre : List Sg => c = .ret ∧ ∃ p x, pre = p ++ [x] ∧ bad x = true ∧ ∀ y ∈ p, bad y = false))))
    ⟨⟨⟨⟨b0, b1⟩, b2⟩, b3⟩, ⟨⟨hB5, by omega⟩, fun y hy => by cases hy⟩⟩
    (fun x : Sg => { tmps := #[.string s, undef, .pointer (some ⟨w.heap.size, 0, none⟩), .pointer (some ⟨w.heap.size + 1, 0, none⟩), .pointer (some ⟨w.heap.size + 2, 0, none⟩), .pointer (some ⟨w.heap.size + 3, 0, none⟩), .int .i64 (x.at_ : Int), .string (str x.z), .string s, .func (.func 128) #[] #[.pointer (some ⟨w.heap.size + 4, 0, none⟩)], .int .i64 (x.at_ : Int), .string (str x.z), undef, undef, undef, undef, undef, undef, undef, undef, undef, undef, undef, undef, undef], defers := [] }) ?assign ?body ?done ?stop
  case assign =>
    intro l x W K hK
    unfold encS
    gi_wp2
    exact hK
  case body =>
    rintro l pre x W ⟨⟨⟨⟨c0, c1⟩, c2⟩, c3⟩, ⟨⟨hB, hS⟩, hp⟩⟩ hlt
    obtain ⟨p, z, ok⟩ := x
    dsimp only
    have hvl : (Lib.byteCells (pre.flatMap valS)).length = pre.length := by rw [cells_len, vals_len]
    rcases ok with ⟨h3, ht⟩ | ⟨h1, ht⟩
    · obtain ⟨a, b, c, rfl⟩ : ∃ a b c, z = [a, b, c] := by
        match z, h3 with
        | [a, b, c], _ => exact ⟨a, b, c, rfl⟩
      have hs3 : str [a, b, c] = ⟨#[a, b, c]⟩ := rfl
      rw [hs3]
      have hh : (hx b && hx c) = true := by simp [trip] at ht; simp [ht.2]
      have HT : Hid (∀ W, Calls Tryz.prog 81 #[.string ⟨#[a, b, c]⟩] W fun e W' => e = .returned (.bool true) ∧ Below W.heap.size W W') := fun W => by
        have h := isTriple_any ⟨#[a, b, c]⟩ W
        have e : (decide ((⟨#[a, b, c]⟩ : ByteArray).size = 3) && trip (⟨#[a, b, c]⟩ : ByteArray).data.toList) = true := by rw [show trip (⟨#[a, b, c]⟩ : ByteArray).data.toList = true from ht]; rfl
        rw [e] at h
        exact h
      have HV : Hid (∀ W, _) := fun W => tripleByte_any a b c hh W
      have hvx : valS ⟨p, [a, b, c], .inl ⟨h3, ht⟩⟩ = [byteOf b c] := rfl
      gi_wp2_with (first | (refine ⟨trivial, ?_⟩; gi_at_call 81; refine ((callsIn_wide.2 (HT.out _)).inRound l).mono ?_; rintro e W1 ⟨rfl, k1⟩) | (refine ⟨trivial, ?_⟩; gi_at_call 83; refine ((callsIn_wide.2 (HV.out _)).inRound l).mono ?_; rintro e W2 ⟨rfl, k2⟩) | (refine ⟨trivial, ?_⟩; gi_at_call 82; refine ((callsIn_wide.2 (WriteByte_bd (w.heap.size + 5) (w.heap.size + 3) _ _ _ ((c3.below k1).below k2) (by rw [hvl]; omega) (Nat.le_trans hS (Nat.le_trans k1.size k2.size)))).inRound l).mono ?_; rintro e W3 ⟨rfl, hB3, hF3⟩))
      have hF : Fr (w.heap.size + 5) (w.heap.size + 3) W W3 := ((Fr.of_below k1 hS).trans (Fr.of_below k2 (Nat.le_trans hS k1.size))).trans hF3
      refine ⟨hF.others.from _, hF.keep (by omega) (by omega), ⟨⟨⟨box_fr c0 hF (by omega) (by omega), box_fr c1 hF (by omega) (by omega)⟩, box_fr c2 hF (by omega) (by omega)⟩, ?_⟩, ⟨⟨hB.trans (hF.below (by omega) (by omega)), Nat.le_trans hS hF.size⟩, ?_⟩⟩
      · rw [List.flatMap_append, cells_app, List.flatMap_cons, hvx]
        exact hB3
      · intro y hy
        rcases List.mem_append.1 hy with h | h
        · exact hp y h
        · simp at h; subst h; simp [bad]
    · obtain ⟨a, rfl⟩ : ∃ a, z = [a] := by
        match z, h1 with
        | [a], _ => exact ⟨a, rfl⟩
      have HT : Hid (∀ W, Calls Tryz.prog 81 #[.string (str [a])] W fun e W' => e = .returned (.bool false) ∧ Below W.heap.size W W') := fun W => isTriple_any (str [a]) W
      by_cases ha : a = 37
      · subst ha
        have hs1 : str [37] = ⟨#[37]⟩ := rfl
        rw [hs1] at HT ⊢
        gi_wp2_with (refine ⟨trivial, ?_⟩; gi_at_call 81; refine ((callsIn_wide.2 (HT.out _)).inRound l).mono ?_; rintro e W1 ⟨rfl, k1⟩; have d0 := box_below c0 k1 (by omega); have d1 := box_below c1 k1 (by omega); have d2 := box_below c2 k1 (by omega); have e0 := d0.cell; have e1 := d1.cell; have e2 := d2.cell; have f0 := d0.frozen; have f1 := d1.frozen; have f2 := d2.frozen)
        have hk : Below w.heap.size w W1 := hB.trans (k1.mono (by omega))
        refine ⟨((((Fr.of_below (b := 0) k1 (Nat.le_refl _)).others.trans (KeepsOthers.setCell _ _ _)).trans (KeepsOthers.setCell _ _ _)).trans (KeepsOthers.setCell _ _ _)).from _, ⟨⟨⟨((d0.set _).other (by omega) _).other (by omega) _, ?_⟩, ((d2.other (by omega) _).other (by omega) _).set _⟩, ⟨⟨((hk.setCell (p := ⟨w.heap.size, 0, none⟩) (Nat.le_refl _) _).setCell (p := ⟨w.heap.size + 1, 0, none⟩) (by simp) _).setCell (p := ⟨w.heap.size + 2, 0, none⟩) (by simp) _, ?_⟩, ⟨rfl, pre, _, rfl, rfl, hp⟩⟩⟩⟩
        · rw [lastAt_app]
          exact ((d1.other (by omega) _).set _).other (by omega) _
        · have := k1.size
          simp [World.setCell]
          omega
      · have hne : ((str [a]).toList == [37]) = false := by rw [ByteArray.toList_eq]; simp [str, ha]
        have hvx : valS ⟨p, [a], .inr ⟨h1, ht⟩⟩ = [a] := rfl
        have hz1 : (str [a]).size = 1 := rfl
        gi_wp2_with (first | (refine ⟨trivial, ?_⟩; gi_at_call 81; refine ((callsIn_wide.2 (HT.out _)).inRound l).mono ?_; rintro e W1 ⟨rfl, k1⟩) | (refine ⟨trivial, ?_⟩; gi_at_call 44; refine ((callsIn_wide.2 (WriteString_bd (w.heap.size + 5) (w.heap.size + 3) _ _ _ (c3.below k1) (by rw [hvl, hz1]; omega) (Nat.le_trans hS k1.size))).inRound l).mono ?_; rintro e W3 ⟨rfl, hB3, hF3⟩))
        have hF : Fr (w.heap.size + 5) (w.heap.size + 3) W W3 := (Fr.of_below k1 hS).trans hF3
        refine ⟨hF.others.from _, hF.keep (by omega) (by omega), ⟨⟨⟨box_fr c0 hF (by omega) (by omega), box_fr c1 hF (by omega) (by omega)⟩, box_fr c2 hF (by omega) (by omega)⟩, ?_⟩, ⟨⟨hB.trans (hF.below (by omega) (by omega)), Nat.le_trans hS hF.size⟩, ?_⟩⟩
        · rw [List.flatMap_append, cells_app, List.flatMap_cons, hvx]
          rw [cells_str] at hB3
          exact hB3
        · intro y hy
          rcases List.mem_append.1 hy with h | h
          · exact hp y h
          · simp at h; subst h; simp [bad, ha]
  case done =>
    rintro D ys W hD rfl ⟨⟨⟨⟨c0, c1⟩, c2⟩, c3⟩, ⟨⟨hB, hS⟩, hp⟩⟩ hK
    have hA := decR_all s.data.toList hp
    gi_wp2_with (refine ⟨trivial, ?_⟩; gi_at_call 46; refine (callsIn_wide.2 (String_bd (w.heap.size + 5) (w.heap.size + 3) _ _ c3 hS)).mono ?_; rintro e W1 ⟨rfl, k1, ho⟩; have k1' : Below (w.heap.size + 3) W W1 := k1.mono (by omega); have d0 := box_below c0 k1' (by omega); have d1 := box_below c1 k1' (by omega); have d2 := box_below c2 k1' (by omega); have e0 := d0.cell; have e1 := d1.cell; have e2 := d2.cell; have f0 := d0.frozen; have f1 := d1.frozen; have f2 := d2.frozen)
    have hK1 : W1.heap[D]? = some (Obj.deferred (some [])) := ho D _ hK (by intro e; cases e; omega) (by intro c fz e; cases e)
    have hk : Below w.heap.size w W1 := hB.trans (k1.mono (by omega))
    have g0 := ((d0.set (.string (str ((sg 0 s.data.toList).flatMap valS)))).other (show w.heap.size ≠ w.heap.size + 1 by omega) (.int .i64 0)).other (show w.heap.size ≠ w.heap.size + 2 by omega) (.int .i64 0)
    have g1 := ((d1.other (show w.heap.size + 1 ≠ w.heap.size by omega) (.string (str ((sg 0 s.data.toList).flatMap valS)))).set (.int .i64 0)).other (show w.heap.size + 1 ≠ w.heap.size + 2 by omega) (.int .i64 0)
    have g2 := ((d2.other (show w.heap.size + 2 ≠ w.heap.size by omega) (.string (str ((sg 0 s.data.toList).flatMap valS)))).other (show w.heap.size + 2 ≠ w.heap.size + 1 by omega) (.int .i64 0)).set (.int .i64 0)
    have hkb := ((hk.setCell (p := ⟨w.heap.size, 0, none⟩) (Nat.le_refl _) (.string (str ((sg 0 s.data.toList).flatMap valS)))).setCell (p := ⟨w.heap.size + 1, 0, none⟩) (by simp) (.int .i64 0)).setCell (p := ⟨w.heap.size + 2, 0, none⟩) (by simp) (.int .i64 0)
    have hK2 := (KeepsOthers.setCell ((W1.setCell ⟨w.heap.size, 0, none⟩ (.string (str ((sg 0 s.data.toList).flatMap valS)))).setCell ⟨w.heap.size + 1, 0, none⟩ (.int .i64 0)) ⟨w.heap.size + 2, 0, none⟩ (.int .i64 0)).same D _ ((KeepsOthers.setCell _ _ _).same D _ ((KeepsOthers.setCell _ _ _).same D _ hK1 rfl) rfl) rfl
    generalize (((W1.setCell ⟨w.heap.size, 0, none⟩ (.string (str ((sg 0 s.data.toList).flatMap valS)))).setCell ⟨w.heap.size + 1, 0, none⟩ (.int .i64 0)).setCell ⟨w.heap.size + 2, 0, none⟩ (.int .i64 0)) = W2 at *
    refine ⟨by simp, .inl ⟨_, _, rfl, run_takeDeferred hK2, ?_⟩⟩
    have q0 := box_put g0 (show w.heap.size ≠ D by omega) (.deferred none)
    have q1 := box_put g1 (show w.heap.size + 1 ≠ D by omega) (.deferred none)
    have q2 := box_put g2 (show w.heap.size + 2 ≠ D by omega) (.deferred none)
    rw [hA]
    exact ⟨.tuple #[.string (str ((sg 0 s.data.toList).flatMap valS)), .int .i64 0, .int .i64 0], by simp [results, Tryz.results47, go_sem, q0, q1, q2], rfl, below_put hkb (by omega) _⟩
  case stop =>
    rintro D c pre W hD ⟨rest, hrest⟩ ⟨⟨⟨c0, c1⟩, c2⟩, ⟨⟨hB, hS⟩, ⟨rfl, p, x, rfl, hbx, hp⟩⟩⟩ hK
    rw [lastAt_app] at c1
    have hR := decR_at s.data.toList p x rest hrest hp hbx
    gi_wp2
    refine ⟨by simp, .inl ⟨_, _, rfl, run_takeDeferred hK, ?_⟩⟩
    have q0 := box_put c0 (show w.heap.size ≠ D by omega) (.deferred none)
    have q1 := box_put c1 (show w.heap.size + 1 ≠ D by omega) (.deferred none)
    have q2 := box_put c2 (show w.heap.size + 2 ≠ D by omega) (.deferred none)
    rw [hR]
    exact ⟨.tuple #[.string ⟨#[]⟩, .int .i64 (x.at_ : Int), .int .i64 51], by simp [results, Tryz.results47, go_sem, q0, q1, q2], rfl, below_put hB (by omega) _⟩

end Tg
end Go.Proofs.YticncpjpkgdnlaaGreatDoor

/-
  target: check, isOf.
-/
set_option linter.unusedVariables false
set_option linter.unusedSimpArgs false
namespace Go.Proofs.YticncpjpkgdnlaaGreatDoor
open Go.RowKit Go.Shelf
attribute [local go_sem] Oper.semAt_some
namespace Tg
open Oc

def errL (other : Int) (pre : List Sg) : Int := (pre.getLast?.map fun x => if x.z = [37] then 51 else other).getD 0
theorem errL_app (other : Int) (pre : List Sg) (x : Sg) : errL other (pre ++ [x]) = if x.z = [37] then 51 else other := by simp [errL]
theorem chk_all (ok : UInt8 → Bool) (other : Int) (l : List UInt8) (h : ∀ x ∈ sg 0 l, wrong ok x = false) : chk ok other l = (0, 0) := by
  unfold chk
  rw [List.find?_eq_none.2 (fun x hx => by rw [h x hx]; simp)]
theorem chk_at (ok : UInt8 → Bool) (other : Int) (l : List UInt8) (pre : List Sg) (x : Sg) (rest : List Sg) (e : pre ++ [x] ++ rest = sg 0 l) (h : ∀ y ∈ pre, wrong ok y = false) (hx : wrong ok x = true) : chk ok other l = (x.at_, if x.z = [37] then 51 else other) := by
  unfold chk
  rw [← e, List.append_assoc, List.find?_append, List.find?_eq_none.2 (fun y hy => by rw [h y hy]; simp)]
  simp [hx]

set_option maxRecDepth 100000 in
set_option maxHeartbeats 8000000 in
theorem check_any (s : ByteArray) (hs : s.size ≤ 40000000000) (m : Int) (ok : UInt8 → Bool) (hok : ∀ c : UInt8, (bits BinOp.and IntKind.u8 (cls c) m != 0) = ok c) (h37 : ok 37 = false) (other : Int) (w : World) :
    Calls Tryz.prog 85 #[.string s, .int .u8 m, .int .i64 other] w fun e w' => e = .returned (.tuple #[.int .i64 ((chk ok other s.data.toList).1 : Int), .int .i64 (chk ok other s.data.toList).2]) ∧ Below w.heap.size w w' := by
  have HOK : Hid (∀ c : UInt8, (bits BinOp.and IntKind.u8 (cls c) m != 0) = ok c) := hok
  clear hok
  obtain ⟨w5, hw5⟩ : ∃ w5, w5 = (((((w.alloc (.cells #[.int .u8 m] 109)).alloc (.cells #[.int .i64 other] 53)).alloc (.cells #[.int .i64 0] 3)).alloc (.cells #[.int .i64 0] 53)).alloc (.cells #[.string s] 9)) := ⟨_, rfl⟩
  have hsz5 : w5.heap.size = w.heap.size + 5 := by rw [hw5]; simp
  have b0 : Boxed w5 w.heap.size 109 (.int .u8 m) := by rw [hw5]; exact ((((Boxed.new w _ _).alloc _).alloc _).alloc _).alloc _
  have b1 : Boxed w5 (w.heap.size + 1) 53 (.int .i64 other) := by rw [hw5]; have := (((Boxed.new (w.alloc (.cells #[.int .u8 m] 109)) 53 (.int .i64 other)).alloc (.cells #[.int .i64 0] 3)).alloc (.cells #[.int .i64 0] 53)).alloc (.cells #[.string s] 9); rwa [World.size_alloc] at this
  have b2 : Boxed w5 (w.heap.size + 2) 3 (.int .i64 0) := by rw [hw5]; have := ((Boxed.new ((w.alloc (.cells #[.int .u8 m] 109)).alloc (.cells #[.int .i64 other] 53)) 3 (.int .i64 0)).alloc (.cells #[.int .i64 0] 53)).alloc (.cells #[.string s] 9); rwa [World.size_alloc, World.size_alloc] at this
  have b3 : Boxed w5 (w.heap.size + 3) 53 (.int .i64 0) := by rw [hw5]; have := (Boxed.new (((w.alloc (.cells #[.int .u8 m] 109)).alloc (.cells #[.int .i64 other] 53)).alloc (.cells #[.int .i64 0] 3)) 53 (.int .i64 0)).alloc (.cells #[.string s] 9); rwa [World.size_alloc, World.size_alloc, World.size_alloc] at this
  have b4 : w5.cell? ⟨w.heap.size + 4, 0, none⟩ = some (.string s) := by
    rw [hw5]
    have h := (Boxed.new ((((w.alloc (.cells #[.int .u8 m] 109)).alloc (.cells #[.int .i64 other] 53)).alloc (.cells #[.int .i64 0] 3)).alloc (.cells #[.int .i64 0] 53)) 9 (.string s)).cell
    rwa [World.size_alloc, World.size_alloc, World.size_alloc, World.size_alloc] at h
  have hB5 : Below w.heap.size w w5 := by
    rw [hw5]
    exact ((((((Below.refl _ w).alloc (Nat.le_refl _) _).alloc (by simp) _).alloc (by simp; omega) _).alloc (by simp; omega) _).alloc (by simp; omega) _)
  have HW5 : Hid (_ = _) := hw5
  refine (callsIn_wide (n := 9)).1 ?_
  refine callsIn_of_wp_marks Tryz.func85 rfl trivial ?_ rfl
  simp only [Tryz.ntmps85, List.size_toArray, List.length_cons, List.length_nil, Nat.reduceAdd, Nat.reduceSub, Array.replicate_succ, Array.replicate_zero, List.push_toArray, List.append_toArray, List.nil_append, List.cons_append]
  have hq : ∀ (k : Nat) (cs : Array Value) (W : World), (binOp .eql 105 (.func (.func k) #[] cs) .nilFunc).run Tryz.prog W = .ok (.bool false) W := fun k cs W => by kernel_rfl
  clear hw5
  gi_wp2_with (refine ⟨trivial, ?_⟩; gi_at_call 80; refine (callsIn_wide.2 (signs_any s _)).mono ?_; rintro e w3 ⟨rfl, e3⟩; have e4 := e3.trans HW5.out.symm; subst e4; clear e3)
  simp only [Nat.add_assoc, Nat.reduceAdd]
  clear HW5
  refine wpIn_rangeFunc_ownG rfl (by omega) (gf := 128) (lb := #[.pointer (some ⟨w.heap.size + 4, 0, none⟩)]) rfl trivial (enters_of Tryz.func128 (by kernel_rfl) rfl)
    (signs_stops 8 (w.heap.size + 4) s (by omega) _ b4) keepK_t (keepK_b (by omega)) (Below.refl _ _) (fun _ => rfl)
    (fun (pre : List Sg) W => (((Boxed W w.heap.size 109 (.int .u8 m) ∧ Boxed W (w.heap.size + 1) 53 (.int .i64 other)) ∧ Boxed W (w.heap.size + 2) 3 (.int .i64 0)) ∧ Boxed W (w.heap.size + 3) 53 (.int .i64 0)) ∧ ((Below w.heap.size w W ∧ w.heap.size + 5 ≤ W.heap.size) ∧ ∀ y ∈ pre, wrong ok y = false))
    (fun c pre W => ((Boxed W (w.heap.size + 2) 3 (.int .i64 (lastAt pre : Int)) ∧ Boxed W (w.heap.size + 3) 53 (.int .i64 (errL other pre))) ∧ ((Below w.heap.size w W ∧ w.heap.size + 5 ≤ W.heap.size) ∧ (c = .ret ∧ ∃ p x, pre = p ++ [x] ∧ wrong ok x = true ∧ ∀ y ∈ p, wrong ok y = false))))
    (OwnFrom.and (OwnFrom.and (OwnFrom.and (OwnFrom.and (Own.from (boxed_own _ _ _) _) (Own.from (boxed_own _ _ _) _)) (Own.from (boxed_own _ _ _) _)) (Own.from (boxed_own _ _ _) _)) (OwnFrom.and (OwnFrom.and (ownFrom_below (Nat.le_refl _) (by omega)) (fun _ _ _ _ h hg _ => Nat.le_trans h hg.size)) (ownFrom_pure _ _)))
    (fun c => OwnFrom.and (OwnFrom.and (Own.from (boxed_own _ _ (fun pre : List Sg => .int .i64 (lastAt pre : Int))) _) (Own.from (boxed_own _ _ (fun pre : List Sg => .int .i64 (errL other pre))) _)) (OwnFrom.and (OwnFrom.and (ownFrom_below (Nat.le_refl _) (by omega)) (fun _ _ _ _ h hg _ => Nat.le_trans h hg.size)) (ownFrom_pure _ (fun pre : List Sg => c = .ret ∧ ∃ p x, pre = p ++ [x] ∧ wrong ok x = true ∧ ∀ y ∈ p, wrong ok y = false))))
    ⟨⟨⟨⟨b0, b1⟩, b2⟩, b3⟩, ⟨⟨hB5, by omega⟩, fun y hy => by cases hy⟩⟩
    (fun x : Sg => { tmps := #[.string s, .int .u8 m, .int .i64 other, undef, .pointer (some ⟨w.heap.size, 0, none⟩), .pointer (some ⟨w.heap.size + 1, 0, none⟩), .pointer (some ⟨w.heap.size + 2, 0, none⟩), .pointer (some ⟨w.heap.size + 3, 0, none⟩), .int .i64 (x.at_ : Int), .string (str x.z), .string s, .func (.func 128) #[] #[.pointer (some ⟨w.heap.size + 4, 0, none⟩)], .int .i64 (x.at_ : Int), .string (str x.z), undef, undef, undef, undef, undef, undef, undef, undef, undef, undef, undef, undef, undef, undef, undef], defers := [] }) ?assign ?body ?done ?stop
  case assign =>
    intro l x W K hK
    unfold encS
    gi_wp2
    exact hK
  case body =>
    rintro l pre x W ⟨⟨⟨⟨c0, c1⟩, c2⟩, c3⟩, ⟨⟨hB, hS⟩, hp⟩⟩ hlt
    obtain ⟨p, z, ok0⟩ := x
    dsimp only
    rcases ok0 with ⟨h3, ht⟩ | ⟨h1, ht⟩
    · have HT : Hid (∀ W, Calls Tryz.prog 81 #[.string (str z)] W fun e W' => e = .returned (.bool true) ∧ Below W.heap.size W W') := fun W => by
        have h := isTriple_any (str z) W
        rw [str_size, str_list, ht, h3] at h
        exact h
      gi_wp2_with (refine ⟨trivial, ?_⟩; gi_at_call 81; refine ((callsIn_wide.2 (HT.out _)).inRound l).mono ?_; rintro e W1 ⟨rfl, k1⟩)
      have hF : Fr (w.heap.size + 5) (w.heap.size + 5) W W1 := Fr.of_below k1 hS
      refine ⟨hF.others.from _, hF.keep (by omega) (by omega), ⟨⟨⟨box_below c0 k1 (by omega), box_below c1 k1 (by omega)⟩, box_below c2 k1 (by omega)⟩, box_below c3 k1 (by omega)⟩, ⟨⟨hB.trans (hF.below (by omega) (by omega)), Nat.le_trans hS hF.size⟩, ?_⟩⟩
      intro y hy
      rcases List.mem_append.1 hy with h | h
      · exact hp y h
      · simp at h; subst h; simp [wrong, h3]
    · obtain ⟨a, rfl⟩ : ∃ a, z = [a] := by
        match z, h1 with
        | [a], _ => exact ⟨a, rfl⟩
      have HT : Hid (∀ W, Calls Tryz.prog 81 #[.string (str [a])] W fun e W' => e = .returned (.bool false) ∧ Below W.heap.size W W') := fun W => isTriple_any (str [a]) W
      have hs1 : str [a] = ⟨#[a]⟩ := rfl
      rw [hs1] at HT ⊢
      have hz1 : (⟨#[a]⟩ : ByteArray).size = 1 := rfl
      have h0z : (((⟨#[a]⟩ : ByteArray)[0].toNat : Nat) : Int) = (a.toNat : Int) := rfl
      have HC : Hid (∀ w, Calls Tryz.prog 84 #[.int .u8 (a.toNat : Int)] w fun e w' => e = .returned (.int .u8 (cls a)) ∧ w' = w) := fun w => classOf_any a w
      have hb := HOK.out a
      have hw : wrong ok ⟨p, [a], .inr ⟨h1, ht⟩⟩ = !ok a := rfl
      generalize cls a = v at *
      cases hv : ok a with
      | true =>
        rw [hv] at hb hw
        gi_wp2_with (refine ⟨trivial, ?_⟩; gi_at_call 81; refine ((callsIn_wide.2 (HT.out _)).inRound l).mono ?_; rintro e W1 ⟨rfl, k1⟩; have d0 := box_below c0 k1 (by omega); have e0 : W1.drew.cell? ⟨w.heap.size, 0, none⟩ = _ := d0.cell)
        gi_region_with (refine ⟨trivial, ?_⟩; gi_at_call 84; refine ((callsIn_wide.2 (HC.out _)).inRound l).mono ?_; rintro e w' ⟨rfl, rfl⟩)
        all_goals
          gi_wp2
          have k2 : Below W.heap.size W W1.drew := k1.drew
          have hF : Fr (w.heap.size + 5) (w.heap.size + 5) W W1.drew := Fr.of_below k2 hS
          refine ⟨hF.others.from _, hF.keep (by omega) (by omega), ⟨⟨⟨box_below c0 k2 (by omega), box_below c1 k2 (by omega)⟩, box_below c2 k2 (by omega)⟩, box_below c3 k2 (by omega)⟩, ⟨⟨hB.trans (hF.below (by omega) (by omega)), Nat.le_trans hS hF.size⟩, ?_⟩⟩
          intro y hy
          rcases List.mem_append.1 hy with h | h
          · exact hp y h
          · simp at h; subst h; exact hw
      | false =>
        rw [hv] at hb hw
        by_cases ha : a = 37
        · subst ha
          gi_wp2_with (refine ⟨trivial, ?_⟩; gi_at_call 81; refine ((callsIn_wide.2 (HT.out _)).inRound l).mono ?_; rintro e W1 ⟨rfl, k1⟩; have d0 := box_below c0 k1 (by omega); have e0 : W1.drew.cell? ⟨w.heap.size, 0, none⟩ = _ := d0.cell; have k2 : Below W.heap.size W W1.drew := k1.drew; have d2 := box_below c2 k2 (by omega); have d3 := box_below c3 k2 (by omega); have e2 := d2.cell; have e3 := d3.cell; have f2 := d2.frozen; have f3 := d3.frozen; have e2' : W1.cell? ⟨w.heap.size + 2, 0, none⟩ = _ := d2.cell; have e3' : W1.cell? ⟨w.heap.size + 3, 0, none⟩ = _ := d3.cell; have f2' : W1.frozen? ⟨w.heap.size + 2, 0, none⟩ = false := d2.frozen; have f3' : W1.frozen? ⟨w.heap.size + 3, 0, none⟩ = false := d3.frozen)
          gi_region_with (refine ⟨trivial, ?_⟩; gi_at_call 84; refine ((callsIn_wide.2 (HC.out _)).inRound l).mono ?_; rintro e w' ⟨rfl, rfl⟩)
          all_goals
            gi_wp2
            have hk : Below w.heap.size w W1.drew := hB.trans (k2.mono (by omega))
            have hko := ((Fr.of_below (b := 0) k2 (Nat.le_refl _)).others.trans (KeepsOthers.setCell _ ⟨w.heap.size + 2, 0, none⟩ (.int .i64 (p : Int)))).trans (KeepsOthers.setCell _ ⟨w.heap.size + 3, 0, none⟩ (.int .i64 51))
            refine ⟨hko.from _, ⟨⟨?_, ?_⟩, ⟨⟨(hk.setCell (p := ⟨w.heap.size + 2, 0, none⟩) (by simp) _).setCell (p := ⟨w.heap.size + 3, 0, none⟩) (by simp) _, Nat.le_trans hS hko.size⟩, ⟨rfl, pre, _, rfl, hw, hp⟩⟩⟩⟩
            · rw [lastAt_app]
              exact (d2.set _).other (by omega) _
            · rw [errL_app]
              exact (d3.other (by omega) _).set _
        · have hne : ((⟨#[a]⟩ : ByteArray).toList == [37]) = false := by rw [ByteArray.toList_eq]; simp [ha]
          obtain ⟨A, hA⟩ : ∃ A : ByteArray, A = ⟨#[a]⟩ := ⟨_, rfl⟩
          have h0A : 0 < A.size := by rw [hA]; exact Nat.one_pos
          have h00 : ((A[0].toNat : Nat) : Int) = (a.toNat : Int) := by subst hA; rfl
          rw [← hA] at HT hne hz1 ⊢
          clear hs1 hA h0z
          gi_wp2_with (refine ⟨trivial, ?_⟩; gi_at_call 81; refine ((callsIn_wide.2 (HT.out _)).inRound l).mono ?_; rintro e W1 ⟨rfl, k1⟩; have d0 := box_below c0 k1 (by omega); have e0 : W1.drew.cell? ⟨w.heap.size, 0, none⟩ = _ := d0.cell; have k2 : Below W.heap.size W W1.drew.drew := k1.drew.drew; have d1 := box_below c1 k2 (by omega); have d2 := box_below c2 k2 (by omega); have d3 := box_below c3 k2 (by omega); have e1 := d1.cell; have e2 := d2.cell; have e3 := d3.cell; have f2 := d2.frozen; have f3 := d3.frozen; have e1' : W1.cell? ⟨w.heap.size + 1, 0, none⟩ = _ := d1.cell; have e2' : W1.cell? ⟨w.heap.size + 2, 0, none⟩ = _ := d2.cell; have e3' : W1.cell? ⟨w.heap.size + 3, 0, none⟩ = _ := d3.cell; have f2' : W1.frozen? ⟨w.heap.size + 2, 0, none⟩ = false := d2.frozen; have f3' : W1.frozen? ⟨w.heap.size + 3, 0, none⟩ = false := d3.frozen)
          gi_region_with (refine ⟨trivial, ?_⟩; gi_at_call 84; refine ((callsIn_wide.2 (HC.out _)).inRound l).mono ?_; rintro e w' ⟨rfl, rfl⟩)
          all_goals (try gi_wp2)
          all_goals (try gi_region)
          all_goals (try gi_wp2)
          all_goals
            · have hk : Below w.heap.size w W1.drew.drew := hB.trans (k2.mono (by omega))
              have hko := ((Fr.of_below (b := 0) k2 (Nat.le_refl _)).others.trans (KeepsOthers.setCell _ ⟨w.heap.size + 2, 0, none⟩ (.int .i64 (p : Int)))).trans (KeepsOthers.setCell _ ⟨w.heap.size + 3, 0, none⟩ (.int .i64 other))
              refine ⟨hko.from _, ⟨⟨?_, ?_⟩, ⟨⟨(hk.setCell (p := ⟨w.heap.size + 2, 0, none⟩) (by simp) _).setCell (p := ⟨w.heap.size + 3, 0, none⟩) (by simp) _, Nat.le_trans hS hko.size⟩, ⟨rfl, pre, _, rfl, hw, hp⟩⟩⟩⟩
              · rw [lastAt_app]
                exact (d2.set _).other (by omega) _
              · rw [errL_app, if_neg (by simp [ha])]
                exact (d3.other (by omega) _).set _
  case done =>
    rintro D ys W hD rfl ⟨⟨⟨⟨c0, c1⟩, c2⟩, c3⟩, ⟨⟨hB, hS⟩, hp⟩⟩ hK
    have hA := chk_all ok other s.data.toList hp
    have e2 := c2.cell
    have e3 := c3.cell
    have f2 := c2.frozen
    have f3 := c3.frozen
    gi_wp2
    have g2 := (c2.set (.int .i64 0)).other (show w.heap.size + 2 ≠ w.heap.size + 3 by omega) (.int .i64 0)
    have g3 := (c3.other (show w.heap.size + 3 ≠ w.heap.size + 2 by omega) (.int .i64 0)).set (.int .i64 0)
    have hkb := (hB.setCell (p := ⟨w.heap.size + 2, 0, none⟩) (by simp) (.int .i64 0)).setCell (p := ⟨w.heap.size + 3, 0, none⟩) (by simp) (.int .i64 0)
    have hK2 := (KeepsOthers.setCell (W.setCell ⟨w.heap.size + 2, 0, none⟩ (.int .i64 0)) ⟨w.heap.size + 3, 0, none⟩ (.int .i64 0)).same D _ ((KeepsOthers.setCell _ _ _).same D _ hK rfl) rfl
    generalize (W.setCell ⟨w.heap.size + 2, 0, none⟩ (.int .i64 0)).setCell ⟨w.heap.size + 3, 0, none⟩ (.int .i64 0) = W2 at *
    refine ⟨by simp, .inl ⟨_, _, rfl, run_takeDeferred hK2, ?_⟩⟩
    have q2 := box_put g2 (show w.heap.size + 2 ≠ D by omega) (.deferred none)
    have q3 := box_put g3 (show w.heap.size + 3 ≠ D by omega) (.deferred none)
    rw [hA]
    exact ⟨.tuple #[.int .i64 0, .int .i64 0], by simp [results, Tryz.results85, go_sem, q2, q3], rfl, below_put hkb (by omega) _⟩
  case stop =>
    rintro D c pre W hD ⟨rest, hrest⟩ ⟨⟨c2, c3⟩, ⟨⟨hB, hS⟩, ⟨rfl, p, x, rfl, hbx, hp⟩⟩⟩ hK
    rw [lastAt_app] at c2
    rw [errL_app] at c3
    have hR := chk_at ok other s.data.toList p x rest hrest hp hbx
    generalize (if x.z = [37] then 51 else other) = E at *
    gi_wp2
    refine ⟨by simp, .inl ⟨_, _, rfl, run_takeDeferred hK, ?_⟩⟩
    have q2 := box_put c2 (show w.heap.size + 2 ≠ D by omega) (.deferred none)
    have q3 := box_put c3 (show w.heap.size + 3 ≠ D by omega) (.deferred none)
    rw [hR]
    exact ⟨.tuple #[.int .i64 (x.at_ : Int), .int .i64 E], by simp [results, Tryz.results85, go_sem, q2, q3], rfl, below_put hB (by omega) _⟩

theorem chk_err (ok : UInt8 → Bool) (other : Int) (ho : other ≠ 0) (l : List UInt8) : ((chk ok other l).2 == 0) = allOk ok l := by
  cases h : allOk ok l with
  | true => rw [chk_ok ok other l h]; rfl
  | false => rw [beq_eq_false_iff_ne]; exact chk_bad ok other ho l h

set_option maxRecDepth 100000 in
set_option maxHeartbeats 1000000 in
theorem isOf_any (s : ByteArray) (hs : s.size ≤ 40000000000) (m : Int) (ok : UInt8 → Bool) (hok : ∀ c : UInt8, (bits BinOp.and IntKind.u8 (cls c) m != 0) = ok c) (h37 : ok 37 = false) (w : World) :
    Calls Tryz.prog 134 #[.string s, .int .u8 m] w fun e w' => e = .returned (.bool (allOk ok s.data.toList)) ∧ Below w.heap.size w w' := by
  have HC : Hid (∀ w, _) := fun w => check_any s hs m ok hok h37 1 w
  have HE := chk_err ok 1 (by decide) s.data.toList
  generalize chk ok 1 s.data.toList = r at *
  obtain ⟨r1, r2⟩ := r
  dsimp only at HC HE
  rw [← HE]
  clear HE hok
  go_enter Tryz.func134, Tryz.ntmps134
  go_wp2_with (refine (HC.out _).mono ?_; rintro e w1 ⟨rfl, hb⟩)
  go_ret
  exact ⟨rfl, hb⟩

theorem cls_cases (c : UInt8) : cls c = 0 ∨ cls c = 1 ∨ cls c = 2 ∨ cls c = 4 ∨ cls c = 8 ∨ cls c = 16 := by unfold cls; (repeat' split) <;> simp
theorem ok_all : ∀ n : Nat, n < 256 → ((bits BinOp.and IntKind.u8 (cls (UInt8.ofNat n)) 3 != 0) = nameOk (UInt8.ofNat n)) ∧ ((bits BinOp.and IntKind.u8 (cls (UInt8.ofNat n)) 15 != 0) = pathOk (UInt8.ofNat n)) ∧ ((bits BinOp.and IntKind.u8 (cls (UInt8.ofNat n)) 31 != 0) = queryOk (UInt8.ofNat n)) := by decide +kernel
theorem ok_name (c : UInt8) : (bits BinOp.and IntKind.u8 (cls c) 3 != 0) = nameOk c := by have := (ok_all c.toNat c.toNat_lt).1; simpa using this
theorem ok_path (c : UInt8) : (bits BinOp.and IntKind.u8 (cls c) 15 != 0) = pathOk c := by have := (ok_all c.toNat c.toNat_lt).2.1; simpa using this
theorem ok_query (c : UInt8) : (bits BinOp.and IntKind.u8 (cls c) 31 != 0) = queryOk c := by have := (ok_all c.toNat c.toNat_lt).2.2; simpa using this
theorem name37 : nameOk 37 = false := by decide +kernel
theorem query37 : queryOk 37 = false := by decide +kernel

end Tg
end Go.Proofs.YticncpjpkgdnlaaGreatDoor

/-
  target: Cut at one byte; parsePlace.
-/
set_option linter.unusedVariables false
set_option linter.unusedSimpArgs false
namespace Go.Proofs.YticncpjpkgdnlaaGreatDoor
open Go.RowKit Go.Shelf
namespace Tg
open Oc

/-- The library's MaxLen lies. -/
def ML (w : World) : Prop := ∃ m : Int, w.cell? ⟨7, 0, none⟩ = some (.int .i64 m)
theorem ML.below {w w' : World} (h : ML w) (hb : Below w.heap.size w w') : ML w' := by
  obtain ⟨m, hm⟩ := h
  exact ⟨m, (hb.cell (p := ⟨7, 0, none⟩) (cell_lt hm)).trans hm⟩
theorem ML.drew {w : World} (h : ML w) : ML w.drew := h
theorem Cut_one (s : ByteArray) (b : UInt8) (hs : s.size ≤ 4000000000) (w : World) (h : ML w) :
    Calls Tryz.prog 131 #[.string s, .string ⟨#[b]⟩] w fun e w' => e = .returned (.tuple #[.string (str (cutA b s.data.toList)), .string (str (cutB b s.data.toList)), .bool (has b s.data.toList)]) ∧ Below w.heap.size w w' := by
  obtain ⟨m, hm⟩ := h
  refine (Tryz.strings_Cut s ⟨#[b]⟩ m w (by omega) hm).mono ?_
  rintro e w' ⟨rfl, n, rfl⟩
  rw [show (⟨#[b]⟩ : ByteArray).data.toList = [b] from rfl, cut_one]
  exact ⟨rfl, ⟨rfl, rfl, rfl, Nat.le_refl _, fun _ _ => rfl⟩⟩

theorem sg_at (p : Nat) (l : List UInt8) : ∀ x ∈ sg p l, x.at_ < p + l.length := by
  match l with
  | [] => rw [sg_nil]; simp
  | c :: t =>
    intro x hx
    by_cases h : trip (c :: t) = true
    · rw [sg_trip p _ h] at hx
      have h3 := trip_len h
      rcases List.mem_cons.1 hx with rfl | hx
      · simp
      · have := sg_at (p + 3) ((c :: t).drop 3) x hx
        rw [List.length_drop] at this
        omega
    · rw [sg_one p c t (by simpa using h)] at hx
      rcases List.mem_cons.1 hx with rfl | hx
      · simp
      · have := sg_at (p + 1) t x hx
        simp; omega
termination_by l.length
decreasing_by
  · simp; omega
  · simp
theorem chk_le (ok : UInt8 → Bool) (other : Int) (l : List UInt8) : (chk ok other l).1 ≤ l.length := by
  unfold chk
  split
  · rename_i x hx
    have := sg_at 0 l x (List.mem_of_find?_eq_some hx)
    dsimp only
    omega
  · exact Nat.zero_le _
/-- A target, as a value. -/
def tgt (form : Int) (host : List UInt8) (port : Int) (path query : List UInt8) (h : Bool) : Value := .agg #[.int .i64 form, .string (str host), .int .i64 port, .string (str path), .string (str query), .bool h]
def tgt0 : Value := tgt 0 [] 0 [] [] false
/-- Path and query of a target. -/
def placeR (r : List UInt8) : (Nat × Int) := if (chk pathOk 53 (cutA 63 r)).2 ≠ 0 then chk pathOk 53 (cutA 63 r) else if (chk queryOk 54 (cutB 63 r)).2 ≠ 0 then ((cutA 63 r).length + 1 + (chk queryOk 54 (cutB 63 r)).1, (chk queryOk 54 (cutB 63 r)).2) else (0, 0)
def slashed (p : List UInt8) : List UInt8 := if p = [] then [47] else p

end Tg
end Go.Proofs.YticncpjpkgdnlaaGreatDoor

/-
  target: the iterator over the pieces of a text.
-/
set_option linter.unusedVariables false
set_option linter.unusedSimpArgs false
namespace Go.Proofs.YticncpjpkgdnlaaGreatDoor
open Go.RowKit Go.Shelf
attribute [local go_sem] Oper.semAt_some
namespace Tg
open Oc

/-- A piece. -/
structure Pz (M : Nat) where
  z : List UInt8
  le : z.length ≤ M
def encP {M : Nat} (x : Pz M) : Array Value := #[.string (str x.z)]
/-- Three blocks lie as they lay. -/
def Keep3 (a b c : Nat) (A B : World) : Prop := Keep a A B ∧ Keep b A B ∧ Keep c A B
theorem keep3_t {a b c : Nat} {A B C : World} (h : Keep3 a b c A B) (k : Keep3 a b c B C) : Keep3 a b c A C := ⟨h.1.trans k.1, h.2.1.trans k.2.1, h.2.2.trans k.2.2⟩
theorem keep3_b {a b c : Nat} {w : World} (ha : a < w.heap.size) (hb : b < w.heap.size) (hc : c < w.heap.size) (W : World) (l : Nat) (o o' : Obj) (hl : w.heap.size ≤ l) (h : W.heap[l]? = some o) (hcc : o.isCells = false) (hw : o.isWalk = false) : Keep3 a b c W (W.putObj l o') :=
  ⟨keepK_b ha W l o o' hl h hcc hw, keepK_b hb W l o o' hl h hcc hw, keepK_b hc W l o o' hl h hcc hw⟩
theorem keep3_fr {a b c B d : Nat} {A C : World} (h : Fr B d A C) (ha : a < B) (hb : b < B) (hc : c < B) (ha' : a ≠ d) (hb' : b ≠ d) (hc' : c ≠ d) : Keep3 a b c A C := ⟨h.keep ha ha', h.keep hb hb', h.keep hc hc'⟩
theorem ML.keep {A B : World} (h : ML A) (k : Keep 7 A B) : ML B := by
  obtain ⟨m, hm⟩ := h
  exact ⟨m, (k.cell 0).trans hm⟩
theorem ML.lt {w : World} (h : ML w) : 7 < w.heap.size := by
  obtain ⟨m, hm⟩ := h
  exact cell_lt hm

set_option maxRecDepth 100000 in
set_option maxHeartbeats 2000000 in
theorem pieces1_in (n : Nat) (l Bs Bp : Nat) (b : UInt8) (s : ByteArray) (hs : s.size ≤ 4000000000) (J Jx : List (Pz s.size) → World → Prop)
    (hJb : ∀ pre W W', J pre W → Below W.heap.size W W' → J pre W')
    (hY : ∀ pre x W, J pre W → pre.length < s.size + 1 → YieldAt Fence.wide (n - 1) Tryz.prog l (encP x) W fun e W' =>
      (e = .returned (.bool true) ∧ J (pre ++ [x]) W' ∧ Keep3 Bs Bp 7 W W') ∨ (e = .returned (.bool false) ∧ Jx (pre ++ [x]) W'))
    (W : World) (hm : ML W) (hBs : W.cell? ⟨Bs, 0, none⟩ = some (.string s)) (hBp : W.cell? ⟨Bp, 0, none⟩ = some (.string ⟨#[b]⟩)) (h0 : J [] W) :
    CallsIn Fence.wide n Tryz.prog 130 #[.func (.yield l) #[] #[], .pointer (some ⟨Bs, 0, none⟩), .pointer (some ⟨Bp, 0, none⟩)] W fun e W' => (∃ v, e = .returned v) ∧
      ((∃ ys : List (Pz s.size), ys.map Pz.z = splitB b s.data.toList ∧ J ys W') ∨ (∃ pre : List (Pz s.size), (∃ rest, pre.map Pz.z ++ rest = splitB b s.data.toList) ∧ Jx pre W')) := by
  refine callsIn_of_wp Tryz.func130 rfl trivial ?_ rfl
  simp only [Tryz.ntmps130, List.size_toArray, List.length_cons, List.length_nil, Nat.reduceAdd, Nat.reduceSub, Array.replicate_succ, Array.replicate_zero, List.push_toArray, List.append_toArray, List.nil_append, List.cons_append]
  have HM : Hid (ML W) := hm
  have HC : Hid (∀ (t : ByteArray), t.size ≤ s.size → ∀ W, ML W → _) := fun t ht W h => Cut_one t b (by omega) W h
  clear hm
  have hlb := cell_lt hBs
  have hlp := cell_lt hBp
  have HG : Hid (7 < W.heap.size) := HM.out.lt
  gi_wp2_with (refine ⟨trivial, (fun h => by cases h), ?_⟩; refine (callsIn_wide.2 (HC.out s (Nat.le_refl _) _ HM.out)).mono ?_; rintro e w1 ⟨rfl, hb1⟩)
  have c1 := (hb1.cell (p := ⟨Bs, 0, none⟩) hlb).trans hBs
  have c2 := (hb1.cell (p := ⟨Bp, 0, none⟩) hlp).trans hBp
  have HM1 : Hid (ML w1) := HM.out.below hb1
  have hJ1 := hJb _ _ _ h0 hb1
  clear hb1
  gi_loopw [4, 5, 6] (fun pv rv mv wr => ∃ cur : List UInt8, pv = .string (str (cutA b cur)) ∧ rv = .string (str (cutB b cur)) ∧ mv = .bool (has b cur) ∧ ∃ pre : List (Pz s.size), Hid (pre.map Pz.z ++ splitB b cur = splitB b s.data.toList) ∧ Hid (cur.length ≤ s.size) ∧ J pre wr ∧ wr.cell? ⟨Bp, 0, none⟩ = some (.string ⟨#[b]⟩) ∧ wr.cell? ⟨Bs, 0, none⟩ = some (.string s) ∧ Hid (ML wr))
    (fun _ rv mv _ => (match mv with | .bool true => 1 | _ => 0) + match rv with | .string r => r.size | _ => 0)
  case atStart => exact ⟨s.data.toList, rfl, rfl, rfl, [], (rfl : ([] : List (Pz s.size)).map Pz.z ++ splitB b s.data.toList = _), (by rw [size_list]; exact Nat.le_refl _ : s.data.toList.length ≤ s.size), hJ1, c2, c1, HM1⟩
  case round =>
    obtain ⟨cur, rfl, rfl, rfl, pre, hpre, hcl, hJs, hcp, hcs, hml⟩ := hrel
    have hal : (cutA b cur).length ≤ s.size := Nat.le_trans (cutA_len b cur) hcl.out
    have hplen : pre.length < s.size + 1 := by
      have h1 := congrArg List.length hpre.out
      have h2 := split_len b s.data.toList
      have h3 := splitB_ne b cur
      rw [List.length_append, List.length_map] at h1
      have h4 : 0 < (splitB b cur).length := List.length_pos_iff.2 h3
      rw [size_list] at h2
      omega
    obtain ⟨fn, tmps, assign, body, hy, hR⟩ := hY pre ⟨cutA b cur, hal⟩ wr hJs hplen
    unfold encP at hy
    dsimp only at hy
    have hsp := split_cut b cur
    have hbl : (cutB b cur).length ≤ cur.length := cutB_len b cur
    have HSP : Hid (_) := hsp
    clear hsp
    have hdec : has b cur = true → (cutB b cur).length < cur.length := by
      intro h
      have := congrArg List.length (cut_app b cur h)
      rw [List.length_append, List.length_cons] at this
      omega
    cases hh : has b cur with
    | true =>
      have hdl := hdec hh
      rw [hh] at HSP
      have HSP2 : Hid (splitB b cur = cutA b cur :: splitB b (cutB b cur)) := (by have := HSP.out; rw [if_pos rfl] at this; exact this : _ = _)
      have HB : Hid (_) := hdl
      clear hdec hdl HSP
      generalize cutA b cur = A at *
      generalize hB : cutB b cur = B at *
      have hBs' : (str B).size ≤ s.size := by rw [str_size]; have := hcl.out; have := HB.out; omega
      gi_wp2
      refine ⟨(fun h => by cases h), hR.mono ?_⟩
      rintro e W3 (⟨rfl, hJ3, hk3⟩ | ⟨rfl, hJx3⟩)
      · have d1 : W3.cell? ⟨Bs, 0, none⟩ = some (.string s) := (hk3.1.cell _).trans hcs
        have d2 : W3.cell? ⟨Bp, 0, none⟩ = some (.string ⟨#[b]⟩) := (hk3.2.1.cell _).trans hcp
        have HM3 : Hid (ML W3) := hml.out.keep hk3.2.2
        have e1 := cell_lt d1
        have e2 := cell_lt d2
        gi_wp2_with (refine ⟨trivial, (fun h => by cases h), ?_⟩; refine (callsIn_wide.2 (HC.out (str B) hBs' _ HM3.out)).mono ?_; rintro e W4 ⟨rfl, hb4⟩)
        have f1 := (hb4.cell (p := ⟨Bs, 0, none⟩) e1).trans d1
        have f2 := (hb4.cell (p := ⟨Bp, 0, none⟩) e2).trans d2
        have HM4 : Hid (ML W4) := HM3.out.below hb4
        have hJ4 := hJb _ _ _ hJ3 hb4
        have HP1 : Hid ((pre ++ [(⟨A, hal⟩ : Pz s.size)]).map Pz.z ++ splitB b B = splitB b s.data.toList) := by
          show _ = _
          rw [List.map_append, List.append_assoc]
          have := hpre.out
          rw [HSP2.out] at this
          exact this
        have HP2 : Hid (B.length ≤ s.size) := by rw [str_size] at hBs'; exact hBs'
        go_roundw
        case rel => exact ⟨B, by rw [str_list], by rw [str_list], by rw [str_list], pre ++ [⟨A, hal⟩], HP1, HP2, hJ4, f2, f1, HM4⟩
        case measure =>
          rw [str_list]
          have h1 := cutB_len b B
          cases hb : has b B with
          | true =>
            have := congrArg List.length (cut_app b B hb)
            rw [List.length_append, List.length_cons] at this
            simp [str_size]
            omega
          | false => simp [str_size]; omega
      · gi_wp2
        go_end0
        exact ⟨⟨_, rfl⟩, .inr ⟨_, ⟨splitB b B, by rw [List.map_append, List.append_assoc]; have := hpre.out; rw [HSP2.out] at this; exact this⟩, hJx3⟩⟩
    | false =>
      rw [hh] at HSP
      have HSP2 : Hid (splitB b cur = [cutA b cur]) := (by have := HSP.out; rw [if_neg (by simp)] at this; exact this : _ = _)
      clear hdec HSP
      generalize cutA b cur = A at *
      generalize cutB b cur = B at *
      gi_wp2
      refine ⟨(fun h => by cases h), hR.mono ?_⟩
      rintro e W3 (⟨rfl, hJ3, hk3⟩ | ⟨rfl, hJx3⟩)
      · gi_wp2
        go_end0
        exact ⟨⟨_, rfl⟩, .inl ⟨_, by rw [List.map_append]; have := hpre.out; rw [HSP2.out] at this; exact this, hJ3⟩⟩
      · gi_wp2
        go_end0
        exact ⟨⟨_, rfl⟩, .inr ⟨_, ⟨[], by rw [List.append_nil, List.map_append]; have := hpre.out; rw [HSP2.out] at this; exact this⟩, hJx3⟩⟩

end Tg
end Go.Proofs.YticncpjpkgdnlaaGreatDoor
