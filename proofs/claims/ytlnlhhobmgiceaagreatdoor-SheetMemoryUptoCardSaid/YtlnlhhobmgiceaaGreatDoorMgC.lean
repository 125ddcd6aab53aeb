/- Several texts as one. -/
import Derived.Test.YtlnlhhobmgiceaaGreatDoorMgB
import Derived.Test.YtlnlhhobmgiceaaGreatDoorMgA
/-
  Tokens, bytes of fields; the answers that keep the laws awake.
-/
set_option linter.unusedVariables false
set_option linter.unusedSimpArgs false
namespace Go.Proofs.YtlnlhhobmgiceaaGreatDoor
open Go.RowKit
namespace Oc

theorem empty_of {s : ByteArray} (h : s.size = 0) : s.toList.isEmpty = true := by rw [ByteArray.toList_eq]; simp [List.length_eq_zero_iff.1 ((size_list s).trans h)]
theorem nonempty_of {s : ByteArray} (h : ¬ s.size = 0) : s.toList.isEmpty = false := by
  rw [ByteArray.toList_eq]
  cases e : s.data.toList with
  | nil => have := size_list s; rw [e] at this; simp at this; omega
  | cons _ _ => rfl
theorem list_ne {s : ByteArray} (h : ¬ s.size = 0) : s.data.toList ≠ [] := by
  intro e
  have := size_list s
  rw [e] at this
  simp at this
  omega
theorem isTok_empty {s : ByteArray} (h : s.size = 0) : isTok s.data.toList = false := by
  have := List.length_eq_zero_iff.1 ((size_list s).trans h)
  rw [this]; rfl

set_option maxHeartbeats 400000 in
theorem IsToken_any (s : ByteArray) (hs : s.size ≤ maxLen) (w : World) (t : Tab w) :
    Calls Tryz.prog 30 #[.string s] w fun e w' => e = .returned (.bool (isTok s.data.toList)) ∧ Below w.heap.size w w' := by
  by_cases hz : s.size = 0
  · have he := empty_of hz
    have HE : Hid (isTok s.data.toList = false) := isTok_empty hz
    clear hz
    go_enter Tryz.func30, Tryz.ntmps30
    go_wp2
    go_ret
    exact ⟨ret_bool HE.out.symm, Below.refl _ _⟩
  · have he := nonempty_of hz
    have HE : Hid (isTok s.data.toList = decide ((tokLen s.data.toList : Int) = (s.data.toList.length : Int))) := isTok_len _ (list_ne hz)
    have HT : Hid (Tab w) := t
    clear t
    go_enter Tryz.func30, Tryz.ntmps30
    go_wp2_with fail
    refine (tokenLength_any s hs _ HT.out).mono ?_
    rintro e w' ⟨rfl, hb⟩
    go_wp2
    go_ret
    exact ⟨ret_bool (by rw [HE.out, size_list]; rw [Bool.eq_iff_iff, beq_iff_eq, decide_eq_true_iff]), hb⟩

set_option maxHeartbeats 400000 in
theorem IsField_any (s : ByteArray) (hs : s.size ≤ maxLen) (w : World) :
    Calls Tryz.prog 151 #[.string s] w fun e w' => e = .returned (.bool (isFld s.data.toList)) ∧ Below w.heap.size w w' := by
  unfold maxLen at hs
  have hcv := fun w => Lib.run_convert_string_bytes (P := Tryz.prog) w 9 78 5 s Tryz.underlying9 Tryz.underlying78 Tryz.underlying5
  have hb := below_bytes w 5 s
  have hc := bytes_cell w 5 s
  go_enter Tryz.func151, Tryz.ntmps151
  go_wp2
  go_loop [8] (fun i => ∃ k : Nat, k ≤ s.size ∧ i = .int .i64 k ∧ Hid (∀ j, j < k → fieldI (byt s j) = true)) (fun i => s.size - (intOf i).toNat)
  case atStart => exact ⟨0, Nat.zero_le _, rfl, (fun j hj => by omega : ∀ j, j < 0 → _)⟩
  case round =>
    obtain ⟨k, hk, rfl, hall⟩ := hrel
    by_cases hlt : k < s.size
    · have hck := hc k hlt
      obtain ⟨b0, b1⟩ := byt_bd s k
      cases ht : fieldI (byt s k) with
      | true =>
        have HA : Hid (∀ j, j < k + 1 → fieldI (byt s j) = true) := by
          intro j hj
          by_cases hjk : j = k
          · subst hjk; exact ht
          · exact hall.out j (by omega)
        go_wp2_with (go_at_call 142; refine (isFieldByte_any _ b0 b1 _).mono ?_; rintro e w' ⟨rfl, rfl⟩)
        go_round
        case rel => exact ⟨k + 1, by omega, by go_num, HA⟩
        case measure => simp [intOf]; omega
      | false =>
        have HE : Hid (isFld s.data.toList = false) := all_not fieldB 0 _ k (by rw [size_list]; exact hlt) ht
        go_wp2_with (go_at_call 142; refine (isFieldByte_any _ b0 b1 _).mono ?_; rintro e w' ⟨rfl, rfl⟩)
        go_ret
        exact ⟨ret_bool HE.out.symm, hb⟩
    · have HE : Hid (isFld s.data.toList = true) := all_of fieldB 0 _ (fun j hj => hall.out j (by rw [size_list] at hj; omega))
      go_wp2
      go_ret
      exact ⟨ret_bool HE.out.symm, hb⟩

theorem low_ab : lowS ⟨#[97, 66]⟩ = ⟨#[97, 98]⟩ := by decide +kernel
theorem num_12 : numR 10 (⟨#[49, 50]⟩ : ByteArray).data.toList 12 = (12, 0) := by decide +kernel
theorem tok_x : isTok (⟨#[120]⟩ : ByteArray).data.toList = true := by decide +kernel

end Oc
end Go.Proofs.YtlnlhhobmgiceaaGreatDoor

/-
  Plain mathematics for package target: signs, triples, classes, pieces. Nothing of the program.
-/
set_option linter.unusedVariables false
set_option linter.unusedSimpArgs false
namespace Go.Proofs.YtlnlhhobmgiceaaGreatDoor
namespace Tg

def hx (c : UInt8) : Bool := Oc.hexI (c.toNat : Int)
def vl (c : UInt8) : Nat := (Oc.valI (c.toNat : Int)).toNat
def byteOf (a b : UInt8) : UInt8 := UInt8.ofNat (vl a * 16 + vl b)
/-- Does a percent triple stand at the front? -/
def trip : List UInt8 → Bool
  | p :: a :: b :: _ => p == 37 && (hx a && hx b)
  | _ => false
theorem trip_len {l : List UInt8} (h : trip l = true) : 3 ≤ l.length := by
  match l, h with
  | p :: a :: b :: t, _ => simp
theorem trip_take (l : List UInt8) : trip (l.take 3) = trip l := by
  match l with
  | [] => rfl
  | [_] => rfl
  | [_, _] => rfl
  | p :: a :: b :: t => rfl
theorem trip_head {c : UInt8} {t : List UInt8} (h : trip (c :: t) = true) : c = 37 := by
  match t, h with
  | a :: b :: t, h => simp [trip] at h; exact h.1
/-- A sign, and its place. -/
structure Sg where
  at_ : Nat
  z : List UInt8
  ok : (z.length = 3 ∧ trip z = true) ∨ (z.length = 1 ∧ trip z = false)
theorem ok3 {l : List UInt8} (h : trip l = true) : ((l.take 3).length = 3 ∧ trip (l.take 3) = true) ∨ ((l.take 3).length = 1 ∧ trip (l.take 3) = false) := by
  have := trip_len h
  exact .inl ⟨by rw [List.length_take]; omega, by rw [trip_take]; exact h⟩
theorem ok1 (c : UInt8) : ([c].length = 3 ∧ trip [c] = true) ∨ ([c].length = 1 ∧ trip [c] = false) := .inr ⟨rfl, rfl⟩
/-- The signs of a text. -/
def sg (p : Nat) (l : List UInt8) : List Sg :=
  match l with
  | [] => []
  | c :: t => if h : trip (c :: t) = true then ⟨p, (c :: t).take 3, ok3 h⟩ :: sg (p + 3) (t.drop 2) else ⟨p, [c], ok1 c⟩ :: sg (p + 1) t
termination_by l.length
decreasing_by
  · simp; omega
  · simp
theorem sg_nil (p : Nat) : sg p [] = [] := by rw [sg]
theorem sg_trip (p : Nat) (l : List UInt8) (h : trip l = true) : sg p l = ⟨p, l.take 3, ok3 h⟩ :: sg (p + 3) (l.drop 3) := by
  match l, h with
  | c :: t, h => rw [sg, dif_pos h]; rfl
theorem sg_one (p : Nat) (c : UInt8) (t : List UInt8) (h : trip (c :: t) = false) : sg p (c :: t) = ⟨p, [c], ok1 c⟩ :: sg (p + 1) t := by
  rw [sg, dif_neg (by simp [h])]
theorem sg_len (p : Nat) (l : List UInt8) : (sg p l).length ≤ l.length := by
  match l with
  | [] => rw [sg_nil]; exact Nat.le_refl _
  | c :: t =>
    by_cases h : trip (c :: t) = true
    · rw [sg_trip p _ h]
      have := sg_len (p + 3) ((c :: t).drop 3)
      simp at this ⊢
      have := trip_len h
      simp at this
      omega
    · rw [sg_one p c t (by simpa using h)]
      have := sg_len (p + 1) t
      simp; omega
termination_by l.length
decreasing_by
  · simp; omega
  · simp
/-- What a sign stands for; its normal form. -/
def valS (x : Sg) : List UInt8 := match x.z with | [_, a, b] => [byteOf a b] | z => z
def unr (c : UInt8) : Bool := Oc.lettI (c.toNat : Int) || Oc.digI (c.toNat : Int) || [45, 46, 95, 126].contains c
def sub (c : UInt8) : Bool := [33, 36, 38, 39, 40, 41, 42, 43, 44, 59, 61].contains c
def col (c : UInt8) : Bool := c == 58 || c == 64
def cls (c : UInt8) : Int := if unr c then 1 else if sub c then 2 else if col c then 4 else if c == 47 then 8 else if c == 63 then 16 else 0
def hd (n : Nat) : UInt8 := [48, 49, 50, 51, 52, 53, 54, 55, 56, 57, 65, 66, 67, 68, 69, 70].getD n 0
def encB (c : UInt8) : List UInt8 := if unr c then [c] else [37, hd (c.toNat / 16), hd (c.toNat % 16)]
def enc (l : List UInt8) : List UInt8 := l.flatMap encB
def bad (x : Sg) : Bool := x.z == [37]
def decR (l : List UInt8) : List UInt8 × Nat × Int := match (sg 0 l).find? bad with | some x => ([], x.at_, 51) | none => ((sg 0 l).flatMap valS, 0, 0)
/-- The first sign that may not stand there, its error. -/
def wrong (ok : UInt8 → Bool) (x : Sg) : Bool := !(x.z.length == 3) && !ok (x.z.headD 0)
def chk (ok : UInt8 → Bool) (other : Int) (l : List UInt8) : Nat × Int := match (sg 0 l).find? (wrong ok) with | some x => (x.at_, if x.z = [37] then 51 else other) | none => (0, 0)
def nt (x : Sg) : List UInt8 := if x.z.length = 3 then enc (valS x) else x.z
def ntr (l : List UInt8) : List UInt8 := (sg 0 l).flatMap nt
def nameOk (c : UInt8) : Bool := unr c || sub c
def pathOk (c : UInt8) : Bool := unr c || sub c || col c || c == 47
def queryOk (c : UInt8) : Bool := unr c || sub c || col c || c == 47 || c == 63

/-- The pieces between a byte. -/
def cutA (b : UInt8) (l : List UInt8) : List UInt8 := l.takeWhile (· != b)
def cutB (b : UInt8) (l : List UInt8) : List UInt8 := (l.dropWhile (· != b)).drop 1
def has (b : UInt8) (l : List UInt8) : Bool := l.contains b
def splitB (b : UInt8) : List UInt8 → List (List UInt8)
  | [] => [[]]
  | c :: t => if c == b then [] :: splitB b t else match splitB b t with | h :: r => (c :: h) :: r | [] => [[c]]
theorem splitB_ne (b : UInt8) (l : List UInt8) : splitB b l ≠ [] := by
  cases l with
  | nil => simp [splitB]
  | cons c t =>
    unfold splitB
    by_cases h : (c == b) = true
    · rw [if_pos h]; simp
    · rw [if_neg h]; split <;> simp
theorem splitB_cons (b c : UInt8) (t : List UInt8) : splitB b (c :: t) = if c == b then [] :: splitB b t else match splitB b t with | h :: r => (c :: h) :: r | [] => [[c]] := rfl
theorem split_cut (b : UInt8) (l : List UInt8) : splitB b l = cutA b l :: if has b l then splitB b (cutB b l) else [] := by
  induction l with
  | nil => rfl
  | cons c t ih =>
    rw [splitB_cons]
    by_cases h : c = b
    · subst h
      simp [cutA, cutB, has]
    · have h2 : ¬ b = c := fun e => h e.symm
      have e1 : cutA b (c :: t) = c :: cutA b t := by simp [cutA, h]
      have e2 : cutB b (c :: t) = cutB b t := by simp [cutB, h]
      have e3 : has b (c :: t) = has b t := by simp [has, h2]
      rw [if_neg (by simpa using h), ih, e1, e2, e3]
theorem split_len (b : UInt8) (l : List UInt8) : (splitB b l).length ≤ l.length + 1 := by
  induction l with
  | nil => simp [splitB]
  | cons c t ih =>
    unfold splitB
    by_cases h : (c == b) = true
    · rw [if_pos h]; simp; omega
    · rw [if_neg h]
      revert ih
      cases splitB b t with
      | nil => simp
      | cons h r => simp; omega
theorem cutA_len (b : UInt8) (l : List UInt8) : (cutA b l).length ≤ l.length := (List.takeWhile_sublist _).length_le
theorem cutB_len (b : UInt8) (l : List UInt8) : (cutB b l).length ≤ l.length := by
  unfold cutB
  have := (List.dropWhile_sublist (fun x => x != b) (l := l)).length_le
  rw [List.length_drop]
  omega

end Tg
end Go.Proofs.YtlnlhhobmgiceaaGreatDoor

/-
  Plain mathematics for package target: signs of texts put together, triples written and read back.
-/
set_option linter.unusedVariables false
set_option linter.unusedSimpArgs false
namespace Go.Proofs.YtlnlhhobmgiceaaGreatDoor
namespace Tg

theorem sg_z (p q : Nat) (l : List UInt8) : (sg p l).map Sg.z = (sg q l).map Sg.z := by
  match l with
  | [] => rw [sg_nil, sg_nil]
  | c :: t =>
    by_cases h : trip (c :: t) = true
    · rw [sg_trip p _ h, sg_trip q _ h]
      simp only [List.map_cons]
      rw [sg_z (p + 3) (q + 3) ((c :: t).drop 3)]
    · rw [sg_one p c t (by simpa using h), sg_one q c t (by simpa using h)]
      simp only [List.map_cons]
      rw [sg_z (p + 1) (q + 1) t]
termination_by l.length
decreasing_by
  · simp; omega
  · simp
/-- The signs of a text, without their places. -/
def zs (l : List UInt8) : List (List UInt8) := (sg 0 l).map Sg.z
theorem zs_nil : zs [] = [] := by unfold zs; rw [sg_nil]; rfl
theorem zs_trip (l : List UInt8) (h : trip l = true) : zs l = l.take 3 :: zs (l.drop 3) := by
  unfold zs; rw [sg_trip 0 l h, List.map_cons, sg_z _ 0]
theorem zs_one (c : UInt8) (t : List UInt8) (h : trip (c :: t) = false) : zs (c :: t) = [c] :: zs t := by
  unfold zs; rw [sg_one 0 c t h, List.map_cons, sg_z _ 0]
theorem trip_ne {c : UInt8} (h : c ≠ 37) (t : List UInt8) : trip (c :: t) = false := by
  cases hh : trip (c :: t) with
  | false => rfl
  | true => exact absurd (trip_head hh) h
theorem zs_flat (l : List UInt8) : (zs l).flatten = l := by
  match l with
  | [] => rw [zs_nil]; rfl
  | c :: t =>
    by_cases h : trip (c :: t) = true
    · rw [zs_trip _ h, List.flatten_cons, zs_flat ((c :: t).drop 3), List.take_append_drop]
    · rw [zs_one c t (by simpa using h), List.flatten_cons, zs_flat t]; rfl
termination_by l.length
decreasing_by
  · simp; omega
  · simp
def valZ (z : List UInt8) : List UInt8 := match z with | [_, a, b] => [byteOf a b] | z => z
theorem valS_z (x : Sg) : valS x = valZ x.z := rfl
def goodZ (ok : UInt8 → Bool) (z : List UInt8) : Bool := z.length == 3 || ok (z.headD 0)
/-- A text in which each % begins a triple. -/
def whole (l : List UInt8) : Bool := (zs l).all fun z => z != [37]
def allOk (ok : UInt8 → Bool) (l : List UInt8) : Bool := (zs l).all (goodZ ok)
theorem zs_append (a b : List UInt8) (h : whole a = true) : zs (a ++ b) = zs a ++ zs b := by
  match a with
  | [] => rw [zs_nil]; rfl
  | c :: t =>
    by_cases ht : trip (c :: t) = true
    · have h3 := trip_len ht
      have e : trip (c :: t ++ b) = true := by
        rw [← trip_take, List.take_append_of_le_length h3, trip_take]; exact ht
      have hw : whole ((c :: t).drop 3) = true := by
        unfold whole at h ⊢
        rw [zs_trip _ ht, List.all_cons, Bool.and_eq_true] at h
        exact h.2
      rw [zs_trip _ e, zs_trip _ ht, List.take_append_of_le_length h3, List.drop_append_of_le_length h3, zs_append _ b hw]
      rfl
    · have ht' : trip (c :: t) = false := by simpa using ht
      have hw : whole t = true ∧ c ≠ 37 := by
        unfold whole at h ⊢
        rw [zs_one _ _ ht', List.all_cons, Bool.and_eq_true] at h
        exact ⟨h.2, by simpa using h.1⟩
      rw [List.cons_append, zs_one c _ (trip_ne hw.2 _), zs_one c t ht', zs_append t b hw.1]
      rfl
termination_by a.length
decreasing_by
  · simp; omega
  · simp
theorem whole_append (a b : List UInt8) (h : whole a = true) : whole (a ++ b) = whole b := by
  unfold whole at h ⊢; rw [zs_append a b h, List.all_append, h, Bool.true_and]
theorem allOk_append (ok : UInt8 → Bool) (a b : List UInt8) (h : whole a = true) : allOk ok (a ++ b) = (allOk ok a && allOk ok b) := by
  unfold allOk; rw [zs_append a b h, List.all_append]
theorem whole_of (ok : UInt8 → Bool) (h37 : ok 37 = false) (l : List UInt8) (h : allOk ok l = true) : whole l = true := by
  unfold allOk at h; unfold whole
  rw [List.all_eq_true] at h ⊢
  intro z hz
  have := h z hz
  by_cases e : z = [37]
  · subst e; simp [goodZ, h37] at this
  · simpa using e

/-- The results, by the signs alone. -/
theorem chk_ok (ok : UInt8 → Bool) (other : Int) (l : List UInt8) (h : allOk ok l = true) : chk ok other l = (0, 0) := by
  unfold chk
  have : (sg 0 l).find? (wrong ok) = none := by
    rw [List.find?_eq_none]
    intro x hx
    unfold allOk zs at h
    rw [List.all_map, List.all_eq_true] at h
    have := h x hx
    simp [goodZ] at this
    simp [wrong]
    intro h3
    rcases this with h | h
    · exact absurd h h3
    · exact h
  rw [this]
theorem chk_bad (ok : UInt8 → Bool) (other : Int) (ho : other ≠ 0) (l : List UInt8) (h : allOk ok l = false) : (chk ok other l).2 ≠ 0 := by
  unfold chk
  split
  · dsimp only; split <;> first | decide | exact ho
  · rename_i e
    rw [List.find?_eq_none] at e
    exfalso
    rw [Bool.eq_false_iff] at h
    apply h
    unfold allOk zs
    rw [List.all_map, List.all_eq_true]
    intro x hx
    have := e x hx
    simp [wrong] at this
    simp [goodZ]
    by_cases h3 : x.z.length = 3
    · exact .inl h3
    · exact .inr (this h3)
theorem decR_whole (l : List UInt8) (h : whole l = true) : decR l = ((zs l).flatMap valZ, 0, 0) := by
  unfold decR
  have : (sg 0 l).find? bad = none := by
    rw [List.find?_eq_none]
    intro x hx
    unfold whole zs at h
    rw [List.all_map, List.all_eq_true] at h
    have := h x hx
    simpa [bad] using this
  rw [this]
  unfold zs
  rw [List.flatMap_map]
  rfl
theorem decR_not (l : List UInt8) (h : whole l = false) : (decR l).1 = [] ∧ (decR l).2.2 = 51 := by
  unfold decR
  split
  · exact ⟨rfl, rfl⟩
  · rename_i e
    rw [List.find?_eq_none] at e
    exfalso
    rw [Bool.eq_false_iff] at h
    apply h
    unfold whole zs
    rw [List.all_map, List.all_eq_true]
    intro x hx
    simpa [bad] using e x hx

theorem hd_facts : ∀ n : Nat, n < 256 → (hx (hd (n / 16)) && hx (hd (n % 16))) = true ∧ byteOf (hd (n / 16)) (hd (n % 16)) = UInt8.ofNat n := by decide +kernel
theorem unr37 : unr 37 = false := by decide +kernel
theorem hd_trip (c : UInt8) (t : List UInt8) : trip (37 :: hd (c.toNat / 16) :: hd (c.toNat % 16) :: t) = true := by
  have := (hd_facts c.toNat c.toNat_lt).1
  simp [trip]
  simpa using this
theorem hd_byte (c : UInt8) : byteOf (hd (c.toNat / 16)) (hd (c.toNat % 16)) = c := by
  rw [(hd_facts c.toNat c.toNat_lt).2]; simp
theorem zs_encB (c : UInt8) : zs (encB c) = [encB c] := by
  unfold encB
  split
  · rename_i h
    rw [zs_one c [] rfl, zs_nil]
  · rw [zs_trip _ (hd_trip c [])]; simp [zs_nil]
theorem encB_val (c : UInt8) : valZ (encB c) = [c] := by
  unfold encB
  split
  · rfl
  · simp only [valZ, hd_byte]
theorem encB_whole (c : UInt8) : whole (encB c) = true := by
  unfold whole
  rw [zs_encB]
  unfold encB
  split
  · rename_i h
    simp
    intro e
    rw [e, unr37] at h
    cases h
  · simp
theorem zs_enc (l : List UInt8) : zs (enc l) = l.map encB := by
  induction l with
  | nil => exact zs_nil
  | cons c t ih =>
    show zs (encB c ++ enc t) = _
    rw [zs_append _ _ (encB_whole c), ih, zs_encB]
    rfl
theorem enc_whole (l : List UInt8) : whole (enc l) = true := by
  unfold whole
  rw [zs_enc, List.all_map, List.all_eq_true]
  intro c _
  have := encB_whole c
  unfold whole at this
  rw [zs_encB] at this
  simpa using this
theorem dec_enc (l : List UInt8) : decR (enc l) = (l, 0, 0) := by
  rw [decR_whole _ (enc_whole l), zs_enc, List.flatMap_map]
  congr 1
  induction l with
  | nil => rfl
  | cons c t ih => rw [List.flatMap_cons, ih, encB_val]; rfl
theorem enc_append (a b : List UInt8) : enc (a ++ b) = enc a ++ enc b := by unfold enc; rw [List.flatMap_append]
theorem hd_unr : ∀ n : Nat, n < 16 → unr (hd n) = true := by decide +kernel
theorem enc_mem (l : List UInt8) (c : UInt8) (h : c ∈ enc l) : c = 37 ∨ unr c = true := by
  unfold enc at h
  rw [List.mem_flatMap] at h
  obtain ⟨a, _, ha⟩ := h
  unfold encB at ha
  split at ha
  · simp at ha; subst ha; right; assumption
  · have h1 := hd_unr (a.toNat / 16) (by have := a.toNat_lt; omega)
    have h2 := hd_unr (a.toNat % 16) (by omega)
    simp at ha
    rcases ha with rfl | rfl | rfl
    · exact .inl rfl
    · exact .inr h1
    · exact .inr h2
theorem enc_len (l : List UInt8) : (enc l).length ≤ 3 * l.length := by
  induction l with
  | nil => exact Nat.le_refl _
  | cons c t ih =>
    show (encB c ++ enc t).length ≤ _
    rw [List.length_append, List.length_cons]
    have : (encB c).length ≤ 3 := by unfold encB; split <;> simp
    omega
theorem enc_ok (ok : UInt8 → Bool) (h : ∀ c, unr c = true → ok c = true) (l : List UInt8) : allOk ok (enc l) = true := by
  unfold allOk
  rw [zs_enc, List.all_map, List.all_eq_true]
  intro c _
  unfold Function.comp goodZ encB
  split
  · rename_i hu; simp [h c hu]
  · simp
theorem val_len (z : List UInt8) (h : 1 ≤ z.length) : (valZ z).length ≤ z.length := by
  unfold valZ
  split
  · simp
  · exact Nat.le_refl _
theorem nt_len (x : Sg) : (nt x).length ≤ 3 := by
  unfold nt
  split
  · have : (valS x).length ≤ 1 := by
      rw [valS_z]
      rcases x.ok with ⟨h, _⟩ | ⟨h, _⟩
      · match x.z, h with
        | [a, b, c], _ => simp [valZ]
      · omega
    exact Nat.le_trans (enc_len _) (by omega)
  · rcases x.ok with ⟨h, _⟩ | ⟨h, _⟩ <;> omega
theorem valS_len (x : Sg) : (valS x).length = 1 := by
  rw [valS_z]
  rcases x.ok with ⟨h, _⟩ | ⟨h, _⟩
  · match x.z, h with
    | [a, b, c], _ => simp [valZ]
  · match x.z, h with
    | [a], _ => simp [valZ]

end Tg
end Go.Proofs.YtlnlhhobmgiceaaGreatDoor

/-
  target: isTriple, tripleByte, classOf, signs.
-/
set_option linter.unusedVariables false
set_option linter.unusedSimpArgs false
namespace Go.Proofs.YtlnlhhobmgiceaaGreatDoor
open Go.RowKit
namespace Tg
open Oc

theorem hx_val (c : UInt8) : hx c = decide (valI (c.toNat : Int) < 16) := hexI_val
theorem vl_int (c : UInt8) : ((vl c : Nat) : Int) = valI (c.toNat : Int) := by
  unfold vl
  have := valI_bd (show (0 : Int) ≤ (c.toNat : Int) by omega)
  omega
theorem num_two (a b : UInt8) : numR 16 [a, b] 255 = if hx a && hx b then (((byteOf a b).toNat : Int), 0) else (0, 11) := by
  unfold numR
  rw [hx_val, hx_val]
  have ha := valI_bd (show (0 : Int) ≤ (a.toNat : Int) by omega)
  have hb := valI_bd (show (0 : Int) ≤ (b.toNat : Int) by omega)
  by_cases h1 : valI (a.toNat : Int) < 16
  · by_cases h2 : valI (b.toNat : Int) < 16
    · have e : ((byteOf a b).toNat : Int) = valI (a.toNat : Int) * 16 + valI (b.toNat : Int) := by
        unfold byteOf
        have v1 := vl_int a
        have v2 := vl_int b
        rw [show (UInt8.ofNat (vl a * 16 + vl b)).toNat = (vl a * 16 + vl b) % 256 from rfl, Nat.mod_eq_of_lt (by omega)]
        omega
      have n : numOf 16 [a, b] = valI (a.toNat : Int) * 16 + valI (b.toNat : Int) := by simp [numOf]
      have c1 : ([a, b].isEmpty || [a, b].any fun c => decide (16 ≤ valI (c.toNat : Int))) = false := by
        simp; omega
      rw [c1, if_neg (by simp), n, if_neg (by omega), if_pos (by simp [h1, h2]), e]
    · have c1 : ([a, b].isEmpty || [a, b].any fun c => decide (16 ≤ valI (c.toNat : Int))) = true := by
        simp; omega
      rw [c1, if_pos rfl, if_neg (by simp [h2])]
  · have c1 : ([a, b].isEmpty || [a, b].any fun c => decide (16 ≤ valI (c.toNat : Int))) = true := by
      simp; omega
    rw [c1, if_pos rfl, if_neg (by simp [h1])]

theorem list3 {s : ByteArray} (h : s.size = 3) : ∃ a b c, s = ⟨#[a, b, c]⟩ := by
  have hl : s.data.toList.length = 3 := (size_list s).trans h
  match hh : s.data.toList, hl with
  | [a, b, c], _ => exact ⟨a, b, c, eq_list (by rw [hh])⟩
theorem list1 {s : ByteArray} (h : s.size = 1) : ∃ a, s = ⟨#[a]⟩ := by
  have hl : s.data.toList.length = 1 := (size_list s).trans h
  match hh : s.data.toList, hl with
  | [a], _ => exact ⟨a, eq_list (by rw [hh])⟩
theorem ext3 (a b c : UInt8) : (⟨#[a, b, c]⟩ : ByteArray).extract 1 3 = ⟨#[b, c]⟩ := rfl

set_option maxRecDepth 100000 in
set_option maxHeartbeats 1000000 in
theorem isTriple_any (s : ByteArray) (w : World) :
    Calls Tryz.prog 50 #[.string s] w fun e w' => e = .returned (.bool (decide (s.size = 3) && trip s.data.toList)) ∧ Below w.heap.size w w' := by
  by_cases h : s.size = 3
  · obtain ⟨a, b, c, rfl⟩ := list3 h
    by_cases ha : a = 37
    · subst ha
      have hn : numR 16 (⟨#[b, c]⟩ : ByteArray).data.toList 255 = _ := num_two b c
      have HC : Hid (∀ w, Calls Tryz.prog 80 #[.string ((⟨#[37, b, c]⟩ : ByteArray).extract 1 3), .int .i64 255] w fun e w' => e = .returned (.tuple #[.int .i64 (if hx b && hx c then (((byteOf b c).toNat : Int), (0 : Int)) else (0, 11)).1, .int .i64 (if hx b && hx c then (((byteOf b c).toNat : Int), (0 : Int)) else (0, 11)).2]) ∧ Below w.heap.size w w') := fun w => by
        have := Hex_any ⟨#[b, c]⟩ (by show 2 ≤ maxLen; unfold maxLen; decide) 255 (by omega) (by omega) w
        rw [hn] at this
        exact this
      have ht : trip (⟨#[37, b, c]⟩ : ByteArray).data.toList = (hx b && hx c) := rfl
      rw [ht]
      clear hn ht
      cases hh : hx b && hx c with
      | true =>
        rw [hh] at HC
        go_enter Tryz.func50, Tryz.ntmps50
        go_wp2_with (refine (HC.out _).mono ?_; rintro e w1 ⟨rfl, hb⟩)
        go_ret
        exact ⟨rfl, hb⟩
      | false =>
        rw [hh] at HC
        go_enter Tryz.func50, Tryz.ntmps50
        go_wp2_with (refine (HC.out _).mono ?_; rintro e w1 ⟨rfl, hb⟩)
        go_ret
        exact ⟨rfl, hb⟩
    · have h1 : ((⟨#[a, b, c]⟩ : ByteArray)[0].toNat : Int) = (a.toNat : Int) := rfl
      have h2 : ((a.toNat : Int) != 37) = true := by
        simp
        intro e
        exact ha (UInt8.toNat_inj.1 (by show a.toNat = 37; omega))
      have h3 : trip (⟨#[a, b, c]⟩ : ByteArray).data.toList = false := trip_ne ha _
      rw [h3, Bool.and_false]
      clear h3
      go_enter Tryz.func50, Tryz.ntmps50
      go_wp2
      go_ret
      exact ⟨rfl, Below.refl _ _⟩
  · have h' : (((s.size : Nat) : Int) != 3) = true := by simp; omega
    have hd : decide (s.size = 3) = false := by simp [h]
    rw [hd, Bool.false_and]
    clear hd
    go_enter Tryz.func50, Tryz.ntmps50
    go_wp2
    go_ret
    exact ⟨rfl, Below.refl _ _⟩

set_option maxRecDepth 100000 in
set_option maxHeartbeats 1000000 in
theorem tripleByte_any (a b c : UInt8) (ht : (hx b && hx c) = true) (w : World) :
    Calls Tryz.prog 52 #[.string ⟨#[a, b, c]⟩] w fun e w' => e = .returned (.int .u8 ((byteOf b c).toNat : Int)) ∧ Below w.heap.size w w' := by
  have hn : numR 16 (⟨#[b, c]⟩ : ByteArray).data.toList 255 = _ := num_two b c
  have HC : Hid (∀ w, Calls Tryz.prog 80 #[.string ((⟨#[a, b, c]⟩ : ByteArray).extract 1 3), .int .i64 255] w fun e w' => e = .returned (.tuple #[.int .i64 ((byteOf b c).toNat : Int), .int .i64 0]) ∧ Below w.heap.size w w') := fun w => by
    have := Hex_any ⟨#[b, c]⟩ (by show 2 ≤ maxLen; unfold maxLen; decide) 255 (by omega) (by omega) w
    rw [hn, if_pos ht] at this
    exact this
  have h1 : (byteOf b c).toNat < 256 := (byteOf b c).toNat_lt
  clear hn ht
  generalize (byteOf b c).toNat = n at *
  have h2 : (n : Int) % 256 = n := by omega
  go_enter Tryz.func52, Tryz.ntmps52
  go_wp2_with (refine (HC.out _).mono ?_; rintro e w1 ⟨rfl, hb⟩)
  go_ret
  exact ⟨ret_int (by simp), hb⟩

/-- Classes, by the byte's number. -/
def clsN (n : Nat) : Int := if n = 45 then 1 else if n = 46 then 1 else if n = 95 then 1 else if n = 126 then 1 else if n = 33 then 2 else if n = 36 then 2 else if n = 38 then 2 else if n = 39 then 2 else if n = 40 then 2 else if n = 41 then 2 else if n = 42 then 2 else if n = 43 then 2 else if n = 44 then 2 else if n = 59 then 2 else if n = 61 then 2 else if n = 58 then 4 else if n = 64 then 4 else if n = 47 then 8 else if n = 63 then 16 else if 97 ≤ n ∧ n ≤ 122 ∨ 65 ≤ n ∧ n ≤ 90 ∨ 48 ≤ n ∧ n ≤ 57 then 1 else 0
theorem cls_clsN : ∀ n : Nat, n < 256 → cls (UInt8.ofNat n) = clsN n := by decide +kernel
theorem cls_N (c : UInt8) : cls c = clsN c.toNat := by rw [← cls_clsN c.toNat c.toNat_lt]; simp

set_option maxRecDepth 100000 in
set_option maxHeartbeats 1000000 in
theorem class_45 (w : World) : Calls Tryz.prog 82 #[.int .u8 45] w fun e w' => e = .returned (.int .u8 1) ∧ w' = w := by
  go_enter Tryz.func82, Tryz.ntmps82
  go_wp2
  go_ret
  exact ⟨rfl, rfl⟩

set_option maxRecDepth 100000 in
set_option maxHeartbeats 1000000 in
theorem class_46 (w : World) : Calls Tryz.prog 82 #[.int .u8 46] w fun e w' => e = .returned (.int .u8 1) ∧ w' = w := by
  go_enter Tryz.func82, Tryz.ntmps82
  go_wp2
  go_ret
  exact ⟨rfl, rfl⟩

set_option maxRecDepth 100000 in
set_option maxHeartbeats 1000000 in
theorem class_95 (w : World) : Calls Tryz.prog 82 #[.int .u8 95] w fun e w' => e = .returned (.int .u8 1) ∧ w' = w := by
  go_enter Tryz.func82, Tryz.ntmps82
  go_wp2
  go_ret
  exact ⟨rfl, rfl⟩

set_option maxRecDepth 100000 in
set_option maxHeartbeats 1000000 in
theorem class_126 (w : World) : Calls Tryz.prog 82 #[.int .u8 126] w fun e w' => e = .returned (.int .u8 1) ∧ w' = w := by
  go_enter Tryz.func82, Tryz.ntmps82
  go_wp2
  go_ret
  exact ⟨rfl, rfl⟩

set_option maxRecDepth 100000 in
set_option maxHeartbeats 1000000 in
theorem class_33 (w : World) : Calls Tryz.prog 82 #[.int .u8 33] w fun e w' => e = .returned (.int .u8 2) ∧ w' = w := by
  go_enter Tryz.func82, Tryz.ntmps82
  go_wp2
  go_ret
  exact ⟨rfl, rfl⟩

set_option maxRecDepth 100000 in
set_option maxHeartbeats 1000000 in
theorem class_36 (w : World) : Calls Tryz.prog 82 #[.int .u8 36] w fun e w' => e = .returned (.int .u8 2) ∧ w' = w := by
  go_enter Tryz.func82, Tryz.ntmps82
  go_wp2
  go_ret
  exact ⟨rfl, rfl⟩

set_option maxRecDepth 100000 in
set_option maxHeartbeats 1000000 in
theorem class_38 (w : World) : Calls Tryz.prog 82 #[.int .u8 38] w fun e w' => e = .returned (.int .u8 2) ∧ w' = w := by
  go_enter Tryz.func82, Tryz.ntmps82
  go_wp2
  go_ret
  exact ⟨rfl, rfl⟩

set_option maxRecDepth 100000 in
set_option maxHeartbeats 1000000 in
theorem class_39 (w : World) : Calls Tryz.prog 82 #[.int .u8 39] w fun e w' => e = .returned (.int .u8 2) ∧ w' = w := by
  go_enter Tryz.func82, Tryz.ntmps82
  go_wp2
  go_ret
  exact ⟨rfl, rfl⟩

set_option maxRecDepth 100000 in
set_option maxHeartbeats 1000000 in
theorem class_40 (w : World) : Calls Tryz.prog 82 #[.int .u8 40] w fun e w' => e = .returned (.int .u8 2) ∧ w' = w := by
  go_enter Tryz.func82, Tryz.ntmps82
  go_wp2
  go_ret
  exact ⟨rfl, rfl⟩

set_option maxRecDepth 100000 in
set_option maxHeartbeats 1000000 in
theorem class_41 (w : World) : Calls Tryz.prog 82 #[.int .u8 41] w fun e w' => e = .returned (.int .u8 2) ∧ w' = w := by
  go_enter Tryz.func82, Tryz.ntmps82
  go_wp2
  go_ret
  exact ⟨rfl, rfl⟩

set_option maxRecDepth 100000 in
set_option maxHeartbeats 1000000 in
theorem class_42 (w : World) : Calls Tryz.prog 82 #[.int .u8 42] w fun e w' => e = .returned (.int .u8 2) ∧ w' = w := by
  go_enter Tryz.func82, Tryz.ntmps82
  go_wp2
  go_ret
  exact ⟨rfl, rfl⟩

set_option maxRecDepth 100000 in
set_option maxHeartbeats 1000000 in
theorem class_43 (w : World) : Calls Tryz.prog 82 #[.int .u8 43] w fun e w' => e = .returned (.int .u8 2) ∧ w' = w := by
  go_enter Tryz.func82, Tryz.ntmps82
  go_wp2
  go_ret
  exact ⟨rfl, rfl⟩

set_option maxRecDepth 100000 in
set_option maxHeartbeats 1000000 in
theorem class_44 (w : World) : Calls Tryz.prog 82 #[.int .u8 44] w fun e w' => e = .returned (.int .u8 2) ∧ w' = w := by
  go_enter Tryz.func82, Tryz.ntmps82
  go_wp2
  go_ret
  exact ⟨rfl, rfl⟩

set_option maxRecDepth 100000 in
set_option maxHeartbeats 1000000 in
theorem class_59 (w : World) : Calls Tryz.prog 82 #[.int .u8 59] w fun e w' => e = .returned (.int .u8 2) ∧ w' = w := by
  go_enter Tryz.func82, Tryz.ntmps82
  go_wp2
  go_ret
  exact ⟨rfl, rfl⟩

set_option maxRecDepth 100000 in
set_option maxHeartbeats 1000000 in
theorem class_61 (w : World) : Calls Tryz.prog 82 #[.int .u8 61] w fun e w' => e = .returned (.int .u8 2) ∧ w' = w := by
  go_enter Tryz.func82, Tryz.ntmps82
  go_wp2
  go_ret
  exact ⟨rfl, rfl⟩

set_option maxRecDepth 100000 in
set_option maxHeartbeats 1000000 in
theorem class_58 (w : World) : Calls Tryz.prog 82 #[.int .u8 58] w fun e w' => e = .returned (.int .u8 4) ∧ w' = w := by
  go_enter Tryz.func82, Tryz.ntmps82
  go_wp2
  go_ret
  exact ⟨rfl, rfl⟩

set_option maxRecDepth 100000 in
set_option maxHeartbeats 1000000 in
theorem class_64 (w : World) : Calls Tryz.prog 82 #[.int .u8 64] w fun e w' => e = .returned (.int .u8 4) ∧ w' = w := by
  go_enter Tryz.func82, Tryz.ntmps82
  go_wp2
  go_ret
  exact ⟨rfl, rfl⟩

set_option maxRecDepth 100000 in
set_option maxHeartbeats 1000000 in
theorem class_47 (w : World) : Calls Tryz.prog 82 #[.int .u8 47] w fun e w' => e = .returned (.int .u8 8) ∧ w' = w := by
  go_enter Tryz.func82, Tryz.ntmps82
  go_wp2
  go_ret
  exact ⟨rfl, rfl⟩

set_option maxRecDepth 100000 in
set_option maxHeartbeats 1000000 in
theorem class_63 (w : World) : Calls Tryz.prog 82 #[.int .u8 63] w fun e w' => e = .returned (.int .u8 16) ∧ w' = w := by
  go_enter Tryz.func82, Tryz.ntmps82
  go_wp2
  go_ret
  exact ⟨rfl, rfl⟩

set_option maxRecDepth 100000 in
set_option maxHeartbeats 4000000 in
theorem class_other (n : Nat) (hn : n < 256) (h45 : n ≠ 45) (h46 : n ≠ 46) (h95 : n ≠ 95) (h126 : n ≠ 126) (h33 : n ≠ 33) (h36 : n ≠ 36) (h38 : n ≠ 38) (h39 : n ≠ 39) (h40 : n ≠ 40) (h41 : n ≠ 41) (h42 : n ≠ 42) (h43 : n ≠ 43) (h44 : n ≠ 44) (h59 : n ≠ 59) (h61 : n ≠ 61) (h58 : n ≠ 58) (h64 : n ≠ 64) (h47 : n ≠ 47) (h63 : n ≠ 63) (w : World) : Calls Tryz.prog 82 #[.int .u8 (n : Int)] w fun e w' => e = .returned (.int .u8 (if 97 ≤ n ∧ n ≤ 122 ∨ 65 ≤ n ∧ n ≤ 90 ∨ 48 ≤ n ∧ n ≤ 57 then 1 else 0)) ∧ w' = w := by
  have g45 : ((n : Int) == 45) = false := by simp; omega
  have g46 : ((n : Int) == 46) = false := by simp; omega
  have g95 : ((n : Int) == 95) = false := by simp; omega
  have g126 : ((n : Int) == 126) = false := by simp; omega
  have g33 : ((n : Int) == 33) = false := by simp; omega
  have g36 : ((n : Int) == 36) = false := by simp; omega
  have g38 : ((n : Int) == 38) = false := by simp; omega
  have g39 : ((n : Int) == 39) = false := by simp; omega
  have g40 : ((n : Int) == 40) = false := by simp; omega
  have g41 : ((n : Int) == 41) = false := by simp; omega
  have g42 : ((n : Int) == 42) = false := by simp; omega
  have g43 : ((n : Int) == 43) = false := by simp; omega
  have g44 : ((n : Int) == 44) = false := by simp; omega
  have g59 : ((n : Int) == 59) = false := by simp; omega
  have g61 : ((n : Int) == 61) = false := by simp; omega
  have g58 : ((n : Int) == 58) = false := by simp; omega
  have g64 : ((n : Int) == 64) = false := by simp; omega
  have g47 : ((n : Int) == 47) = false := by simp; omega
  have g63 : ((n : Int) == 63) = false := by simp; omega
  clear h45 h46 h95 h126 h33 h36 h38 h39 h40 h41 h42 h43 h44 h59 h61 h58 h64 h47 h63
  rcases (show n < 48 ∨ (48 ≤ n ∧ n ≤ 57) ∨ (57 < n ∧ n < 65) ∨ (65 ≤ n ∧ n ≤ 90) ∨ (90 < n ∧ n < 97) ∨ (97 ≤ n ∧ n ≤ 122) ∨ 122 < n by omega) with h | ⟨h, h'⟩ | ⟨h, h'⟩ | ⟨h, h'⟩ | ⟨h, h'⟩ | ⟨h, h'⟩ | h
  all_goals
    go_enter Tryz.func82, Tryz.ntmps82
    go_wp2
    go_ret
    exact ⟨ret_int (by first | rfl | rw [if_pos (by omega)] | rw [if_neg (by omega)]), rfl⟩

theorem classOf_any (c : UInt8) (w : World) : Calls Tryz.prog 82 #[.int .u8 (c.toNat : Int)] w fun e w' => e = .returned (.int .u8 (cls c)) ∧ w' = w := by
  rw [cls_N]
  have hn := c.toNat_lt
  generalize c.toNat = n at *
  by_cases h45 : n = 45
  · subst h45; exact class_45 w
  by_cases h46 : n = 46
  · subst h46; exact class_46 w
  by_cases h95 : n = 95
  · subst h95; exact class_95 w
  by_cases h126 : n = 126
  · subst h126; exact class_126 w
  by_cases h33 : n = 33
  · subst h33; exact class_33 w
  by_cases h36 : n = 36
  · subst h36; exact class_36 w
  by_cases h38 : n = 38
  · subst h38; exact class_38 w
  by_cases h39 : n = 39
  · subst h39; exact class_39 w
  by_cases h40 : n = 40
  · subst h40; exact class_40 w
  by_cases h41 : n = 41
  · subst h41; exact class_41 w
  by_cases h42 : n = 42
  · subst h42; exact class_42 w
  by_cases h43 : n = 43
  · subst h43; exact class_43 w
  by_cases h44 : n = 44
  · subst h44; exact class_44 w
  by_cases h59 : n = 59
  · subst h59; exact class_59 w
  by_cases h61 : n = 61
  · subst h61; exact class_61 w
  by_cases h58 : n = 58
  · subst h58; exact class_58 w
  by_cases h64 : n = 64
  · subst h64; exact class_64 w
  by_cases h47 : n = 47
  · subst h47; exact class_47 w
  by_cases h63 : n = 63
  · subst h63; exact class_63 w
  have e : clsN n = if 97 ≤ n ∧ n ≤ 122 ∨ 65 ≤ n ∧ n ≤ 90 ∨ 48 ≤ n ∧ n ≤ 57 then 1 else 0 := by
    unfold clsN
    rw [if_neg h45, if_neg h46, if_neg h95, if_neg h126, if_neg h33, if_neg h36, if_neg h38, if_neg h39, if_neg h40, if_neg h41, if_neg h42, if_neg h43, if_neg h44, if_neg h59, if_neg h61, if_neg h58, if_neg h64, if_neg h47, if_neg h63]
  rw [e]
  exact class_other n hn h45 h46 h95 h126 h33 h36 h38 h39 h40 h41 h42 h43 h44 h59 h61 h58 h64 h47 h63 w

end Tg
end Go.Proofs.YtlnlhhobmgiceaaGreatDoor
