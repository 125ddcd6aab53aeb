import Derived.Test.YtcelekfokbdmfaaGreatDoorMgB1
import Derived.Test.YtcelekfokbdmfaaGreatDoorMgX
import Derived.Test.YtcelekfokbdmfaaGreatDoorMgQ
import Derived.Test.YtcelekfokbdmfaaGreatDoorMgL
import Derived.Test.YtcelekfokbdmfaaGreatDoorMgV
set_option linter.unusedVariables false
set_option linter.unusedSimpArgs false
set_option maxRecDepth 100000
namespace Go.Proofs.YtcelekfokbdmfaaGreatDoor
open Go.RowKit Go.Shelf
namespace Ck
open Oc Tg _root_.Go.Proofs.YtcelekfokbdmfaaGreatDoor.Fd
theorem hexB_10 {c : UInt8} (h : hexB c = true) : c ≠ 10 := fun e => by rw [e] at h; revert h; decide +kernel
theorem hexd_lf (n : Nat) : noLf (hexd n) := fun c hc => hexB_10 (hexd_hex n c hc)
theorem noLf_app {a b : List UInt8} (h : noLf a) (k : noLf b) : noLf (a ++ b) := fun c hc => by
  rcases List.mem_append.1 hc with h' | h'
  · exact h c h'
  · exact k c h'
theorem noLf_13 : noLf [13] := fun c hc => by simp at hc; subst hc; decide
theorem tok_10 {c : UInt8} (h : tokB c = true) : c ≠ 10 := fun e => by rw [e] at h; revert h; decide +kernel
theorem field_10 {c : UInt8} (h : fieldB c = true) : c ≠ 10 := fun e => by rw [e] at h; revert h; decide +kernel
theorem eat_chunkC {most room fields : Int} {b t : List UInt8} (r : List UInt8) (hl : t.length ≤ 1099511627776) (h : (t.length : Int) ≤ most - b.length) :
    eat (stS most room fields b) (chunkC t ++ r) = ((chunkC t).length + (eat (stS most room fields (b ++ t)) r).1, (eat (stS most room fields (b ++ t)) r).2) := by
  by_cases h0 : t = []
  · subst h0
    simp [chunkC]
  · have hlen := hexd_len 10 t.length (Nat.lt_of_le_of_lt hl (by decide))
    have hs := sizeR_hexd t.length hl
    have hpos : 0 < t.length := List.length_pos_iff.2 h0
    have e : chunkC t ++ r = (hexd t.length ++ [13]) ++ 10 :: (t ++ (retAt 0 :: retAt 1 :: r)) := by
      unfold chunkC lineC
      rw [if_neg h0]
      simp [retAt]
    have el : (chunkC t).length = (hexd t.length ++ [13]).length + 1 + t.length + 1 + 1 := by
      unfold chunkC lineC
      rw [if_neg h0]
      simp only [List.length_append, List.length_cons, List.length_nil]
    have h1 := line0_chunk (s := stS most room fields b) (l := hexd t.length ++ [13]) (k := hexd t.length) (r := t ++ (retAt 0 :: retAt 1 :: r)) rfl ⟨rfl, rfl, rfl⟩ (noLf_app (hexd_lf _) noLf_13) (by rw [List.length_append]; simp; omega) rfl (by rw [hs]) (by rw [hs]; show ¬ most - (b.length : Int) < (t.length : Int); omega) (by rw [hs]; show (t.length : Int) ≠ 0; omega)
    rw [hs] at h1
    have h2 := eat_on h1 (chunk_all (most := most) (room := room) (fields := fields) (b := b) (t := t) (r := retAt 0 :: retAt 1 :: r) (n := (t.length : Int)) rfl h0)
    have h3 := eat_on h2 (stK_on most room fields (b ++ t) 0 (by omega) (retAt 1 :: r))
    have h4 := eat_on h3 (stK_on most room fields (b ++ t) 1 (by omega) r)
    rw [stK_two] at h4
    rw [e, h4, el]
theorem eat_cutC : ∀ {most room fields : Int} (l : List Int) (b t r : List UInt8), t.length ≤ 1099511627776 → (t.length : Int) ≤ most - b.length →
    eat (stS most room fields b) (cutC l t ++ r) = ((cutC l t).length + (eat (stS most room fields (b ++ t)) r).1, (eat (stS most room fields (b ++ t)) r).2)
  | most, room, fields, [], b, t, r, hl, h => eat_chunkC r hl h
  | most, room, fields, n :: l, b, t, r, hl, h => by
    have h1 : (t.take n.toNat).length ≤ t.length := by rw [List.length_take]; omega
    have h2 : (t.drop n.toNat).length = t.length - n.toNat := List.length_drop
    have h3 : (t.take n.toNat).length = min n.toNat t.length := List.length_take
    have e1 := eat_chunkC (most := most) (room := room) (fields := fields) (b := b) (t := t.take n.toNat) (cutC l (t.drop n.toNat) ++ r) (by omega) (by omega)
    have e2 := eat_cutC (most := most) (room := room) (fields := fields) l (b ++ t.take n.toNat) (t.drop n.toNat) r (by omega) (by rw [List.length_append]; omega)
    have e3 := eat_on e1 e2
    have e4 : b ++ t.take n.toNat ++ t.drop n.toNat = b ++ t := by rw [List.append_assoc, List.take_append_drop]
    rw [e4] at e3
    show eat _ ((chunkC (t.take n.toNat) ++ cutC l (t.drop n.toNat)) ++ r) = ((chunkC (t.take n.toNat) ++ cutC l (t.drop n.toNat)).length + _, _)
    rw [List.append_assoc, e3, List.length_append]
theorem lineC_zero : lineC 0 = [48, 13, 10] := by decide +kernel
theorem eat_last {most room fields : Int} {b : List UInt8} (r : List UInt8) (h : (b.length : Int) ≤ most) :
    eat (stS most room fields b) (lineC 0 ++ r) = (3 + (eat (stT most room fields b [] 0) r).1, (eat (stT most room fields b [] 0) r).2) := by
  have hs := sizeR_hexd 0 (by omega)
  have hh : hexd 0 = [48] := by decide +kernel
  rw [hh] at hs
  have h1 := line0_last (s := stS most room fields b) (l := [48, 13]) (k := [48]) (r := r) rfl ⟨rfl, rfl, rfl⟩ (fun c hc => by simp at hc; rcases hc with rfl | rfl <;> decide) (by simp) rfl (by rw [hs]) (by rw [hs]; show ¬ most - (b.length : Int) < ((0 : Nat) : Int); omega) (by rw [hs]; rfl)
  rw [stT_of] at h1
  rw [lineC_zero]
  exact h1
theorem isName_tok {l : List UInt8} (h : isName l = true) : ∀ c ∈ l, tokB c = true := fun c hc => by
  unfold isName isTok at h
  simp only [Bool.and_eq_true, List.all_eq_true] at h
  first | exact h.1.2 c hc | exact h.1.1 c hc | exact h.2.1 c hc | exact h.2.2 c hc
theorem okT_is {p : Fl} (h : okT p = true) : isName p.1 = true ∧ isValue p.2 = true ∧ trails p.1 = true := by
  unfold okT at h
  simp only [Bool.and_eq_true] at h
  exact ⟨h.1.1, h.1.2, h.2⟩
theorem line_10 {p : Fl} (h1 : isName p.1 = true) (h2 : isValue p.2 = true) : noLf (lineP p) := by
  have hv : ∀ c ∈ p.2, c ≠ 10 := fun c hc => by
    unfold isValue isFld at h2
    simp only [Bool.and_eq_true, List.all_eq_true] at h2
    exact field_10 (by first | exact h2.1.2 c hc | exact h2.1.1 c hc | exact h2.2.1 c hc | exact h2.2.2 c hc | exact h2.1 c hc | exact h2.2 c hc | exact h2.1.1.1 c hc | exact h2.1.1.2 c hc)
  intro c hc
  unfold lineP at hc
  split at hc
  · rcases List.mem_append.1 hc with h | h
    · exact tok_10 (isName_tok h1 c h)
    · simp at h; subst h; decide
  · rcases List.mem_append.1 hc with h | h
    · rcases List.mem_append.1 h with h | h
      · rcases List.mem_append.1 h with h | h
        · exact tok_10 (isName_tok h1 c h)
        · simp at h; subst h; decide
      · simp at h; subst h; decide
    · exact hv c h
theorem lineP_ne (p : Fl) : lineP p ≠ [] := by
  unfold lineP
  split <;> simp
theorem eat_trailG : ∀ {m rm f : Int} {b : List UInt8} (t acc : List Fl) (u : Nat) (r : List UInt8), t.all okT = true → ((trailG t).length : Int) + 2 ≤ rm - u → (acc.length : Int) + t.length ≤ f →
    Sees (eat (stT m rm f b acc u) (trailG t ++ [13, 10] ++ r)) ((trailG t).length + 2) 0 true b (acc ++ t)
  | m, rm, f, b, [], acc, u, r, hok, hr, hf => by
    have := line4_end (m := m) (rm := rm) (f := f) (b := b) (l := [13]) (r := r) (t := acc) (u := u) noLf_13 (by simp [trailG] at hr ⊢; omega) rfl
    simp only [List.append_nil]
    exact this
  | m, rm, f, b, p :: t, acc, u, r, hok, hr, hf => by
    rw [List.all_cons, Bool.and_eq_true] at hok
    obtain ⟨k1, k2, k3⟩ := okT_is hok.1
    have hp := parse_line k1 k2
    have e : trailG (p :: t) ++ [13, 10] ++ r = (lineP p ++ [13]) ++ 10 :: (trailG t ++ [13, 10] ++ r) := by simp [trailG]
    have el : (trailG (p :: t)).length = (lineP p ++ [13]).length + 1 + (trailG t).length := by simp [trailG]; omega
    simp only [List.length_cons] at hf
    have h1 := line4_on (m := m) (rm := rm) (f := f) (b := b) (l := lineP p ++ [13]) (k := lineP p) (r := trailG t ++ [13, 10] ++ r) (t := acc) (u := u) (noLf_app (line_10 k1 k2) noLf_13) (by omega) rfl (lineP_ne p) (by omega) (by rw [hp]; simp [k3])
    rw [hp] at h1
    have h2 := eat_trailG (m := m) (rm := rm) (f := f) (b := b) t (acc ++ [p]) (u + ((lineP p ++ [13]).length + 1)) r hok.2 (by omega) (by rw [List.length_append]; simp only [List.length_cons, List.length_nil]; omega)
    have h3 := Sees.on h1 h2
    rw [e, el]
    have e4 : acc ++ [p] ++ t = acc ++ p :: t := by simp
    rw [e4] at h3
    have e5 : (lineP p ++ [13]).length + 1 + ((trailG t).length + 2) = (lineP p ++ [13]).length + 1 + (trailG t).length + 2 := by omega
    rw [e5] at h3
    exact h3
def encL (body : List UInt8) (l : List Int) (t : List Fl) : List UInt8 := cutC l body ++ lineC 0 ++ (trailG t ++ [13, 10])
theorem encL_len (body : List UInt8) (l : List Int) (t : List Fl) : (encL body l t).length = (cutC l body).length + (3 + ((trailG t).length + 2)) := by
  unfold encL
  simp only [List.length_append, lineC_zero, List.length_cons, List.length_nil]
  omega
theorem eat_enc {most room fields : Int} (body : List UInt8) (l : List Int) (t : List Fl) (r : List UInt8) (hb : body.length ≤ 1099511627776) (hm : (body.length : Int) ≤ most) (ht : t.all okT = true) (hr : ((trailG t).length : Int) + 2 ≤ room) (hf : (t.length : Int) ≤ fields) :
    Sees (eat (new most room fields) (encL body l t ++ r)) (encL body l t).length 0 true body t := by
  have h1 := eat_cutC (most := most) (room := room) (fields := fields) l [] body (lineC 0 ++ (trailG t ++ [13, 10] ++ r)) hb (by simp; omega)
  rw [List.nil_append] at h1
  have h2 := eat_on h1 (eat_last (most := most) (room := room) (fields := fields) (b := body) (trailG t ++ [13, 10] ++ r) hm)
  have h3 := Sees.on h2 (eat_trailG (m := most) (rm := room) (f := fields) (b := body) t [] 0 r ht (by omega) (by simp; omega))
  rw [stS_new] at h3
  rw [encL_len, show encL body l t ++ r = cutC l body ++ (lineC 0 ++ (trailG t ++ [13, 10] ++ r)) by unfold encL; simp]
  rw [Nat.add_assoc] at h3
  exact h3
end Ck
end Go.Proofs.YtcelekfokbdmfaaGreatDoor
set_option linter.unusedVariables false
set_option linter.unusedSimpArgs false
set_option maxRecDepth 100000
namespace Go.Proofs.YtcelekfokbdmfaaGreatDoor
open Go.RowKit Go.Shelf
namespace Ck
open Oc Tg _root_.Go.Proofs.YtcelekfokbdmfaaGreatDoor.Fd
def inL (L : List (List UInt8)) (x : List UInt8) : Bool := L.contains x
set_option maxRecDepth 100000 in
set_option maxHeartbeats 1000000 in
theorem rIn_any (v : Value) (L : List (List UInt8)) (x : List UInt8) (hl : L.length ≤ 1048576) (w : World) (h : RdS v L w) :
    Calls Tryz.prog 84 #[v, .string (str x)] w fun e w' => e = .returned (.bool (inL L x)) ∧ w' = w := by
  have HR : Hid (RdS v L w) := h
  obtain ⟨a, c, rfl, _⟩ := h
  generalize hX : str x = X
  have HX : Hid (X = str x) := hX.symm
  clear hX
  go_enter Tryz.func84, Tryz.ntmps84
  go_wp2
  go_loop [9] (fun i => ∃ k : Nat, k ≤ L.length ∧ i = .int .i64 k ∧ Hid (∀ j, j < k → L.getD j [] ≠ x)) (fun i => L.length - (intOf i).toNat)
  case atStart => exact ⟨0, Nat.zero_le _, rfl, (fun j hj => by omega : ∀ j, j < 0 → _)⟩
  case round =>
    obtain ⟨k, hk, rfl, hall⟩ := hrel
    by_cases hlt : k < L.length
    · obtain ⟨a', c', e', hcs⟩ := HR.out
      injection e' with e1 _ e2
      subst e1 e2
      rcases hcs with h | ⟨g, o, rfl, hlc, hcell⟩
      · rw [h] at hlt; simp at hlt
      have p0 := hcell k hlt
      clear hcell
      by_cases he : L.getD k [] = x
      · have HE : Hid (inL L x = true) := by
          show _ = _
          unfold inL
          rw [List.contains_iff_mem, ← he, List.getD_eq_getElem?_getD, List.getElem?_eq_getElem hlt]
          exact List.getElem_mem hlt
        rw [he, ← HX.out] at p0
        have hq : (X.toList == X.toList) = true := by simp
        go_wp2
        go_ret
        exact ⟨ret_bool HE.out.symm, rfl⟩
      · have HN : Hid (∀ j, j < k + 1 → L.getD j [] ≠ x) := fun j hj => by
          by_cases hjk : j = k
          · subst hjk; exact he
          · exact hall.out j (by omega)
        have hq : ((str (L.getD k [])).toList == X.toList) = false := by
          rw [eq_toList, decide_eq_false_iff_not, HX.out]
          exact fun e => he (str_inj e)
        generalize str (L.getD k []) = Y at *
        go_wp2
        go_round
        case rel => exact ⟨k + 1, by omega, by go_num, HN⟩
        case measure => simp [intOf]; omega
    · have HE : Hid (inL L x = false) := by
        show _ = _
        unfold inL
        cases hc : L.contains x with
        | false => rfl
        | true =>
          rw [List.contains_iff_mem] at hc
          obtain ⟨j, hj, e⟩ := List.mem_iff_getElem.1 hc
          exact absurd (by rw [List.getD_eq_getElem?_getD, List.getElem?_eq_getElem hj, ← e]; rfl) (hall.out j (by omega))
      go_wp2
      go_ret
      exact ⟨ret_bool HE.out.symm, rfl⟩
def never : Array Value := #[.string ⟨#[99, 111, 110, 110, 101, 99, 116, 105, 111, 110]⟩, .string ⟨#[99, 111, 110, 116, 101, 110, 116, 45, 101, 110, 99, 111, 100, 105, 110, 103]⟩, .string ⟨#[99, 111, 110, 116, 101, 110, 116, 45, 108, 101, 110, 103, 116, 104]⟩, .string ⟨#[99, 111, 110, 116, 101, 110, 116, 45, 114, 97, 110, 103, 101]⟩, .string ⟨#[99, 111, 110, 116, 101, 110, 116, 45, 116, 121, 112, 101]⟩, .string ⟨#[101, 120, 112, 101, 99, 116]⟩, .string ⟨#[104, 111, 115, 116]⟩, .string ⟨#[107, 101, 101, 112, 45, 97, 108, 105, 118, 101]⟩, .string ⟨#[116, 101]⟩, .string ⟨#[116, 114, 97, 105, 108, 101, 114]⟩, .string ⟨#[116, 114, 97, 110, 115, 102, 101, 114, 45, 101, 110, 99, 111, 100, 105, 110, 103]⟩, .string ⟨#[117, 112, 103, 114, 97, 100, 101]⟩]
theorem never_at : ∀ j, j < 12 → never[j]? = some (.string (str (heads.getD j []))) := fun j hj => match j, hj with
  | 0, _ => rfl
  | 1, _ => rfl
  | 2, _ => rfl
  | 3, _ => rfl
  | 4, _ => rfl
  | 5, _ => rfl
  | 6, _ => rfl
  | 7, _ => rfl
  | 8, _ => rfl
  | 9, _ => rfl
  | 10, _ => rfl
  | 11, _ => rfl
theorem never_rd (w : World) : RdS (.slice (some ⟨w.heap.size, 0, none⟩) 12 12) heads (w.alloc (.cells never 9)) := by
  refine ⟨_, 12, rfl, .inr ⟨w.heap.size, 0, rfl, by decide, fun j hj => ?_⟩⟩
  rw [cell_of_row _ w.heap.size _ _ _ _ (heap_alloc_new w _), Nat.zero_add]
  exact never_at j hj
set_option maxHeartbeats 1000000 in
theorem rMayTrail_any (l : List UInt8) (hl : l.length ≤ maxLen) (w : World) :
    Calls Tryz.prog 106 #[.string (str l)] w fun e w' => e = .returned (.bool (trails l)) ∧ Below w.heap.size w w' := by
  have HN : Hid (∀ w, Calls Tryz.prog 101 #[.string (str l)] w fun e w' => e = .returned (.bool (isName l)) ∧ w' = w) := fun w => by
    have h := rIsName_any (str l) (by rw [str_size]; exact hl) w
    rw [str_list] at h
    exact h
  have HL : Hid (∀ w, Calls Tryz.prog 100 #[.string (str l)] w fun e w' => e = .returned (.string (str (lower l))) ∧ Below w.heap.size w w') := fun w => by
    have h := Fd.rLower_any (str l) (by rw [str_size]; exact hl) w
    unfold lowS at h
    rw [str_list] at h
    exact h
  have HI : Hid (∀ w1, Below (w.alloc (.cells never 9)).heap.size (w.alloc (.cells never 9)) w1 → Calls Tryz.prog 84 #[.slice (some ⟨w.heap.size, 0, none⟩) 12 12, .string (str (lower l))] w1 fun e w' => e = .returned (.bool (heads.contains (lower l))) ∧ w' = w1) := fun w1 hb => rIn_any _ heads _ (by decide) w1 ((never_rd w).below hb)
  have HBA : Hid (Below w.heap.size w (w.alloc (.cells never 9))) := (Below.refl _ w).alloc (Nat.le_refl _) _
  unfold trails
  generalize isName l = b at *
  generalize heads.contains (lower l) = c at *
  generalize str (lower l) = M at *
  generalize str l = X at *
  clear hl
  unfold never at *
  cases b with
  | false =>
    go_enter Tryz.func106, Tryz.ntmps106
    go_wp2_with fail
    refine (HN.out _).mono ?_
    rintro e w1 ⟨rfl, hw⟩
    rw [hw]
    go_wp2
    go_ret
    exact ⟨ret_bool (by simp), HBA.out⟩
  | true =>
    go_enter Tryz.func106, Tryz.ntmps106
    go_wp2_with fail
    refine (HN.out _).mono ?_
    rintro e w1 ⟨rfl, hw⟩
    rw [hw]
    go_wp2_with fail
    refine (HL.out _).mono ?_
    rintro e w2 ⟨rfl, hb2⟩
    have HB2 : Hid (Below w.heap.size w w2) := bel_trans HBA.out hb2
    have HB2' := HI.out _ hb2
    clear hb2
    have HI2 : Hid (Calls Tryz.prog 84 #[.slice (some ⟨w.heap.size, 0, none⟩) 12 12, .string M] w2 fun e w' => e = .returned (.bool c) ∧ w' = w2) := HB2'
    clear HB2'
    go_wp2_with fail
    refine HI2.out.mono ?_
    rintro e w3 ⟨rfl, hw3⟩
    rw [hw3]
    go_wp2
    go_ret
    exact ⟨ret_bool (by simp), HB2.out⟩
end Ck
end Go.Proofs.YtcelekfokbdmfaaGreatDoor
set_option linter.unusedVariables false
set_option linter.unusedSimpArgs false
set_option maxRecDepth 100000
namespace Go.Proofs.YtcelekfokbdmfaaGreatDoor
open Go.RowKit Go.Shelf
namespace Ck
open Oc Tg _root_.Go.Proofs.YtcelekfokbdmfaaGreatDoor.Fd
end Ck
end Go.Proofs.YtcelekfokbdmfaaGreatDoor
set_option linter.unusedVariables false
set_option linter.unusedSimpArgs false
set_option maxRecDepth 100000
namespace Go.Proofs.YtcelekfokbdmfaaGreatDoor
open Go.RowKit Go.Shelf
namespace Ck
open Oc Tg _root_.Go.Proofs.YtcelekfokbdmfaaGreatDoor.Fd
def encI (l : List Int) : List Value := l.map fun x => Value.int .i64 x
def OwnI (B : Nat) (v : Value) (l : List Int) (w : World) : Prop := w.ownsRow B 3 1 v l.length (encI l)
theorem infoI : (Tryz.prog.info? 3).map (fun i => (i.zero, i.size, i.bytes)) = some (some (.int .i64 0), 1, 8) := by kernel_rfl
theorem OwnI.rd {B : Nat} {v : Value} {l : List Int} {w : World} (h : OwnI B v l w) (hl : ∀ x ∈ l, -9223372036854775808 ≤ x ∧ x ≤ 9223372036854775807) : RdI w v l := by
  have hall := h
  rcases h.2 with ⟨hn, h0⟩ | ⟨g, cap, cur, rfl, hb, hg, hc, _⟩
  · have : l = [] := by
      have h1 := h0
      unfold encI at h1
      simpa using h1
    subst this
    exact ⟨none, 0, hn, by simp, hl, .inl rfl⟩
  · refine ⟨some ⟨g, 0, none⟩, cap, rfl, by omega, hl, .inr ⟨g, 0, rfl, fun j x hj => ?_⟩⟩
    have := World.ownsRow.cells hall (g := g) rfl j (.int .i64 x) (by unfold encI; rw [List.getElem?_map, hj]; rfl)
    rw [Nat.zero_add]
    have ea : Addr.add ⟨g, 0, none⟩ j = ⟨g, j, none⟩ := by unfold Addr.add; split <;> simp_all
    rw [ea] at this
    exact this
theorem OwnI.below {B : Nat} {v : Value} {l : List Int} {w w' : World} (h : OwnI B v l w) (b : Below w.heap.size w w') : OwnI B v l w' := (But.of_below b).owns h (fun _ _ e => by cases e)
set_option maxHeartbeats 2000000 in
theorem rRight_any (p : Fl) (h1 : p.1.length ≤ maxLen) (h2 : p.2.length ≤ maxLen) (w : World) :
    Calls Tryz.prog 76 #[.agg #[.string (str p.1), .string (str p.2)]] w fun e w' => e = .returned (.bool (okT p)) ∧ Below w.heap.size w w' := by
  obtain ⟨pn, pv⟩ := p
  dsimp only at h1 h2 ⊢
  have HOk : Hid (okT (pn, pv) = (trails pn && isValue pv)) := (by
    unfold okT trails
    dsimp only
    cases isName pn <;> simp [Bool.and_comm] : okT (pn, pv) = _)
  have HM : Hid (∀ w, Calls Tryz.prog 106 #[.string (str pn)] w fun e w' => e = .returned (.bool (trails pn)) ∧ Below w.heap.size w w') := fun w => rMayTrail_any pn h1 w
  have HV : Hid (∀ w, Calls Tryz.prog 102 #[.string (str pv)] w fun e w' => e = .returned (.bool (isValue pv)) ∧ Below w.heap.size w w') := fun w => by
    have h := rIsValue_any (str pv) (by rw [str_size]; exact h2) w
    rw [str_list] at h
    exact h.mono (fun e w' ⟨he, hw⟩ => ⟨he, by rw [hw]; exact Below.refl _ _⟩)
  have hb1 : Below w.heap.size w (w.alloc (.cells #[.string (str pn), .string (str pv)] 80)) := (Below.refl _ w).alloc (Nat.le_refl _) _
  have HB1 : Hid (Below w.heap.size w (w.alloc (.cells #[.string (str pn), .string (str pv)] 80))) := hb1
  rw [HOk.out]
  generalize trails pn = tr at *
  generalize isValue pv = iv at *
  generalize str pn = N at *
  generalize str pv = V at *
  have HC1 : Hid ((w.alloc (.cells #[.string N, .string V] 80)).cell? ⟨w.heap.size, 1, none⟩ = some (.string V)) := (by simp : _ = _)
  clear hb1
  go_enter Tryz.func76, Tryz.ntmps76
  go_wp2_with fail
  refine (HM.out _).mono ?_
  rintro e w2 ⟨rfl, hb2⟩
  have HB2 : Hid (Below w.heap.size w w2) := bel_trans HB1.out hb2
  have hC2 : w2.cell? ⟨w.heap.size, 1, none⟩ = some (.string V) := (hb2.cell (World.block_lt_of_cell? _ _ HC1.out)).trans HC1.out
  clear hb2 HC1 HB1
  cases tr with
  | false =>
    go_wp2
    go_ret
    exact ⟨rfl, HB2.out⟩
  | true =>
    go_wp2_with fail
    refine (HV.out _).mono ?_
    rintro e w3 ⟨rfl, hb3⟩
    have HB3 : Hid (Below w.heap.size w w3) := bel_trans HB2.out hb3
    clear hb3
    go_wp2
    go_ret
    exact ⟨rfl, HB3.out⟩
end Ck
end Go.Proofs.YtcelekfokbdmfaaGreatDoor
