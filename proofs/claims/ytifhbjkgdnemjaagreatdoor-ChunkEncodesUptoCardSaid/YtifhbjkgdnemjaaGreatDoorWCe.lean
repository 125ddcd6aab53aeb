/-
  ChunkEncodes.
-/
import Derived.Test.YtifhbjkgdnemjaaGreatDoorCHo
import Derived.Test.YtifhbjkgdnemjaaGreatDoorOpJ
import Derived.Deep.RegionHeld3
set_option linter.unusedVariables false
set_option linter.unusedSimpArgs false
set_option maxRecDepth 100000
namespace Go.Proofs.YtifhbjkgdnemjaaGreatDoor
open Go.RowKit Go.Shelf
namespace Ck
open Oc Tg _root_.Go.Proofs.YtifhbjkgdnemjaaGreatDoor.Fd

theorem nthI_app (l : List Int) (y : Int) (k : Nat) (h : k < l.length) : nthI (l ++ [y]) k = nthI l k := by
  unfold nthI
  rw [List.getD_eq_getElem?_getD, List.getD_eq_getElem?_getD, List.getElem?_append_left h]
theorem nthI_last (l : List Int) (y : Int) : nthI (l ++ [y]) l.length = y := by
  unfold nthI
  rw [List.getD_eq_getElem?_getD, List.getElem?_append_right (Nat.le_refl _)]
  simp

set_option maxHeartbeats 8000000 in
theorem walk_ChunkEncodes (s : ByteArray) (hb : s.size ≤ 1048576) (v1 : Value) (l : List Int) (hl : l.length ≤ 1048576) (v2 : Value) (t : List Fl) (ht : bulkfields t ≤ 1048576) (w : World) (h1 : RdI w v1 l ∧ NilI v1 l) (h2 : InF v2 t w) (he : Env w) (td : Deb w) :
    Calls Tryz.prog 4 #[.string s, v1, v2] w fun e w' => e = .returned (.bool true) ∧ Below w.heap.size w w' := by
  unfold bulkfields at ht
  have hlen := len_sumF t
  have HA : Hid (Calls Tryz.prog 9 #[] w fun e w' => e = .returned (.bool true) ∧ Below w.heap.size w w') := awake_any w he
  have HEn : Hid (Env w) := he
  have HD : Hid (Deb w) := td
  have HR : Hid (RdI w v1 l) := h1.1
  have HN : Hid (NilI v1 l) := h1.2
  have HI : Hid (InF v2 t w) := h2
  obtain ⟨a1, c1, rfl, hlc1, hbd, _⟩ := h1.1
  obtain ⟨⟨a2, c2, rfl, _⟩, _⟩ := h2
  have HBd : Hid (∀ x ∈ l, -9223372036854775808 ≤ x ∧ x ≤ 9223372036854775807) := hbd
  have HBd2 : Hid (∀ x ∈ l ++ [77], -9223372036854775808 ≤ x ∧ x ≤ 9223372036854775807) := (fun x hx => by
    rcases List.mem_append.1 hx with h | h
    · exact hbd x h
    · simp at h; subst h; omega : ∀ x ∈ l ++ [(77 : Int)], -9223372036854775808 ≤ x ∧ x ≤ 9223372036854775807)
  clear he td hbd h1
  go_enter Tryz.func4, Tryz.ntmps4
  go_wp2_with fail
  refine HA.out.mono ?_
  rintro e w1 ⟨rfl, hb1⟩
  have HB1 : Hid (SB w w1) := hb1
  have hs1 := hb1.size
  have HO1 : Hid (OwnF 39 w.heap.size (.slice (some ⟨w1.heap.size, 0, none⟩) 0 0) [] (w1.alloc (.cells #[] 39))) := ownF_empty 39 w1 hs1
  have HI1 : Hid (InF (.slice a2 t.length c2) t (w1.alloc (.cells #[] 39))) := HI.out.below (SB.alloc HB1.out _)
  have HS1 : Hid (w.heap.size ≤ (w1.alloc (.cells #[] 39)).heap.size) := (SB.alloc HB1.out _).size
  have HL1 : Hid (([] : List Fl).length + t.length ≤ 2147483648) := (by simp; omega : _ ≤ _)
  have HL2 : Hid (t.length + 1 ≤ 2147483648) := (by omega : _ ≤ _)
  have HL3 : Hid (([] : List Int).length + l.length ≤ 2147483648) := (by simp; omega : _ ≤ _)
  have HL4 : Hid (l.length + 1 ≤ 2147483648) := (by omega : _ ≤ _)
  clear hb1
  go_wp2_with (first
    | (at_builtin; refine wp_appFs 39 37 infoF Tryz.underlying37 rfl (.tmp 17) (.tmp 18) rfl w.heap.size _ _ [] t rfl HO1.out rfl HI1.out HL1.out HS1.out ?_; intro v3 w3 o3 b3; have HB3 : Hid (SB w w3) := Below.trans (SB.alloc HB1.out _) b3; have HO3 : Hid (OwnF 39 w.heap.size v3 t w3) := o3; have hs3 : w.heap.size ≤ w3.heap.size := HB3.out.size; clear o3 b3)
    | (at_builtin; refine wp_appF 39 37 infoF Tryz.underlying37 rfl (.tmp 19) (.tmp 21) rfl w.heap.size _ t w3 ([115, 112, 97, 114, 101], []) _ _ rfl rfl rfl HO3.out _ rfl rfl HL2.out hs3 ?_; intro v4 w4 o4 b4; have HB4 : Hid (SB w w4) := Below.trans HB3.out b4; have HO4 : Hid (OwnF 39 w.heap.size v4 (t ++ spare1) w4) := o4; obtain ⟨a4, c4, e4⟩ := o4.form; rw [List.length_append, show ([(([115, 112, 97, 114, 101] : List UInt8), ([] : List UInt8))] : List Fl).length = 1 from rfl] at e4; subst e4; have HI4 : Hid (RdI (w4.alloc (.cells #[] 3)) (.slice a1 l.length c1) l) := HR.out.below (SB.alloc HB4.out _); clear o4 b4)
    | (at_builtin; refine wp_appIs rfl (.tmp 23) (.tmp 24) rfl w4.heap.size _ _ [] l rfl (ownI_empty w4 (Nat.le_refl _)) rfl HI4.out HN.out HL3.out (by simp) ?_; intro v5 w5 o5 b5; have HB5 : Hid (SB w4 w5) := Below.trans (SB.alloc (SB.refl w4) _) b5; have HO5 : Hid (OwnI w4.heap.size v5 l w5) := o5; have hs5 : w4.heap.size ≤ w5.heap.size := HB5.out.size; clear o5 b5)
    | (at_builtin; go_must (refine wp_appI rfl (.tmp 25) (.tmp 26) rfl w4.heap.size _ l w5 77 rfl HO5.out _ rfl rfl HL4.out hs5 ?_); intro v6 w6 o6 b6; have HB6 : Hid (SB w4 w6) := Below.trans HB5.out b6; have HO6 : Hid (OwnI w4.heap.size v6 (l ++ [77]) w6) := o6; obtain ⟨a6, c6, e6⟩ := o6.form; rw [List.length_append, show ([(77 : Int)] : List Int).length = 1 from rfl] at e6; subst e6; clear o6 b6))
  obtain ⟨g4, o4, rfl, hc4, _, _⟩ := rdF_get (k := t.length) HO4.out.rd (by simp [spare1])
  have HR6 : Hid (RdI w6 (.slice a6 (l.length + 1) c6) (l ++ [77])) := HO6.out.rd HBd2.out
  obtain ⟨g6, o6, rfl, hc6, _⟩ := rdI_get (k := l.length) HR6.out (by simp)
  rw [List.length_append] at hc4 hc6
  have hc4' : t.length ≤ c4 := by omega
  have hc6' : l.length ≤ c6 := by omega
  have hc4i : ((t.length : Nat) : Int) ≤ (c4 : Int) := by omega
  have hc6i : ((l.length : Nat) : Int) ≤ (c6 : Int) := by omega
  have hc0 : (0 : Int) ≤ (t.length : Int) := by omega
  have hc0' : (0 : Int) ≤ (l.length : Int) := by omega
  have hB46 := HB6.out
  have HF6 : Hid (RdF (.slice (some ⟨g4, o4, none⟩) (t.length + 1) c4) (t ++ spare1) w6) := HO4.out.rd.below HB6.out
  have HBw : Hid (SB w w6) := bel_trans HB4.out HB6.out
  have HEnc : Hid (∀ W, SB w6 W → Calls Tryz.prog 14 #[.string s, .slice (some ⟨g6, o6, none⟩) l.length c6, .slice (some ⟨g4, o4, none⟩) t.length c4] W fun e w' => e = .returned (.tuple #[.string (str (encR s.data.toList l t).1), .int .i64 (encR s.data.toList l t).2]) ∧ Below W.heap.size W w') := fun W hW =>
    Encode_any s hb _ l hl _ t ht W (RdI.front (HR6.out.below hW)) (RdF.front (HF6.out.below hW)) (HEn.out.below (bel_trans HBw.out hW)).1 (HD.out.below (bel_trans HBw.out hW))
  have HREn : Hid (∀ W v, SB w W → RdF v t W → Calls Tryz.prog 15 #[.string s, .slice a1 l.length c1, v] W fun e w' => e = .returned (.tuple #[.string (str (encR s.data.toList l t).1), .int .i64 (encR s.data.toList l t).2]) ∧ Below W.heap.size W w') := fun W v hW hv =>
    rEncode_any s hb _ l hl v t ht W (HR.out.below hW) hv
  generalize str (encR s.data.toList l t).1 = X at *
  generalize (encR s.data.toList l t).2 = E at *
  have HBn : Hid (SB w6 w6) := SB.refl w6
  clear hB46 hc4 hc6 HO1 HI1 HS1 HO3 HI4 HO5
  go_region_held3 (fun W => SB w6 W)
    ((first | with_reducible exact HBn.out | with_reducible exact SB.drew HBn.out))
    (first
      | (go_at_call 14; refine (HEnc.out _ (by assumption)).mono ?_; rintro e w7 ⟨rfl, hb7⟩; have HBn : Hid (SB w6 w7) := SB.on (by assumption) hb7; clear hb7))
  all_goals
    have HB7 : Hid (SB w w7) := bel_trans HBw.out HBn.out
    have HI7 : Hid (RdF (.slice a2 t.length c2) t w7) := HI.out.1.below HB7.out
    go_wp2_with fail
    refine (plain_any _ t w7 HI7.out (by omega)).mono ?_
    rintro e w8 ⟨v8, rfl, o8, hb8⟩
    have HB8 : Hid (SB w w8) := bel_trans HB7.out hb8
    have HBn : Hid (SB w6 w8) := SB.on HBn.out hb8
    have HR8 : Hid (RdF v8 t w8) := o8.rd
    clear o8 hb8
    obtain ⟨a8, c8, rfl, _⟩ := HR8.out
    go_wp2_with fail
    refine (HREn.out _ _ HB8.out HR8.out).mono ?_
    rintro e w9 ⟨rfl, hb9⟩
    have HB9 : Hid (SB w w9) := bel_trans HB8.out hb9
    have HBn : Hid (SB w6 w9) := SB.on HBn.out hb9
    have HBn9 : Hid (SB w6 w9) := HBn
    have HI9 : Hid (RdF (.slice a2 t.length c2) t w9) := HI.out.1.below HB9.out
    clear hb9
    have hxx : (X.toList != X.toList) = false := by simp
    have hee : (E != E) = false := by simp
    go_wp2_with fail
    refine (plain_any _ t w9 HI9.out (by omega)).mono ?_
    rintro e w10 ⟨v10, rfl, o10, hb10⟩
    have HB10 : Hid (SB w w10) := bel_trans HB9.out hb10
    have HBn : Hid (SB w6 w10) := SB.on HBn.out hb10
    have HO10 : Hid (OwnF 45 w9.heap.size v10 t (w10.alloc (.cells #[.string ⟨#[115, 112, 97, 114, 101]⟩, .string ⟨#[]⟩] 45))) := OwnF.below o10 ((Below.refl _ w10).alloc (Nat.le_refl _) _)
    have HI10 : Hid (InF (.slice (some ⟨w10.heap.size, 0, none⟩) 1 1) spare1 (w10.alloc (.cells #[.string ⟨#[115, 112, 97, 114, 101]⟩, .string ⟨#[]⟩] 45))) := rd_one w10 _
    have HS10 : Hid (w9.heap.size ≤ (w10.alloc (.cells #[.string ⟨#[115, 112, 97, 114, 101]⟩, .string ⟨#[]⟩] 45)).heap.size) := (SB.alloc (show SB w9 w10 from hb10) _).size
    have HS9 : Hid (w6.heap.size ≤ w9.heap.size) := HBn9.out.size
    have HL10 : Hid (t.length + spare1.length ≤ 2147483648) := (by simp [spare1]; omega : _ ≤ _)
    clear o10 hb10
    go_wp2_with (at_builtin; go_must (refine wp_appFs 45 42 infoF2 Tryz.underlying42 rfl (.tmp 60) (.tmp 62) rfl w9.heap.size _ _ t spare1 rfl HO10.out rfl HI10.out HL10.out HS10.out ?_); intro v11 w11 o11 b11; have HBm : Hid (SB w6 w11) := Below.trans (SB.alloc HBn.out _) (b11.mono HS9.out); have HR11 : Hid (RdF v11 (t ++ spare1) w11) := o11.rd; obtain ⟨a11, c11, e11⟩ := o11.form; rw [List.length_append, show spare1.length = 1 from rfl] at e11; subst e11; clear o11 b11)
    have HF11 : Hid (RdF (.slice (some ⟨g4, o4, none⟩) (t.length + 1) c4) (t ++ spare1) w11) := HF6.out.below HBm.out
    go_wp2_with fail
    refine (same_any _ _ (t ++ spare1) w11 HF11.out HR11.out (by rw [List.length_append]; simp [spare1]; omega)).mono ?_
    rintro e w12 ⟨rfl, hb12⟩
    have HBm : Hid (SB w6 w12) := SB.on HBm.out hb12
    have HBw2 : Hid (SB w w12) := bel_trans HBw.out HBm.out
    have HR12 : Hid (RdI w12 (.slice (some ⟨g6, o6, none⟩) (l.length + 1) c6) (l ++ [77])) := HR6.out.below HBm.out
    have HV12 : Hid (RdI w12 (.slice a1 l.length c1) l) := HR.out.below HBw2.out
    clear hb12
    go_wp2
    go_loopw [69] (fun i wr => ∃ k : Nat, k ≤ l.length ∧ i = .int .i64 k ∧ Hid (wr = w12)) (fun i _ => l.length - (intOf i).toNat)
    case atStart => exact ⟨0, Nat.zero_le _, rfl, (rfl : w12 = w12)⟩
    case round =>
      obtain ⟨k, hk, rfl, hww⟩ := hrel
      by_cases hlt : k < l.length
      · obtain ⟨g, o, rfl, hgc, p0⟩ := rdI_get HV12.out hlt
        obtain ⟨g', o', e', _, q0⟩ := rdI_get (k := k) HR12.out (by rw [List.length_append]; omega)
        injection e' with e'
        injection e' with e1 e2 _
        subst e1 e2
        rw [nthI_app l 77 k hlt] at q0
        rw [← hww.out] at p0 q0
        have hkl2 : (k : Int) < (l.length : Int) + 1 := by omega
        have hkl3 : k < l.length + 1 := by omega
        generalize nthI l k = x at p0 q0
        go_wp2
        go_roundw
        case rel => exact ⟨k + 1, by omega, by go_num, hww⟩
        case measure => simp [intOf]; omega
      · obtain ⟨g', o', e', _, q0⟩ := rdI_get (k := l.length) HR12.out (by simp)
        injection e' with e'
        injection e' with e1 e2 _
        subst e1 e2
        rw [nthI_last] at q0
        rw [← hww.out] at q0
        have hkl2 : (l.length : Int) < (l.length : Int) + 1 := by omega
        go_wp2
        go_ret
        exact ⟨rfl, by rw [hww.out]; exact HBw2.out⟩

end Ck
end Go.Proofs.YtifhbjkgdnemjaaGreatDoor
