/-
  The document's HostPort (written by mkghh.py).
-/
import Derived.Test.YtpnijigjlhfklaaGreatDoorGHg
set_option linter.unusedVariables false
set_option linter.unusedSimpArgs false
set_option maxRecDepth 100000
namespace Go.Proofs.YtpnijigjlhfklaaGreatDoor
open Go.RowKit Go.Shelf
namespace Tg
open Oc

def tail3 (lw : List UInt8) (b : Bool) (n : Nat) (X E : Int) : List UInt8 × Int × Int :=
  if b = false ∨ n = 0 then (lw, -1, 0) else if E ≠ 0 ∨ 5 < n then ([], 0, 52) else (lw, X, 0)
theorem tail_is (h p : List UInt8) (b : Bool) : tailR h p b = tail3 (lower h) b p.length (numR 10 p 65535).1 (numR 10 p 65535).2 := by
  unfold tailR tail3
  have hp : (p = []) = (p.length = 0) := by rw [List.length_eq_zero_iff]
  simp only [hp]


set_option maxHeartbeats 4000000 in
theorem hp_name (s A B : ByteArray) (hs : s.size ≤ 4000000) (hB : B.size ≤ 4000000) (b nm : Bool) (lw : List UInt8) (X E : Int) (w : World) (hb : s.size = 0 ∨ byt s 0 ≠ 91)
    (hC : ∀ w, Calls Tryz.prog 48 #[.string s, .int .u8 58] w fun e w' => e = .returned (.tuple #[.string A, .string B, .bool b]) ∧ Below w.heap.size w w')
    (hN : ∀ w, Calls Tryz.prog 50 #[.string A] w fun e w' => e = .returned (.bool nm) ∧ w' = w)
    (hL : ∀ w, Calls Tryz.prog 26 #[.string A] w fun e w' => e = .returned (.string (str lw)) ∧ Below w.heap.size w w')
    (hD : ∀ w, Calls Tryz.prog 51 #[.string B, .int .i64 65535] w fun e w' => e = .returned (.tuple #[.int .i64 X, .int .i64 E]) ∧ w' = w)
    (R : List UInt8 × Int × Int) (hR : R = if nm = false then ([], 0, 52) else tail3 lw b B.size X E) :
    Calls Tryz.prog 24 #[.string s] w fun e w' => e = .returned (.tuple #[.string (str R.1), .int .i64 R.2.1, .int .i64 R.2.2]) ∧ Below w.heap.size w w' := by
  have HC : Hid (∀ w, _) := fun w => hC w
  have HN : Hid (∀ w, _) := fun w => hN w
  have HLo : Hid (∀ w, _) := fun w => hL w
  have HDe : Hid (∀ w, _) := fun w => hD w
  clear hC hN hL hD
  unfold tail3 at hR
  by_cases h0 : s.size = 0
  · have hSe : s.toList.isEmpty = true := empty_of h0
    clear hb
    cases nm with
    | false =>
      rw [if_pos rfl] at hR
      subst hR
      go_enter Tryz.func24, Tryz.ntmps24
      go_wp2_with fail
      refine (HC.out _).mono ?_
      rintro e w1 ⟨rfl, hb1⟩
      have HB1 : Hid (Below w.heap.size w w1) := hb1
      clear hb1
      go_wp2_with fail
      refine (HN.out _).mono ?_
      rintro e w2 ⟨rfl, hw2⟩
      rw [hw2]
      clear hw2
      go_wp2
      go_ret3
      exact ⟨rfl, HB1.out⟩
    | true =>
      rw [if_neg (by simp)] at hR
      cases b with
      | false =>
        rw [if_pos (.inl rfl)] at hR
        subst hR
        go_enter Tryz.func24, Tryz.ntmps24
        go_wp2_with fail
        refine (HC.out _).mono ?_
        rintro e w1 ⟨rfl, hb1⟩
        have HB1 : Hid (Below w.heap.size w w1) := hb1
        clear hb1
        go_wp2_with fail
        refine (HN.out _).mono ?_
        rintro e w2 ⟨rfl, hw2⟩
        rw [hw2]
        clear hw2
        go_wp2_with fail
        refine (HLo.out _).mono ?_
        rintro e w3 ⟨rfl, hb3⟩
        have HB3 : Hid (Below w.heap.size w w3) := bel_trans HB1.out hb3
        clear hb3
        go_wp2
        go_ret3
        exact ⟨rfl, HB3.out⟩
      | true =>
        by_cases hp : B.size = 0
        · rw [if_pos (.inr hp)] at hR
          have hpe : B.toList.isEmpty = true := empty_of hp
          subst hR
          go_enter Tryz.func24, Tryz.ntmps24
          go_wp2_with fail
          refine (HC.out _).mono ?_
          rintro e w1 ⟨rfl, hb1⟩
          have HB1 : Hid (Below w.heap.size w w1) := hb1
          clear hb1
          go_wp2_with fail
          refine (HN.out _).mono ?_
          rintro e w2 ⟨rfl, hw2⟩
          rw [hw2]
          clear hw2
          go_wp2_with fail
          refine (HLo.out _).mono ?_
          rintro e w3 ⟨rfl, hb3⟩
          have HB3 : Hid (Below w.heap.size w w3) := bel_trans HB1.out hb3
          clear hb3
          go_wp2
          go_ret3
          exact ⟨rfl, HB3.out⟩
        · have hpe : B.toList.isEmpty = false := nonempty_of hp
          rw [if_neg (fun e => e.elim (fun e => by cases e) hp)] at hR
          by_cases hE : E = 0
          · subst hE
            by_cases h5 : 5 < B.size
            · rw [if_pos (.inr h5)] at hR
              have h5' : (5 : Int) < (B.size : Int) := by omega
              subst hR
              go_enter Tryz.func24, Tryz.ntmps24
              go_wp2_with fail
              refine (HC.out _).mono ?_
              rintro e w1 ⟨rfl, hb1⟩
              have HB1 : Hid (Below w.heap.size w w1) := hb1
              clear hb1
              go_wp2_with fail
              refine (HN.out _).mono ?_
              rintro e w2 ⟨rfl, hw2⟩
              rw [hw2]
              clear hw2
              go_wp2_with fail
              refine (HLo.out _).mono ?_
              rintro e w3 ⟨rfl, hb3⟩
              have HB3 : Hid (Below w.heap.size w w3) := bel_trans HB1.out hb3
              clear hb3
              go_wp2_with fail
              refine (HDe.out _).mono ?_
              rintro e w4 ⟨rfl, hw4⟩
              rw [hw4]
              clear hw4
              go_wp2
              go_ret3
              exact ⟨rfl, HB3.out⟩
            · rw [if_neg (fun e => e.elim (fun e => e rfl) h5)] at hR
              have h5' : ¬ (5 : Int) < (B.size : Int) := by omega
              subst hR
              go_enter Tryz.func24, Tryz.ntmps24
              go_wp2_with fail
              refine (HC.out _).mono ?_
              rintro e w1 ⟨rfl, hb1⟩
              have HB1 : Hid (Below w.heap.size w w1) := hb1
              clear hb1
              go_wp2_with fail
              refine (HN.out _).mono ?_
              rintro e w2 ⟨rfl, hw2⟩
              rw [hw2]
              clear hw2
              go_wp2_with fail
              refine (HLo.out _).mono ?_
              rintro e w3 ⟨rfl, hb3⟩
              have HB3 : Hid (Below w.heap.size w w3) := bel_trans HB1.out hb3
              clear hb3
              go_wp2_with fail
              refine (HDe.out _).mono ?_
              rintro e w4 ⟨rfl, hw4⟩
              rw [hw4]
              clear hw4
              go_wp2
              go_ret3
              exact ⟨rfl, HB3.out⟩
          · rw [if_pos (.inl hE)] at hR
            have hE' : (E == 0) = false := by simp [hE]
            subst hR
            go_enter Tryz.func24, Tryz.ntmps24
            go_wp2_with fail
            refine (HC.out _).mono ?_
            rintro e w1 ⟨rfl, hb1⟩
            have HB1 : Hid (Below w.heap.size w w1) := hb1
            clear hb1
            go_wp2_with fail
            refine (HN.out _).mono ?_
            rintro e w2 ⟨rfl, hw2⟩
            rw [hw2]
            clear hw2
            go_wp2_with fail
            refine (HLo.out _).mono ?_
            rintro e w3 ⟨rfl, hb3⟩
            have HB3 : Hid (Below w.heap.size w w3) := bel_trans HB1.out hb3
            clear hb3
            go_wp2_with fail
            refine (HDe.out _).mono ?_
            rintro e w4 ⟨rfl, hw4⟩
            rw [hw4]
            clear hw4
            go_wp2
            go_ret3
            exact ⟨rfl, HB3.out⟩
  · have hSe : s.toList.isEmpty = false := nonempty_of h0
    have hlt : 0 < s.size := by omega
    have hby : ((s[0].toNat : Nat) : Int) = byt s 0 := byt_at s 0 hlt
    have hb9 : (byt s 0 == 91) = false := by simp [hb.resolve_left h0]
    clear hb
    cases nm with
    | false =>
      rw [if_pos rfl] at hR
      subst hR
      go_enter Tryz.func24, Tryz.ntmps24
      go_wp2_with fail
      refine (HC.out _).mono ?_
      rintro e w1 ⟨rfl, hb1⟩
      have HB1 : Hid (Below w.heap.size w w1) := hb1
      clear hb1
      go_wp2_with fail
      refine (HN.out _).mono ?_
      rintro e w2 ⟨rfl, hw2⟩
      rw [hw2]
      clear hw2
      go_wp2
      go_ret3
      exact ⟨rfl, HB1.out⟩
    | true =>
      rw [if_neg (by simp)] at hR
      cases b with
      | false =>
        rw [if_pos (.inl rfl)] at hR
        subst hR
        go_enter Tryz.func24, Tryz.ntmps24
        go_wp2_with fail
        refine (HC.out _).mono ?_
        rintro e w1 ⟨rfl, hb1⟩
        have HB1 : Hid (Below w.heap.size w w1) := hb1
        clear hb1
        go_wp2_with fail
        refine (HN.out _).mono ?_
        rintro e w2 ⟨rfl, hw2⟩
        rw [hw2]
        clear hw2
        go_wp2_with fail
        refine (HLo.out _).mono ?_
        rintro e w3 ⟨rfl, hb3⟩
        have HB3 : Hid (Below w.heap.size w w3) := bel_trans HB1.out hb3
        clear hb3
        go_wp2
        go_ret3
        exact ⟨rfl, HB3.out⟩
      | true =>
        by_cases hp : B.size = 0
        · rw [if_pos (.inr hp)] at hR
          have hpe : B.toList.isEmpty = true := empty_of hp
          subst hR
          go_enter Tryz.func24, Tryz.ntmps24
          go_wp2_with fail
          refine (HC.out _).mono ?_
          rintro e w1 ⟨rfl, hb1⟩
          have HB1 : Hid (Below w.heap.size w w1) := hb1
          clear hb1
          go_wp2_with fail
          refine (HN.out _).mono ?_
          rintro e w2 ⟨rfl, hw2⟩
          rw [hw2]
          clear hw2
          go_wp2_with fail
          refine (HLo.out _).mono ?_
          rintro e w3 ⟨rfl, hb3⟩
          have HB3 : Hid (Below w.heap.size w w3) := bel_trans HB1.out hb3
          clear hb3
          go_wp2
          go_ret3
          exact ⟨rfl, HB3.out⟩
        · have hpe : B.toList.isEmpty = false := nonempty_of hp
          rw [if_neg (fun e => e.elim (fun e => by cases e) hp)] at hR
          by_cases hE : E = 0
          · subst hE
            by_cases h5 : 5 < B.size
            · rw [if_pos (.inr h5)] at hR
              have h5' : (5 : Int) < (B.size : Int) := by omega
              subst hR
              go_enter Tryz.func24, Tryz.ntmps24
              go_wp2_with fail
              refine (HC.out _).mono ?_
              rintro e w1 ⟨rfl, hb1⟩
              have HB1 : Hid (Below w.heap.size w w1) := hb1
              clear hb1
              go_wp2_with fail
              refine (HN.out _).mono ?_
              rintro e w2 ⟨rfl, hw2⟩
              rw [hw2]
              clear hw2
              go_wp2_with fail
              refine (HLo.out _).mono ?_
              rintro e w3 ⟨rfl, hb3⟩
              have HB3 : Hid (Below w.heap.size w w3) := bel_trans HB1.out hb3
              clear hb3
              go_wp2_with fail
              refine (HDe.out _).mono ?_
              rintro e w4 ⟨rfl, hw4⟩
              rw [hw4]
              clear hw4
              go_wp2
              go_ret3
              exact ⟨rfl, HB3.out⟩
            · rw [if_neg (fun e => e.elim (fun e => e rfl) h5)] at hR
              have h5' : ¬ (5 : Int) < (B.size : Int) := by omega
              subst hR
              go_enter Tryz.func24, Tryz.ntmps24
              go_wp2_with fail
              refine (HC.out _).mono ?_
              rintro e w1 ⟨rfl, hb1⟩
              have HB1 : Hid (Below w.heap.size w w1) := hb1
              clear hb1
              go_wp2_with fail
              refine (HN.out _).mono ?_
              rintro e w2 ⟨rfl, hw2⟩
              rw [hw2]
              clear hw2
              go_wp2_with fail
              refine (HLo.out _).mono ?_
              rintro e w3 ⟨rfl, hb3⟩
              have HB3 : Hid (Below w.heap.size w w3) := bel_trans HB1.out hb3
              clear hb3
              go_wp2_with fail
              refine (HDe.out _).mono ?_
              rintro e w4 ⟨rfl, hw4⟩
              rw [hw4]
              clear hw4
              go_wp2
              go_ret3
              exact ⟨rfl, HB3.out⟩
          · rw [if_pos (.inl hE)] at hR
            have hE' : (E == 0) = false := by simp [hE]
            subst hR
            go_enter Tryz.func24, Tryz.ntmps24
            go_wp2_with fail
            refine (HC.out _).mono ?_
            rintro e w1 ⟨rfl, hb1⟩
            have HB1 : Hid (Below w.heap.size w w1) := hb1
            clear hb1
            go_wp2_with fail
            refine (HN.out _).mono ?_
            rintro e w2 ⟨rfl, hw2⟩
            rw [hw2]
            clear hw2
            go_wp2_with fail
            refine (HLo.out _).mono ?_
            rintro e w3 ⟨rfl, hb3⟩
            have HB3 : Hid (Below w.heap.size w w3) := bel_trans HB1.out hb3
            clear hb3
            go_wp2_with fail
            refine (HDe.out _).mono ?_
            rintro e w4 ⟨rfl, hw4⟩
            rw [hw4]
            clear hw4
            go_wp2
            go_ret3
            exact ⟨rfl, HB3.out⟩

set_option maxHeartbeats 4000000 in
theorem hp_br (s A B P : ByteArray) (hs : s.size ≤ 4000000) (hB : B.size ≤ 4000000) (b ad : Bool) (lw : List UInt8) (X E : Int) (w : World) (h1 : 1 ≤ s.size) (h91 : byt s 0 = 91)
    (hA : b = true → A.size + 2 ≤ s.size) (hP : 0 < B.size → P = B.extract 1 B.size)
    (hC : ∀ w, Calls Tryz.prog 48 #[.string (s.extract 1 s.size), .int .u8 93] w fun e w' => e = .returned (.tuple #[.string A, .string B, .bool b]) ∧ Below w.heap.size w w')
    (hN : ∀ w, Calls Tryz.prog 49 #[.string A] w fun e w' => e = .returned (.bool ad) ∧ Below w.heap.size w w')
    (hL : ∀ w, Calls Tryz.prog 26 #[.string (s.extract 0 (A.size + 2))] w fun e w' => e = .returned (.string (str lw)) ∧ Below w.heap.size w w')
    (hD : ∀ w, Calls Tryz.prog 51 #[.string P, .int .i64 65535] w fun e w' => e = .returned (.tuple #[.int .i64 X, .int .i64 E]) ∧ w' = w)
    (R : List UInt8 × Int × Int) (hR : R = if b = false ∨ ad = false ∨ (B.size ≠ 0 ∧ byt B 0 ≠ 58) then ([], 0, 52) else tail3 lw (decide (B.size ≠ 0)) P.size X E) :
    Calls Tryz.prog 24 #[.string s] w fun e w' => e = .returned (.tuple #[.string (str R.1), .int .i64 R.2.1, .int .i64 R.2.2]) ∧ Below w.heap.size w w' := by
  have HC : Hid (∀ w, _) := fun w => hC w
  have HN : Hid (∀ w, _) := fun w => hN w
  have HLo : Hid (∀ w, _) := fun w => hL w
  have HDe : Hid (∀ w, _) := fun w => hD w
  clear hC hN hL hD
  unfold tail3 at hR
  have hSe : s.toList.isEmpty = false := nonempty_of (by omega)
  have hlt : 0 < s.size := by omega
  have hby : ((s[0].toNat : Nat) : Int) = 91 := by rw [byt_at s 0 hlt]; exact h91
  clear h91
  cases b with
  | false =>
    rw [if_pos (.inl rfl)] at hR
    subst hR
    clear hA hP
    go_enter Tryz.func24, Tryz.ntmps24
    go_wp2_with fail
    refine (HC.out _).mono ?_
    rintro e w1 ⟨rfl, hb1⟩
    have HB1 : Hid (Below w.heap.size w w1) := hb1
    clear hb1
    go_wp2
    go_ret3
    exact ⟨rfl, HB1.out⟩
  | true =>
    have hA2 := hA rfl
    clear hA
    cases ad with
    | false =>
      rw [if_pos (.inr (.inl rfl))] at hR
      subst hR
      clear hP
      go_enter Tryz.func24, Tryz.ntmps24
      go_wp2_with fail
      refine (HC.out _).mono ?_
      rintro e w1 ⟨rfl, hb1⟩
      have HB1 : Hid (Below w.heap.size w w1) := hb1
      clear hb1
      go_wp2_with fail
      refine (HN.out _).mono ?_
      rintro e w2 ⟨rfl, hb2⟩
      have HB2 : Hid (Below w.heap.size w w2) := bel_trans HB1.out hb2
      clear hb2
      go_wp2
      go_ret3
      exact ⟨rfl, HB2.out⟩
    | true =>
      by_cases hB0 : B.size = 0
      · have hBe : B.toList.isEmpty = true := empty_of hB0
        rw [if_neg (by simp [hB0]), if_pos (.inl (by simp [hB0]))] at hR
        subst hR
        clear hP
        go_enter Tryz.func24, Tryz.ntmps24
        go_wp2_with fail
        refine (HC.out _).mono ?_
        rintro e w1 ⟨rfl, hb1⟩
        have HB1 : Hid (Below w.heap.size w w1) := hb1
        clear hb1
        go_wp2_with fail
        refine (HN.out _).mono ?_
        rintro e w2 ⟨rfl, hb2⟩
        have HB2 : Hid (Below w.heap.size w w2) := bel_trans HB1.out hb2
        clear hb2
        go_wp2_with fail
        refine (HLo.out _).mono ?_
        rintro e w3 ⟨rfl, hb3⟩
        have HB3 : Hid (Below w.heap.size w w3) := bel_trans HB2.out hb3
        clear hb3
        go_wp2
        go_ret3
        exact ⟨rfl, HB3.out⟩
      · have hBe : B.toList.isEmpty = false := nonempty_of hB0
        have hltB : 0 < B.size := by omega
        have hPe := hP hltB
        clear hP
        have hbyB : ((B[0].toNat : Nat) : Int) = byt B 0 := byt_at B 0 hltB
        by_cases h58 : byt B 0 = 58
        · rw [if_neg (by simp [hB0, h58])] at hR
          rw [h58] at hbyB
          clear h58
          have hPz : P.size = B.size - 1 := by rw [hPe, ByteArray.size_extract]; omega
          have hd : decide (B.size ≠ 0) = true := by simp [hB0]
          rw [hd] at hR
          clear hd
          subst hPe
          by_cases hp : (B.extract 1 B.size).size = 0
          · rw [if_pos (.inr hp)] at hR
            have hpe : (B.extract 1 B.size).toList.isEmpty = true := empty_of hp
            subst hR
            go_enter Tryz.func24, Tryz.ntmps24
            go_wp2_with fail
            refine (HC.out _).mono ?_
            rintro e w1 ⟨rfl, hb1⟩
            have HB1 : Hid (Below w.heap.size w w1) := hb1
            clear hb1
            go_wp2_with fail
            refine (HN.out _).mono ?_
            rintro e w2 ⟨rfl, hb2⟩
            have HB2 : Hid (Below w.heap.size w w2) := bel_trans HB1.out hb2
            clear hb2
            go_wp2_with fail
            refine (HLo.out _).mono ?_
            rintro e w3 ⟨rfl, hb3⟩
            have HB3 : Hid (Below w.heap.size w w3) := bel_trans HB2.out hb3
            clear hb3
            go_wp2
            go_ret3
            exact ⟨rfl, HB3.out⟩
          · have hpe : (B.extract 1 B.size).toList.isEmpty = false := nonempty_of hp
            rw [if_neg (fun e => e.elim (fun e => by cases e) hp)] at hR
            by_cases hE : E = 0
            · subst hE
              by_cases h5 : 5 < (B.extract 1 B.size).size
              · rw [if_pos (.inr h5)] at hR
                have h5' : (5 : Int) < ((B.extract 1 B.size).size : Int) := by omega
                subst hR
                go_enter Tryz.func24, Tryz.ntmps24
                go_wp2_with fail
                refine (HC.out _).mono ?_
                rintro e w1 ⟨rfl, hb1⟩
                have HB1 : Hid (Below w.heap.size w w1) := hb1
                clear hb1
                go_wp2_with fail
                refine (HN.out _).mono ?_
                rintro e w2 ⟨rfl, hb2⟩
                have HB2 : Hid (Below w.heap.size w w2) := bel_trans HB1.out hb2
                clear hb2
                go_wp2_with fail
                refine (HLo.out _).mono ?_
                rintro e w3 ⟨rfl, hb3⟩
                have HB3 : Hid (Below w.heap.size w w3) := bel_trans HB2.out hb3
                clear hb3
                go_wp2_with fail
                refine (HDe.out _).mono ?_
                rintro e w4 ⟨rfl, hw4⟩
                rw [hw4]
                clear hw4
                go_wp2
                go_ret3
                exact ⟨rfl, HB3.out⟩
              · rw [if_neg (fun e => e.elim (fun e => e rfl) h5)] at hR
                have h5' : ¬ (5 : Int) < ((B.extract 1 B.size).size : Int) := by omega
                subst hR
                go_enter Tryz.func24, Tryz.ntmps24
                go_wp2_with fail
                refine (HC.out _).mono ?_
                rintro e w1 ⟨rfl, hb1⟩
                have HB1 : Hid (Below w.heap.size w w1) := hb1
                clear hb1
                go_wp2_with fail
                refine (HN.out _).mono ?_
                rintro e w2 ⟨rfl, hb2⟩
                have HB2 : Hid (Below w.heap.size w w2) := bel_trans HB1.out hb2
                clear hb2
                go_wp2_with fail
                refine (HLo.out _).mono ?_
                rintro e w3 ⟨rfl, hb3⟩
                have HB3 : Hid (Below w.heap.size w w3) := bel_trans HB2.out hb3
                clear hb3
                go_wp2_with fail
                refine (HDe.out _).mono ?_
                rintro e w4 ⟨rfl, hw4⟩
                rw [hw4]
                clear hw4
                go_wp2
                go_ret3
                exact ⟨rfl, HB3.out⟩
            · rw [if_pos (.inl hE)] at hR
              have hE' : (E == 0) = false := by simp [hE]
              subst hR
              go_enter Tryz.func24, Tryz.ntmps24
              go_wp2_with fail
              refine (HC.out _).mono ?_
              rintro e w1 ⟨rfl, hb1⟩
              have HB1 : Hid (Below w.heap.size w w1) := hb1
              clear hb1
              go_wp2_with fail
              refine (HN.out _).mono ?_
              rintro e w2 ⟨rfl, hb2⟩
              have HB2 : Hid (Below w.heap.size w w2) := bel_trans HB1.out hb2
              clear hb2
              go_wp2_with fail
              refine (HLo.out _).mono ?_
              rintro e w3 ⟨rfl, hb3⟩
              have HB3 : Hid (Below w.heap.size w w3) := bel_trans HB2.out hb3
              clear hb3
              go_wp2_with fail
              refine (HDe.out _).mono ?_
              rintro e w4 ⟨rfl, hw4⟩
              rw [hw4]
              clear hw4
              go_wp2
              go_ret3
              exact ⟨rfl, HB3.out⟩
        · rw [if_pos (.inr (.inr ⟨hB0, h58⟩))] at hR
          subst hR
          have hb8 : (byt B 0 == 58) = false := by simp [h58]
          clear h58
          go_enter Tryz.func24, Tryz.ntmps24
          go_wp2_with fail
          refine (HC.out _).mono ?_
          rintro e w1 ⟨rfl, hb1⟩
          have HB1 : Hid (Below w.heap.size w w1) := hb1
          clear hb1
          go_wp2_with fail
          refine (HN.out _).mono ?_
          rintro e w2 ⟨rfl, hb2⟩
          have HB2 : Hid (Below w.heap.size w w2) := bel_trans HB1.out hb2
          clear hb2
          go_wp2
          go_ret3
          exact ⟨rfl, HB2.out⟩

end Tg
end Go.Proofs.YtpnijigjlhfklaaGreatDoor
