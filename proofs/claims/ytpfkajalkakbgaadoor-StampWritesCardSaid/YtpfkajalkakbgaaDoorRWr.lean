/-
  The document's Write.
-/
import Derived.Test.YtpfkajalkakbgaaDoorRNam
set_option linter.unusedVariables false
set_option linter.unusedSimpArgs false
namespace Go.Proofs.YtpfkajalkakbgaaDoor
open Go.RowKit
namespace Bs

def rch (y m d h i s k : Nat) (c : UInt8) : List UInt8 :=
  if c = 119 then shorts.getD k [] else if c = 108 then longs.getD k [] else if c = 109 then mons.getD (m - 1) [] else if c = 100 then d2 d else if c = 101 then p2 32 d
  else if c = 121 then d4 y else if c = 99 then d2 y else if c = 104 then d2 h else if c = 105 then d2 i else if c = 115 then d2 s else [c]
theorem d2_100 (y : Nat) : d2 (y % 100) = d2 y := by
  unfold d2 dg
  rw [show y % 100 / 10 % 10 = y / 10 % 10 by omega, show y % 100 % 10 = y % 10 by omega]
theorem rch_all {form : Int} (hf : form = 0 ∨ form = 1 ∨ form = 2) (y m d h i s k : Nat) : (patL form).flatMap (rch y m d h i s k) = wrS form y m d h i s k := by
  rcases hf with rfl | rfl | rfl
  · simp [patL, rch, wrS, txt, clk, List.flatMap_cons]
  · simp [patL, rch, wrS, txt, clk, List.flatMap_cons, d2_100]
  · simp [patL, rch, wrS, txt, clk, List.flatMap_cons]
theorem rch_len (y m d h i s k : Nat) (hk : k < 7) (hm : m - 1 < 12) (c : UInt8) : (rch y m d h i s k c).length ≤ 9 := by
  have a := shorts_n' hk
  have b := longs_n' hk
  have e := mons_n' hm
  unfold rch p2
  repeat' split
  all_goals first | omega | simp [d2, d4]
theorem flat_len (f : UInt8 → List UInt8) (hf : ∀ c, (f c).length ≤ 9) : ∀ l : List UInt8, (l.flatMap f).length ≤ 9 * l.length
  | [] => by simp
  | c :: l => by
    rw [List.flatMap_cons, List.length_append, List.length_cons]
    have := hf c
    have := flat_len f hf l
    omega
theorem flat_take (f : UInt8 → List UInt8) (l : List UInt8) (i : Nat) (h : i < l.length) : (l.take (i + 1)).flatMap f = (l.take i).flatMap f ++ f (l.getD i 0) := by
  rw [List.take_add_one, List.flatMap_append, List.getElem?_eq_getElem h, List.getD_eq_getElem?_getD, List.getElem?_eq_getElem h]
  simp
theorem str_app' (a b : List UInt8) : str a ++ str b = str (a ++ b) := by
  apply eq_list
  simp [str]
theorem str_at' (l : List UInt8) (j : Nat) (h : j < (str l).size) : (((str l)[j]).toNat : Int) = ((l.getD j 0).toNat : Int) := by
  rw [← at_lt, str_list]
theorem ret_si' {a b : ByteArray} {k : IntKind} {c d : Int} (h : a = b) (h' : c = d) : Ending.returned (.tuple #[.string a, .int k c]) = .returned (.tuple #[.string b, .int k d]) := by rw [h, h']
theorem u8_ne {c : UInt8} {k : Nat} (hk : k < 256) (h : c ≠ UInt8.ofNat k) : ((c.toNat : Int) == (k : Int)) = false := by
  have : c.toNat ≠ k := fun e => h (by apply UInt8.toNat_inj.1; simp [e, Nat.mod_eq_of_lt hk])
  simp
  omega

set_option maxRecDepth 100000 in
set_option maxHeartbeats 4000000 in
theorem rWrite_ok (t form : Int) (ht : I64 t) (hM : isM t) (hf : form = 0 ∨ form = 1 ∨ form = 2) (w : World) :
    Calls Tryd.prog 22 #[.int .i64 t, .int .i64 form] w fun e w' => e = .returned (.tuple #[.string (str (writeR t form).1), .int .i64 (writeR t form).2]) ∧ Below w.heap.size w w' := by
  have hsp := rSplit_any t ht w
  rw [show splitR t = (splitV t, 0) from if_pos hM] at hsp
  unfold splitV at hsp
  obtain ⟨y, m, d, h, i, s, k, e1, e2, e3, e4, e5, e6, e7, hI, hD, hm, hd, hy, hh, hi, hs, hk⟩ := parts_of hM
  rw [writeR_ok hM hf e1 e2 e3 e4 e5 e6 e7]
  rw [e1, e2, e3, e4, e5, e6, e7] at hsp
  have HR : Hid (txt form (if form = 1 then y % 100 else y : Nat) (m + 1) h i s k (if form = 2 then p2 32 d else d2 d) = (patL form).flatMap (rch y (m + 1) d h i s k)) := (rch_all hf y (m + 1) d h i s k).symm
  generalize txt form (if form = 1 then y % 100 else y : Nat) (m + 1) h i s k (if form = 2 then p2 32 d else d2 d) = TX at HR ⊢
  have HSP : Hid (Calls Tryd.prog 17 #[.int .i64 t] w fun e w' => e = .returned (.tuple #[dv7 (y : Int) ((m : Int) + 1) (d : Int) (h : Int) (i : Int) (s : Int) (k : Int), .int .i64 0]) ∧ Below w.heap.size w w') := hsp
  clear hsp
  unfold dv7 at HSP
  have HP : Hid (∀ w, Calls Tryd.prog 33 #[.int .i64 form] w fun e w' => e = .returned (.string (str (patL form))) ∧ w' = w) := fun w => rpattern_any form ⟨by omega, by omega⟩ w
  have hpl := patL_len form
  have hps := str_size (patL form)
  have hfl : ∀ I, I ≤ (patL form).length → (((patL form).take I).flatMap (rch y (m + 1) d h i s k)).length ≤ 200 := fun I hI => by
    have := flat_len _ (rch_len y (m + 1) d h i s k hk (by omega)) ((patL form).take I)
    rw [List.length_take] at this
    omega
  have HFL : Hid (∀ I, I ≤ (patL form).length → (((patL form).take I).flatMap (rch y (m + 1) d h i s k)).length ≤ 200) := hfl
  have hrl := rch_len y (m + 1) d h i s k hk (by omega)
  have HRL : Hid (∀ c, (rch y (m + 1) d h i s k c).length ≤ 9) := hrl
  have HFT : Hid (∀ I, I < (patL form).length → ((patL form).take (I + 1)).flatMap (rch y (m + 1) d h i s k) = ((patL form).take I).flatMap (rch y (m + 1) d h i s k) ++ rch y (m + 1) d h i s k ((patL form).getD I 0)) := fun I hI => flat_take _ _ I hI
  have HFE : Hid (((patL form).take (patL form).length).flatMap (rch y (m + 1) d h i s k) = (patL form).flatMap (rch y (m + 1) d h i s k)) := (by rw [List.take_length] : _ = _)
  have HAT : Hid (∀ I (hI : I < (str (patL form)).size), (((str (patL form))[I]).toNat : Int) = (((patL form).getD I 0).toNat : Int)) := fun I hI => str_at' _ I hI
  have HCT : Hid (∀ I, I < (patL form).length → (str (patL form)).extract I (I + 1) = str [(patL form).getD I 0]) := fun I hI => by
    rw [str_cut, List.take_add_one, List.getElem?_eq_getElem hI, List.getD_eq_getElem?_getD, List.getElem?_eq_getElem hI, List.drop_append]
    simp
    rw [Nat.min_eq_left (by omega)]
    simp
  clear hfl hrl e1 e2 e3 e4 e5 e6 e7 hI hD
  have hf0 : ¬ form < 0 := by omega
  have hf2 : ¬ 2 < form := by omega
  generalize patL form = L at *
  generalize hLS : str L = LS at *
  clear hLS
  go_enter Tryd.func22, Tryd.ntmps22
  go_wp2_with fail
  refine Calls.mono HSP.out ?_
  rintro e w1 ⟨rfl, b1⟩
  have HD0 := Dcs.new w1 [(y : Int), (m : Int) + 1, (d : Int), (h : Int), (i : Int), (s : Int), (k : Int)] rfl
  have HB0 : Hid (Below w.heap.size w (w1.alloc (.cells (iv7 [(y : Int), (m : Int) + 1, (d : Int), (h : Int), (i : Int), (s : Int), (k : Int)]).toArray 35))) := bel_trans b1 ((But.refl [] w1).alloc _).to_below
  clear b1
  go_wp2_with fail
  refine (HP.out _).mono ?_
  rintro e w' ⟨rfl, hw'⟩
  have HD1 : Hid (Dcs w' w1.heap.size [(y : Int), (m : Int) + 1, (d : Int), (h : Int), (i : Int), (s : Int), (k : Int)]) := hw' ▸ HD0
  have HB1 : Hid (Below w.heap.size w w') := hw' ▸ HB0.out
  clear HD0 HB0 hw'
  generalize w1.heap.size = P at *
  go_wp2
  go_loopw [8, 10] (fun o n wr => ∃ I : Nat, I ≤ L.length ∧ o = .string (str ((L.take I).flatMap (rch y (m + 1) d h i s k))) ∧ n = .int .i64 (I : Int) ∧ Hid (Dcs wr P [(y : Int), (m : Int) + 1, (d : Int), (h : Int), (i : Int), (s : Int), (k : Int)]) ∧ Hid (Below w.heap.size w wr)) (fun _ n _ => L.length - (intOf n).toNat)
  case atStart => exact ⟨0, by omega, rfl, rfl, HD1, HB1⟩
  case round =>
    clear HD1 HB1
    obtain ⟨I, hIL, rfl, rfl, HD, HB⟩ := hrel
    by_cases hlt : I < L.length
    · have eAT := HAT.out I (by omega)
      have HFTI : Hid (_ = _) := HFT.out I hlt
      have zA : (str ((L.take I).flatMap (rch y (m + 1) d h i s k))).size ≤ 200 := by rw [str_size]; exact HFL.out I (by omega)
      generalize (L.take I).flatMap (rch y (m + 1) d h i s k) = A at *
      have ECT : Hid (_ = _) := HCT.out I hlt
      obtain ⟨c, hc⟩ : ∃ c, c = L.getD I 0 := ⟨_, rfl⟩
      rw [← hc] at eAT HFTI ECT
      have HS : Hid (∀ B, rch y (m + 1) d h i s k c = B → str A ++ str B = str ((L.take (I + 1)).flatMap (rch y (m + 1) d h i s k))) := fun B hB => by rw [HFTI.out, hB, str_app']
      clear HFTI hc
      have c0 := HD.out.cell 0 (by omega)
      have c1 := HD.out.cell 1 (by omega)
      have c2 := HD.out.cell 2 (by omega)
      have c3 := HD.out.cell 3 (by omega)
      have c4 := HD.out.cell 4 (by omega)
      have c5 := HD.out.cell 5 (by omega)
      have c6 := HD.out.cell 6 (by omega)
      simp only [g, List.getD_cons_zero, List.getD_cons_succ] at c0 c1 c2 c3 c4 c5 c6
      have hm1 : (m : Int) + 1 - 1 = (m : Int) := by omega
      by_cases n119 : c = 119
      · subst n119
        have q119 : ((((119 : UInt8).toNat : Nat) : Int) == 119) = true := rfl
        have qq : (((119 : UInt8).toNat : Nat) : Int) = 119 := rfl
        rw [qq] at eAT
        clear qq q119
        have zB : (str A).size + (str (shorts.getD k [])).size ≤ 300 := by rw [str_size (shorts.getD k [])]; have := (by unfold rch; rw [if_pos rfl] : rch y (m + 1) d h i s k 119 = shorts.getD k []) ▸ HRL.out 119; omega
        have HSB : Hid (str A ++ str (shorts.getD k []) = _) := HS.out _ (by unfold rch; rw [if_pos rfl])
        have HCC : Hid (∀ w, Calls Tryd.prog 34 #[.int .i64 (k : Int)] w fun e w' => e = .returned (.string (str (shorts.getD k []))) ∧ Below w.heap.size w w') := fun w => rShortName_any k hk w
        generalize str (shorts.getD k []) = B at *
        go_wp2_with fail
        refine (HCC.out _).mono ?_
        rintro e w2 ⟨rfl, b2⟩
        have HD2 : Hid (Dcs w2 P _) := HD.out.bel b2
        have HB2 : Hid (Below w.heap.size w w2) := bel_trans HB.out b2
        clear b2
        go_wp2
        exact ⟨⟨I + 1, by omega, by rw [HSB.out], by go_num, HD2, HB2⟩, by simp [intOf]; omega⟩
      have q119 : ((c.toNat : Int) == 119) = false := u8_ne (by decide) n119
      by_cases n108 : c = 108
      · subst n108
        have q108 : ((((108 : UInt8).toNat : Nat) : Int) == 108) = true := rfl
        have qq : (((108 : UInt8).toNat : Nat) : Int) = 108 := rfl
        rw [qq] at eAT
        clear qq q108
        have zB : (str A).size + (str (longs.getD k [])).size ≤ 300 := by rw [str_size (longs.getD k [])]; have := (by unfold rch; rw [if_neg n119, if_pos rfl] : rch y (m + 1) d h i s k 108 = longs.getD k []) ▸ HRL.out 108; omega
        have HSB : Hid (str A ++ str (longs.getD k []) = _) := HS.out _ (by unfold rch; rw [if_neg n119, if_pos rfl])
        have HCC : Hid (∀ w, Calls Tryd.prog 35 #[.int .i64 (k : Int)] w fun e w' => e = .returned (.string (str (longs.getD k []))) ∧ Below w.heap.size w w') := fun w => rLongName_any k hk w
        generalize str (longs.getD k []) = B at *
        go_wp2_with fail
        refine (HCC.out _).mono ?_
        rintro e w2 ⟨rfl, b2⟩
        have HD2 : Hid (Dcs w2 P _) := HD.out.bel b2
        have HB2 : Hid (Below w.heap.size w w2) := bel_trans HB.out b2
        clear b2
        go_wp2
        exact ⟨⟨I + 1, by omega, by rw [HSB.out], by go_num, HD2, HB2⟩, by simp [intOf]; omega⟩
      have q108 : ((c.toNat : Int) == 108) = false := u8_ne (by decide) n108
      by_cases n109 : c = 109
      · subst n109
        have q109 : ((((109 : UInt8).toNat : Nat) : Int) == 109) = true := rfl
        have qq : (((109 : UInt8).toNat : Nat) : Int) = 109 := rfl
        rw [qq] at eAT
        clear qq q109
        have zB : (str A).size + (str (mons.getD m [])).size ≤ 300 := by rw [str_size (mons.getD m [])]; have := (by unfold rch; rw [if_neg n119, if_neg n108, if_pos rfl, Nat.add_sub_cancel] : rch y (m + 1) d h i s k 109 = mons.getD m []) ▸ HRL.out 109; omega
        have HSB : Hid (str A ++ str (mons.getD m []) = _) := HS.out _ (by unfold rch; rw [if_neg n119, if_neg n108, if_pos rfl, Nat.add_sub_cancel])
        have HCC : Hid (∀ w, Calls Tryd.prog 36 #[.int .i64 (m : Int)] w fun e w' => e = .returned (.string (str (mons.getD m []))) ∧ w' = w) := fun w => rMonthName_any m hm w
        generalize str (mons.getD m []) = B at *
        go_wp2_with fail
        refine (HCC.out _).mono ?_
        rintro e w2 ⟨rfl, rfl⟩
        go_wp2
        exact ⟨⟨I + 1, by omega, by rw [HSB.out], by go_num, HD, HB⟩, by simp [intOf]; omega⟩
      have q109 : ((c.toNat : Int) == 109) = false := u8_ne (by decide) n109
      by_cases n100 : c = 100
      · subst n100
        have q100 : ((((100 : UInt8).toNat : Nat) : Int) == 100) = true := rfl
        have qq : (((100 : UInt8).toNat : Nat) : Int) = 100 := rfl
        rw [qq] at eAT
        clear qq q100
        have zB : (str A).size + (str (d2 d)).size ≤ 300 := by rw [str_size (d2 d)]; have := (by unfold rch; rw [if_neg n119, if_neg n108, if_neg n109, if_pos rfl] : rch y (m + 1) d h i s k 100 = d2 d) ▸ HRL.out 100; omega
        have HSB : Hid (str A ++ str (d2 d) = _) := HS.out _ (by unfold rch; rw [if_neg n119, if_neg n108, if_neg n109, if_pos rfl])
        have HCC : Hid (∀ w, Calls Tryd.prog 37 #[.int .i64 (d : Int), .int .i64 2] w fun e w' => e = .returned (.string (str (d2 d))) ∧ Below w.heap.size w w') := fun w => lowd_2 d ▸ rdigits_any d 2 (by omega) (by omega) w
        generalize str (d2 d) = B at *
        go_wp2_with fail
        refine (HCC.out _).mono ?_
        rintro e w2 ⟨rfl, b2⟩
        have HD2 : Hid (Dcs w2 P _) := HD.out.bel b2
        have HB2 : Hid (Below w.heap.size w w2) := bel_trans HB.out b2
        clear b2
        go_wp2
        exact ⟨⟨I + 1, by omega, by rw [HSB.out], by go_num, HD2, HB2⟩, by simp [intOf]; omega⟩
      have q100 : ((c.toNat : Int) == 100) = false := u8_ne (by decide) n100
      by_cases n101 : c = 101
      · subst n101
        have q101 : ((((101 : UInt8).toNat : Nat) : Int) == 101) = true := rfl
        have qq : (((101 : UInt8).toNat : Nat) : Int) = 101 := rfl
        rw [qq] at eAT
        clear qq q101
        by_cases h10 : d < 10
        · have h10' : (d : Int) < 10 := by omega
          have zB1 : (⟨#[32]⟩ : ByteArray).size + (str ([dg d])).size ≤ 300 := by rw [str_size ([dg d])]; have : (⟨#[32]⟩ : ByteArray).size = 1 := rfl; first | omega | (simp; done) | (simp; omega)
          have zB : (str A).size + ((⟨#[32]⟩ : ByteArray) ++ str ([dg d])).size ≤ 300 := by rw [ByteArray.size_append, str_size ([dg d])]; have : (⟨#[32]⟩ : ByteArray).size = 1 := rfl; first | omega | (simp; done) | (simp; omega)
          have HSB : Hid (str A ++ ((⟨#[32]⟩ : ByteArray) ++ str ([dg d])) = str ((L.take (I + 1)).flatMap (rch y (m + 1) d h i s k))) := (by rw [show (⟨#[32]⟩ : ByteArray) = str [32] from rfl, str_app' [32]]; exact HS.out _ (by unfold rch; rw [if_neg n119, if_neg n108, if_neg n109, if_neg n100, if_pos rfl]; unfold p2; rw [if_pos h10]; rfl) : str A ++ ((⟨#[32]⟩ : ByteArray) ++ str ([dg d])) = str ((L.take (I + 1)).flatMap (rch y (m + 1) d h i s k)))
          have HCC : Hid (∀ w, Calls Tryd.prog 37 #[.int .i64 (d : Int), .int .i64 1] w fun e w' => e = .returned (.string (str ([dg d]))) ∧ Below w.heap.size w w') := fun w => lowd_1 d ▸ rdigits_any d 1 (by omega) (by omega) w
          generalize str ([dg d]) = B at *
          go_wp2_with fail
          refine (HCC.out _).mono ?_
          rintro e w2 ⟨rfl, b2⟩
          have HD2 : Hid (Dcs w2 P _) := HD.out.bel b2
          have HB2 : Hid (Below w.heap.size w w2) := bel_trans HB.out b2
          clear b2
          go_wp2
          exact ⟨⟨I + 1, by omega, by rw [HSB.out], by go_num, HD2, HB2⟩, by simp [intOf]; omega⟩
        · have h10' : ¬ (d : Int) < 10 := by omega
          have zB : (str A).size + (str (d2 d)).size ≤ 300 := by rw [str_size (d2 d)]; have := (by unfold rch; rw [if_neg n119, if_neg n108, if_neg n109, if_neg n100, if_pos rfl]; unfold p2; rw [if_neg h10] : rch y (m + 1) d h i s k 101 = d2 d) ▸ HRL.out 101; omega
          have HSB : Hid (str A ++ str (d2 d) = _) := HS.out _ (by unfold rch; rw [if_neg n119, if_neg n108, if_neg n109, if_neg n100, if_pos rfl]; unfold p2; rw [if_neg h10])
          have HCC : Hid (∀ w, Calls Tryd.prog 37 #[.int .i64 (d : Int), .int .i64 2] w fun e w' => e = .returned (.string (str (d2 d))) ∧ Below w.heap.size w w') := fun w => lowd_2 d ▸ rdigits_any d 2 (by omega) (by omega) w
          generalize str (d2 d) = B at *
          go_wp2_with fail
          refine (HCC.out _).mono ?_
          rintro e w2 ⟨rfl, b2⟩
          have HD2 : Hid (Dcs w2 P _) := HD.out.bel b2
          have HB2 : Hid (Below w.heap.size w w2) := bel_trans HB.out b2
          clear b2
          go_wp2
          exact ⟨⟨I + 1, by omega, by rw [HSB.out], by go_num, HD2, HB2⟩, by simp [intOf]; omega⟩
      have q101 : ((c.toNat : Int) == 101) = false := u8_ne (by decide) n101
      by_cases n121 : c = 121
      · subst n121
        have q121 : ((((121 : UInt8).toNat : Nat) : Int) == 121) = true := rfl
        have qq : (((121 : UInt8).toNat : Nat) : Int) = 121 := rfl
        rw [qq] at eAT
        clear qq q121
        have zB : (str A).size + (str (d4 y)).size ≤ 300 := by rw [str_size (d4 y)]; have := (by unfold rch; rw [if_neg n119, if_neg n108, if_neg n109, if_neg n100, if_neg n101, if_pos rfl] : rch y (m + 1) d h i s k 121 = d4 y) ▸ HRL.out 121; omega
        have HSB : Hid (str A ++ str (d4 y) = _) := HS.out _ (by unfold rch; rw [if_neg n119, if_neg n108, if_neg n109, if_neg n100, if_neg n101, if_pos rfl])
        have HCC : Hid (∀ w, Calls Tryd.prog 37 #[.int .i64 (y : Int), .int .i64 4] w fun e w' => e = .returned (.string (str (d4 y))) ∧ Below w.heap.size w w') := fun w => lowd_4 y ▸ rdigits_any y 4 (by omega) (by omega) w
        generalize str (d4 y) = B at *
        go_wp2_with fail
        refine (HCC.out _).mono ?_
        rintro e w2 ⟨rfl, b2⟩
        have HD2 : Hid (Dcs w2 P _) := HD.out.bel b2
        have HB2 : Hid (Below w.heap.size w w2) := bel_trans HB.out b2
        clear b2
        go_wp2
        exact ⟨⟨I + 1, by omega, by rw [HSB.out], by go_num, HD2, HB2⟩, by simp [intOf]; omega⟩
      have q121 : ((c.toNat : Int) == 121) = false := u8_ne (by decide) n121
      by_cases n99 : c = 99
      · subst n99
        have q99 : ((((99 : UInt8).toNat : Nat) : Int) == 99) = true := rfl
        have qq : (((99 : UInt8).toNat : Nat) : Int) = 99 := rfl
        rw [qq] at eAT
        clear qq q99
        have zB : (str A).size + (str (d2 y)).size ≤ 300 := by rw [str_size (d2 y)]; have := (by unfold rch; rw [if_neg n119, if_neg n108, if_neg n109, if_neg n100, if_neg n101, if_neg n121, if_pos rfl] : rch y (m + 1) d h i s k 99 = d2 y) ▸ HRL.out 99; omega
        have HSB : Hid (str A ++ str (d2 y) = _) := HS.out _ (by unfold rch; rw [if_neg n119, if_neg n108, if_neg n109, if_neg n100, if_neg n101, if_neg n121, if_pos rfl])
        have HCC : Hid (∀ w, Calls Tryd.prog 37 #[.int .i64 (y : Int), .int .i64 2] w fun e w' => e = .returned (.string (str (d2 y))) ∧ Below w.heap.size w w') := fun w => lowd_2 y ▸ rdigits_any y 2 (by omega) (by omega) w
        generalize str (d2 y) = B at *
        go_wp2_with fail
        refine (HCC.out _).mono ?_
        rintro e w2 ⟨rfl, b2⟩
        have HD2 : Hid (Dcs w2 P _) := HD.out.bel b2
        have HB2 : Hid (Below w.heap.size w w2) := bel_trans HB.out b2
        clear b2
        go_wp2
        exact ⟨⟨I + 1, by omega, by rw [HSB.out], by go_num, HD2, HB2⟩, by simp [intOf]; omega⟩
      have q99 : ((c.toNat : Int) == 99) = false := u8_ne (by decide) n99
      by_cases n104 : c = 104
      · subst n104
        have q104 : ((((104 : UInt8).toNat : Nat) : Int) == 104) = true := rfl
        have qq : (((104 : UInt8).toNat : Nat) : Int) = 104 := rfl
        rw [qq] at eAT
        clear qq q104
        have zB : (str A).size + (str (d2 h)).size ≤ 300 := by rw [str_size (d2 h)]; have := (by unfold rch; rw [if_neg n119, if_neg n108, if_neg n109, if_neg n100, if_neg n101, if_neg n121, if_neg n99, if_pos rfl] : rch y (m + 1) d h i s k 104 = d2 h) ▸ HRL.out 104; omega
        have HSB : Hid (str A ++ str (d2 h) = _) := HS.out _ (by unfold rch; rw [if_neg n119, if_neg n108, if_neg n109, if_neg n100, if_neg n101, if_neg n121, if_neg n99, if_pos rfl])
        have HCC : Hid (∀ w, Calls Tryd.prog 37 #[.int .i64 (h : Int), .int .i64 2] w fun e w' => e = .returned (.string (str (d2 h))) ∧ Below w.heap.size w w') := fun w => lowd_2 h ▸ rdigits_any h 2 (by omega) (by omega) w
        generalize str (d2 h) = B at *
        go_wp2_with fail
        refine (HCC.out _).mono ?_
        rintro e w2 ⟨rfl, b2⟩
        have HD2 : Hid (Dcs w2 P _) := HD.out.bel b2
        have HB2 : Hid (Below w.heap.size w w2) := bel_trans HB.out b2
        clear b2
        go_wp2
        exact ⟨⟨I + 1, by omega, by rw [HSB.out], by go_num, HD2, HB2⟩, by simp [intOf]; omega⟩
      have q104 : ((c.toNat : Int) == 104) = false := u8_ne (by decide) n104
      by_cases n105 : c = 105
      · subst n105
        have q105 : ((((105 : UInt8).toNat : Nat) : Int) == 105) = true := rfl
        have qq : (((105 : UInt8).toNat : Nat) : Int) = 105 := rfl
        rw [qq] at eAT
        clear qq q105
        have zB : (str A).size + (str (d2 i)).size ≤ 300 := by rw [str_size (d2 i)]; have := (by unfold rch; rw [if_neg n119, if_neg n108, if_neg n109, if_neg n100, if_neg n101, if_neg n121, if_neg n99, if_neg n104, if_pos rfl] : rch y (m + 1) d h i s k 105 = d2 i) ▸ HRL.out 105; omega
        have HSB : Hid (str A ++ str (d2 i) = _) := HS.out _ (by unfold rch; rw [if_neg n119, if_neg n108, if_neg n109, if_neg n100, if_neg n101, if_neg n121, if_neg n99, if_neg n104, if_pos rfl])
        have HCC : Hid (∀ w, Calls Tryd.prog 37 #[.int .i64 (i : Int), .int .i64 2] w fun e w' => e = .returned (.string (str (d2 i))) ∧ Below w.heap.size w w') := fun w => lowd_2 i ▸ rdigits_any i 2 (by omega) (by omega) w
        generalize str (d2 i) = B at *
        go_wp2_with fail
        refine (HCC.out _).mono ?_
        rintro e w2 ⟨rfl, b2⟩
        have HD2 : Hid (Dcs w2 P _) := HD.out.bel b2
        have HB2 : Hid (Below w.heap.size w w2) := bel_trans HB.out b2
        clear b2
        go_wp2
        exact ⟨⟨I + 1, by omega, by rw [HSB.out], by go_num, HD2, HB2⟩, by simp [intOf]; omega⟩
      have q105 : ((c.toNat : Int) == 105) = false := u8_ne (by decide) n105
      by_cases n115 : c = 115
      · subst n115
        have q115 : ((((115 : UInt8).toNat : Nat) : Int) == 115) = true := rfl
        have qq : (((115 : UInt8).toNat : Nat) : Int) = 115 := rfl
        rw [qq] at eAT
        clear qq q115
        have zB : (str A).size + (str (d2 s)).size ≤ 300 := by rw [str_size (d2 s)]; have := (by unfold rch; rw [if_neg n119, if_neg n108, if_neg n109, if_neg n100, if_neg n101, if_neg n121, if_neg n99, if_neg n104, if_neg n105, if_pos rfl] : rch y (m + 1) d h i s k 115 = d2 s) ▸ HRL.out 115; omega
        have HSB : Hid (str A ++ str (d2 s) = _) := HS.out _ (by unfold rch; rw [if_neg n119, if_neg n108, if_neg n109, if_neg n100, if_neg n101, if_neg n121, if_neg n99, if_neg n104, if_neg n105, if_pos rfl])
        have HCC : Hid (∀ w, Calls Tryd.prog 37 #[.int .i64 (s : Int), .int .i64 2] w fun e w' => e = .returned (.string (str (d2 s))) ∧ Below w.heap.size w w') := fun w => lowd_2 s ▸ rdigits_any s 2 (by omega) (by omega) w
        generalize str (d2 s) = B at *
        go_wp2_with fail
        refine (HCC.out _).mono ?_
        rintro e w2 ⟨rfl, b2⟩
        have HD2 : Hid (Dcs w2 P _) := HD.out.bel b2
        have HB2 : Hid (Below w.heap.size w w2) := bel_trans HB.out b2
        clear b2
        go_wp2
        exact ⟨⟨I + 1, by omega, by rw [HSB.out], by go_num, HD2, HB2⟩, by simp [intOf]; omega⟩
      have q115 : ((c.toNat : Int) == 115) = false := u8_ne (by decide) n115
      have HSB : Hid (str A ++ str [c] = _) := HS.out _ (by unfold rch; rw [if_neg n119, if_neg n108, if_neg n109, if_neg n100, if_neg n101, if_neg n121, if_neg n99, if_neg n104, if_neg n105, if_neg n115])
      have ECT' := ECT.out
      have zB : (str A).size + (str [c]).size ≤ 300 := by rw [str_size [c]]; first | omega | (simp; done) | (simp; omega)
      generalize str [c] = B at *
      go_wp2
      exact ⟨⟨I + 1, by omega, by rw [HSB.out], by go_num, HD, HB⟩, by simp [intOf]; omega⟩
    · obtain rfl : I = L.length := by omega
      rw [HFE.out]
      go_wp2
      go_ret2
      exact ⟨ret_si' (by rw [← HR.out]) rfl, HB.out⟩

end Bs
end Go.Proofs.YtpfkajalkakbgaaDoor
