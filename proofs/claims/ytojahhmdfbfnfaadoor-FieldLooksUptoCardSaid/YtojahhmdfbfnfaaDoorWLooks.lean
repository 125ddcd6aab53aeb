/-
  FieldLooks.
-/
import Derived.Test.YtojahhmdfbfnfaaDoorFHs
set_option linter.unusedVariables false
set_option linter.unusedSimpArgs false
namespace Go.Proofs.YtojahhmdfbfnfaaDoor
open Go.RowKit Go.Shelf
namespace Fd
open Oc Tg

theorem find_vals (s : List UInt8) (t : List Fl) : findF s t = ((vals s t).getD 0 [], decide (0 < (vals s t).length)) := by
  unfold findF vals
  have h : (t.filter (alike s)).head? = t.find? (alike s) := List.head?_filter
  cases hf : t.filter (alike s) with
  | nil => rw [hf] at h; rw [← h]; rfl
  | cons p r => rw [hf] at h; rw [← h]; rfl

set_option maxRecDepth 100000 in
set_option maxHeartbeats 1000000 in
theorem walk_FieldLooks (v : Value) (t : List Fl) (hs : bulkfields t ≤ 1048576) (nm : ByteArray) (hn : nm.size ≤ 1048576) (tk : ByteArray) (hk : tk.size ≤ 1048576) (w : World) (hin : InF v t w) (hw : Env w) :
    Calls Tryd.prog 7 #[v, .string nm, .string tk] w fun e w' => e = .returned (.bool true) ∧ Below w.heap.size w w' := by
  obtain ⟨s, rfl⟩ : ∃ s, nm = str s := ⟨nm.data.toList, (str_self nm).symm⟩
  obtain ⟨k, rfl⟩ : ∃ k, tk = str k := ⟨tk.data.toList, (str_self tk).symm⟩
  rw [str_size] at hn hk
  unfold bulkfields at hs
  have hlen := len_sumF t
  have HA : Hid (Calls _ _ _ _ _) := awake_any w hw
  have HE : Hid (Env w) := hw
  have HI : Hid (InF v t w) := hin
  have HR : Hid (RdF v t w) := hin.1
  have hM := (each_sumF t).mono hs
  have hM2 : Each maxLen t := hM.mono (by unfold maxLen; omega)
  have HH : Hid (∀ w, InF v t w → Calls Tryd.prog 18 #[v] w fun e w' => ∃ u f, e = .returned (.tuple #[u, f]) ∧ InF u t w' ∧ RdF f (t ++ spareF) w' ∧ Below w.heap.size w w') := fun w h => handed_any v t w h (by omega)
  have HPl : Hid (∀ w, RdF v t w → Calls Tryd.prog 21 #[v] w fun e w' => ∃ u, e = .returned u ∧ OwnF 30 w.heap.size u t w' ∧ Below w.heap.size w w') := fun w h => plain_any v t w h (by omega)
  have HWh : Hid (∀ f w, RdF f (t ++ spareF) w → RdF v t w → Calls Tryd.prog 22 #[f, v] w fun e w' => e = .returned (.bool true) ∧ Below w.heap.size w w') := fun f w h1 h2 => whole_any f v t w h1 h2 (by omega)
  have HrAl : Hid (∀ u w, RdF u t w → Calls Tryd.prog 28 #[u, .string (str s)] w fun e w' => ∃ x, e = .returned x ∧ OwnS w.heap.size x (vals s t) w' ∧ Below w.heap.size w w') := fun u w h => rAll_any u t s hn hM (by omega) w h
  have HAl : Hid (∀ u w, RdF u t w → Calls Tryd.prog 31 #[u, .string (str s)] w fun e w' => ∃ x, e = .returned x ∧ OwnS w.heap.size x (vals s t) w' ∧ Below w.heap.size w w') := fun u w h => All_any u t s hn hM (by omega) w h
  have HFd : Hid (∀ u w, RdF u t w → Calls Tryd.prog 29 #[u, .string (str s)] w fun e w' => e = .returned (.tuple #[.string (str ((vals s t).getD 0 [])), .bool (decide (0 < (vals s t).length))]) ∧ Below w.heap.size w w') := fun u w h => by
    have h := Find_any u t s (by unfold maxLen; omega) hM2 (by omega) w h
    rw [find_vals] at h
    exact h
  have HJ : Hid (∀ u w, RdF u t w → Calls Tryd.prog 32 #[u, .string (str s)] w fun e w' => e = .returned (.tuple #[.string (str (joinF (vals s t))), .bool (decide (0 < (vals s t).length))]) ∧ Below w.heap.size w w') := fun u w h => Joined_any u t s hn hs w h
  have HrJ : Hid (∀ u w, RdF u t w → Calls Tryd.prog 33 #[u, .string (str s)] w fun e w' => e = .returned (.tuple #[.string (str (joinF (vals s t))), .bool (decide (0 < (vals s t).length))]) ∧ Below w.heap.size w w') := fun u w h => rJoined_any u t s hn hs w h
  have HL : Hid (∀ u w, RdF u t w → Calls Tryd.prog 34 #[u, .string (str s)] w fun e w' => ∃ x, e = .returned (.tuple #[x, .int .i64 (listF s t).2]) ∧ OwnS w.heap.size x (listF s t).1 w' ∧ Below w.heap.size w w') := fun u w h => List6_any u t s hn hs w h
  have HrL : Hid (∀ u w, RdF u t w → Calls Tryd.prog 35 #[u, .string (str s)] w fun e w' => ∃ x, e = .returned (.tuple #[x, .int .i64 (listF s t).2]) ∧ OwnS w.heap.size x (listF s t).1 w' ∧ Below w.heap.size w w') := fun u w h => rList6_any u t s hn hs w h
  have HT : Hid (∀ u w, RdF u t w → Tab w → Calls Tryd.prog 36 #[u, .string (str s)] w fun e w' => ∃ x, e = .returned (.tuple #[x, .int .i64 (tokensF s t).2]) ∧ OwnS w.heap.size x (tokensF s t).1 w' ∧ Below w.heap.size w w') := fun u w h tb => Tokens6_any u t s hn hs w h tb
  have HrT : Hid (∀ u w, RdF u t w → Calls Tryd.prog 37 #[u, .string (str s)] w fun e w' => ∃ x, e = .returned (.tuple #[x, .int .i64 (tokensF s t).2]) ∧ OwnS w.heap.size x (tokensF s t).1 w' ∧ Below w.heap.size w w') := fun u w h => rTokens6_any u t s hn hs w h
  have HHs : Hid (∀ u w, RdF u t w → Tab w → Calls Tryd.prog 38 #[u, .string (str s), .string (str k)] w fun e w' => e = .returned (.bool (hasF s t k)) ∧ Below w.heap.size w w') := fun u w h tb => Has_any u t s k hn hk hs w h tb
  have HrHs : Hid (∀ u w, RdF u t w → Calls Tryd.prog 39 #[u, .string (str s), .string (str k)] w fun e w' => e = .returned (.bool (hasF s t k)) ∧ Below w.heap.size w w') := fun u w h => rHas_any u t s k hn hk hs w h
  have hv := sumV_filter s t
  have hvl : (vals s t).length ≤ 1048576 := by omega
  have hll := listV_len (vals s t) []
  have HLL : Hid ((listF s t).1.length ≤ 4294967296) := by show _ ≤ _; unfold listF; simp at hll; omega
  have HTL : Hid ((tokensF s t).1.length ≤ 4294967296) := Nat.le_trans (tokens_len hs s) (by omega)
  obtain ⟨⟨a, c, rfl, _⟩, _⟩ := hin
  clear hw hs hn hk hM hM2 hv hll
  generalize vals s t = T at *
  generalize (listF s t).1 = LL at *
  generalize (listF s t).2 = LZ at *
  generalize (tokensF s t).1 = TL at *
  generalize (tokensF s t).2 = TZ at *
  generalize hasF s t k = HB at *
  generalize str s = S at *
  generalize str k = K at *
  generalize str (joinF T) = J at *
  have e2 : (J.toList != J.toList) = false := by simp
  have e4 : (LZ != LZ) = false := by simp
  have e5 : (TZ != TZ) = false := by simp
  have e6 : (HB == HB) = true := by simp
  by_cases hT0 : T = []
  · subst hT0
    have hd : decide (0 < ([] : List (List UInt8)).length) = false := by simp
    rw [hd] at HFd HJ HrJ
    have hg : str (([] : List (List UInt8)).getD 0 []) = ⟨#[]⟩ := rfl
    rw [hg] at HFd
    clear hd hg
    go_enter Tryd.func7, Tryd.ntmps7
    go_wp2_with fail
    refine (HA.out).mono ?_
    rintro e w1 ⟨rfl, hb⟩
    have HB1 : Hid (Below w.heap.size w w1) := hb
    clear hb
    go_wp2_with fail
    refine (HH.out _ (HI.out.below HB1.out)).mono ?_
    rintro e w2 ⟨u, f, rfl, hu, hf, hb⟩
    have HB2 : Hid (Below w.heap.size w w2) := bel_trans HB1.out hb
    have U_2 : Hid (RdF u t w2) := hu.1
    have F_2 : Hid (RdF f (t ++ spareF) w2) := hf
    clear hb hu hf
    go_wp2_with fail
    refine (HPl.out _ (HR.out.below HB2.out)).mono ?_
    rintro e w3 ⟨m, rfl, hm, hb⟩
    have HB3 : Hid (Below w.heap.size w w3) := bel_trans HB2.out hb
    have U_3 : Hid (RdF u t w3) := U_2.out.below hb
    have F_3 : Hid (RdF f (t ++ spareF) w3) := F_2.out.below hb
    have M_3 : Hid (RdF m t w3) := hm.rd
    clear hb hm
    go_wp2_with fail
    refine (HrAl.out _ _ M_3.out).mono ?_
    rintro e w4 ⟨x, rfl, hx, hb⟩
    have HB4 : Hid (Below w.heap.size w w4) := bel_trans HB3.out hb
    have U_4 : Hid (RdF u t w4) := U_3.out.below hb
    have F_4 : Hid (RdF f (t ++ spareF) w4) := F_3.out.below hb
    have M_4 : Hid (RdF m t w4) := M_3.out.below hb
    have X_4 : Hid (RdS x [] w4) := hx.rd
    obtain ⟨xa, xc, rfl⟩ := hx.form
    clear hb hx
    go_wp2_with fail
    refine (HFd.out _ _ U_4.out).mono ?_
    rintro e w5 ⟨rfl, hb⟩
    have HB5 : Hid (Below w.heap.size w w5) := bel_trans HB4.out hb
    have U_5 : Hid (RdF u t w5) := U_4.out.below hb
    have F_5 : Hid (RdF f (t ++ spareF) w5) := F_4.out.below hb
    have M_5 : Hid (RdF m t w5) := M_4.out.below hb
    have X_5 : Hid (RdS (.slice xa 0 xc) [] w5) := X_4.out.below hb
    clear hb
    go_wp2_with fail
    refine (HAl.out _ _ U_5.out).mono ?_
    rintro e w6 ⟨y, rfl, hy, hb⟩
    have HB6 : Hid (Below w.heap.size w w6) := bel_trans HB5.out hb
    have U_6 : Hid (RdF u t w6) := U_5.out.below hb
    have F_6 : Hid (RdF f (t ++ spareF) w6) := F_5.out.below hb
    have M_6 : Hid (RdF m t w6) := M_5.out.below hb
    have X_6 : Hid (RdS (.slice xa 0 xc) [] w6) := X_5.out.below hb
    have Y_6 : Hid (RdS y [] w6) := hy.rd
    clear hb hy
    have HTx6 : Hid (Calls _ _ _ _ _) := texts_any y (.slice xa 0 xc) [] w6 Y_6.out X_6.out (by omega)
    go_wp2_with fail
    refine (HTx6.out).mono ?_
    rintro e w7 ⟨rfl, hb⟩
    have HB7 : Hid (Below w.heap.size w w7) := bel_trans HB6.out hb
    have U_7 : Hid (RdF u t w7) := U_6.out.below hb
    have F_7 : Hid (RdF f (t ++ spareF) w7) := F_6.out.below hb
    have M_7 : Hid (RdF m t w7) := M_6.out.below hb
    have X_7 : Hid (RdS (.slice xa 0 xc) [] w7) := X_6.out.below hb
    have Y_7 : Hid (RdS y [] w7) := Y_6.out.below hb
    clear hb HTx6
    go_wp2_with fail
    refine (HJ.out _ _ U_7.out).mono ?_
    rintro e w8 ⟨rfl, hb⟩
    have HB8 : Hid (Below w.heap.size w w8) := bel_trans HB7.out hb
    have U_8 : Hid (RdF u t w8) := U_7.out.below hb
    have F_8 : Hid (RdF f (t ++ spareF) w8) := F_7.out.below hb
    have M_8 : Hid (RdF m t w8) := M_7.out.below hb
    have X_8 : Hid (RdS (.slice xa 0 xc) [] w8) := X_7.out.below hb
    have Y_8 : Hid (RdS y [] w8) := Y_7.out.below hb
    clear hb
    go_wp2_with fail
    refine (HrJ.out _ _ M_8.out).mono ?_
    rintro e w9 ⟨rfl, hb⟩
    have HB9 : Hid (Below w.heap.size w w9) := bel_trans HB8.out hb
    have U_9 : Hid (RdF u t w9) := U_8.out.below hb
    have F_9 : Hid (RdF f (t ++ spareF) w9) := F_8.out.below hb
    have M_9 : Hid (RdF m t w9) := M_8.out.below hb
    have X_9 : Hid (RdS (.slice xa 0 xc) [] w9) := X_8.out.below hb
    have Y_9 : Hid (RdS y [] w9) := Y_8.out.below hb
    clear hb
    go_wp2_with fail
    refine (HL.out _ _ U_9.out).mono ?_
    rintro e w10 ⟨x10, rfl, hx, hb⟩
    have HB10 : Hid (Below w.heap.size w w10) := bel_trans HB9.out hb
    have U_10 : Hid (RdF u t w10) := U_9.out.below hb
    have F_10 : Hid (RdF f (t ++ spareF) w10) := F_9.out.below hb
    have M_10 : Hid (RdF m t w10) := M_9.out.below hb
    have X_10 : Hid (RdS (.slice xa 0 xc) [] w10) := X_9.out.below hb
    have Y_10 : Hid (RdS y [] w10) := Y_9.out.below hb
    have P_10 : Hid (RdS x10 LL w10) := hx.rd
    clear hb hx
    go_wp2_with fail
    refine (HrL.out _ _ M_10.out).mono ?_
    rintro e w11 ⟨x11, rfl, hx, hb⟩
    have HB11 : Hid (Below w.heap.size w w11) := bel_trans HB10.out hb
    have U_11 : Hid (RdF u t w11) := U_10.out.below hb
    have F_11 : Hid (RdF f (t ++ spareF) w11) := F_10.out.below hb
    have M_11 : Hid (RdF m t w11) := M_10.out.below hb
    have X_11 : Hid (RdS (.slice xa 0 xc) [] w11) := X_10.out.below hb
    have Y_11 : Hid (RdS y [] w11) := Y_10.out.below hb
    have P_11 : Hid (RdS x10 LL w11) := P_10.out.below hb
    have Q_11 : Hid (RdS x11 LL w11) := hx.rd
    clear hb hx
    have HTx11 : Hid (Calls _ _ _ _ _) := texts_any x10 x11 LL w11 P_11.out Q_11.out HLL.out
    go_wp2_with fail
    refine (HTx11.out).mono ?_
    rintro e w12 ⟨rfl, hb⟩
    have HB12 : Hid (Below w.heap.size w w12) := bel_trans HB11.out hb
    have U_12 : Hid (RdF u t w12) := U_11.out.below hb
    have F_12 : Hid (RdF f (t ++ spareF) w12) := F_11.out.below hb
    have M_12 : Hid (RdF m t w12) := M_11.out.below hb
    have X_12 : Hid (RdS (.slice xa 0 xc) [] w12) := X_11.out.below hb
    have Y_12 : Hid (RdS y [] w12) := Y_11.out.below hb
    have P_12 : Hid (RdS x10 LL w12) := P_11.out.below hb
    have Q_12 : Hid (RdS x11 LL w12) := Q_11.out.below hb
    clear hb HTx11
    go_wp2_with fail
    refine (HT.out _ _ U_12.out (HE.out.below HB12.out).1).mono ?_
    rintro e w13 ⟨x13, rfl, hx, hb⟩
    have HB13 : Hid (Below w.heap.size w w13) := bel_trans HB12.out hb
    have U_13 : Hid (RdF u t w13) := U_12.out.below hb
    have F_13 : Hid (RdF f (t ++ spareF) w13) := F_12.out.below hb
    have M_13 : Hid (RdF m t w13) := M_12.out.below hb
    have X_13 : Hid (RdS (.slice xa 0 xc) [] w13) := X_12.out.below hb
    have Y_13 : Hid (RdS y [] w13) := Y_12.out.below hb
    have P_13 : Hid (RdS x10 LL w13) := P_12.out.below hb
    have Q_13 : Hid (RdS x11 LL w13) := Q_12.out.below hb
    have R_13 : Hid (RdS x13 TL w13) := hx.rd
    clear hb hx
    go_wp2_with fail
    refine (HrT.out _ _ M_13.out).mono ?_
    rintro e w14 ⟨x14, rfl, hx, hb⟩
    have HB14 : Hid (Below w.heap.size w w14) := bel_trans HB13.out hb
    have U_14 : Hid (RdF u t w14) := U_13.out.below hb
    have F_14 : Hid (RdF f (t ++ spareF) w14) := F_13.out.below hb
    have M_14 : Hid (RdF m t w14) := M_13.out.below hb
    have X_14 : Hid (RdS (.slice xa 0 xc) [] w14) := X_13.out.below hb
    have Y_14 : Hid (RdS y [] w14) := Y_13.out.below hb
    have P_14 : Hid (RdS x10 LL w14) := P_13.out.below hb
    have Q_14 : Hid (RdS x11 LL w14) := Q_13.out.below hb
    have R_14 : Hid (RdS x13 TL w14) := R_13.out.below hb
    have Z_14 : Hid (RdS x14 TL w14) := hx.rd
    clear hb hx
    have HTx14 : Hid (Calls _ _ _ _ _) := texts_any x13 x14 TL w14 R_14.out Z_14.out HTL.out
    go_wp2_with fail
    refine (HTx14.out).mono ?_
    rintro e w15 ⟨rfl, hb⟩
    have HB15 : Hid (Below w.heap.size w w15) := bel_trans HB14.out hb
    have U_15 : Hid (RdF u t w15) := U_14.out.below hb
    have F_15 : Hid (RdF f (t ++ spareF) w15) := F_14.out.below hb
    have M_15 : Hid (RdF m t w15) := M_14.out.below hb
    have X_15 : Hid (RdS (.slice xa 0 xc) [] w15) := X_14.out.below hb
    have Y_15 : Hid (RdS y [] w15) := Y_14.out.below hb
    have P_15 : Hid (RdS x10 LL w15) := P_14.out.below hb
    have Q_15 : Hid (RdS x11 LL w15) := Q_14.out.below hb
    have R_15 : Hid (RdS x13 TL w15) := R_14.out.below hb
    have Z_15 : Hid (RdS x14 TL w15) := Z_14.out.below hb
    clear hb HTx14
    go_wp2_with fail
    refine (HHs.out _ _ U_15.out (HE.out.below HB15.out).1).mono ?_
    rintro e w16 ⟨rfl, hb⟩
    have HB16 : Hid (Below w.heap.size w w16) := bel_trans HB15.out hb
    have U_16 : Hid (RdF u t w16) := U_15.out.below hb
    have F_16 : Hid (RdF f (t ++ spareF) w16) := F_15.out.below hb
    have M_16 : Hid (RdF m t w16) := M_15.out.below hb
    have X_16 : Hid (RdS (.slice xa 0 xc) [] w16) := X_15.out.below hb
    have Y_16 : Hid (RdS y [] w16) := Y_15.out.below hb
    have P_16 : Hid (RdS x10 LL w16) := P_15.out.below hb
    have Q_16 : Hid (RdS x11 LL w16) := Q_15.out.below hb
    have R_16 : Hid (RdS x13 TL w16) := R_15.out.below hb
    have Z_16 : Hid (RdS x14 TL w16) := Z_15.out.below hb
    clear hb
    go_wp2_with fail
    refine (HrHs.out _ _ M_16.out).mono ?_
    rintro e w17 ⟨rfl, hb⟩
    have HB17 : Hid (Below w.heap.size w w17) := bel_trans HB16.out hb
    have U_17 : Hid (RdF u t w17) := U_16.out.below hb
    have F_17 : Hid (RdF f (t ++ spareF) w17) := F_16.out.below hb
    have M_17 : Hid (RdF m t w17) := M_16.out.below hb
    have X_17 : Hid (RdS (.slice xa 0 xc) [] w17) := X_16.out.below hb
    have Y_17 : Hid (RdS y [] w17) := Y_16.out.below hb
    have P_17 : Hid (RdS x10 LL w17) := P_16.out.below hb
    have Q_17 : Hid (RdS x11 LL w17) := Q_16.out.below hb
    have R_17 : Hid (RdS x13 TL w17) := R_16.out.below hb
    have Z_17 : Hid (RdS x14 TL w17) := Z_16.out.below hb
    clear hb
    go_wp2_with fail
    refine (HWh.out _ _ F_17.out (HR.out.below HB17.out)).mono ?_
    rintro e w18 ⟨rfl, hb⟩
    have HB18 : Hid (Below w.heap.size w w18) := bel_trans HB17.out hb
    have U_18 : Hid (RdF u t w18) := U_17.out.below hb
    have F_18 : Hid (RdF f (t ++ spareF) w18) := F_17.out.below hb
    have M_18 : Hid (RdF m t w18) := M_17.out.below hb
    have X_18 : Hid (RdS (.slice xa 0 xc) [] w18) := X_17.out.below hb
    have Y_18 : Hid (RdS y [] w18) := Y_17.out.below hb
    have P_18 : Hid (RdS x10 LL w18) := P_17.out.below hb
    have Q_18 : Hid (RdS x11 LL w18) := Q_17.out.below hb
    have R_18 : Hid (RdS x13 TL w18) := R_17.out.below hb
    have Z_18 : Hid (RdS x14 TL w18) := Z_17.out.below hb
    clear hb
    go_wp2
    go_ret
    exact ⟨rfl, HB18.out⟩
  · have hpos : 0 < T.length := List.length_pos_iff.2 hT0
    rw [decide_eq_true hpos] at HFd HJ HrJ
    go_enter Tryd.func7, Tryd.ntmps7
    go_wp2_with fail
    refine (HA.out).mono ?_
    rintro e w1 ⟨rfl, hb⟩
    have HB1 : Hid (Below w.heap.size w w1) := hb
    clear hb
    go_wp2_with fail
    refine (HH.out _ (HI.out.below HB1.out)).mono ?_
    rintro e w2 ⟨u, f, rfl, hu, hf, hb⟩
    have HB2 : Hid (Below w.heap.size w w2) := bel_trans HB1.out hb
    have U_2 : Hid (RdF u t w2) := hu.1
    have F_2 : Hid (RdF f (t ++ spareF) w2) := hf
    clear hb hu hf
    go_wp2_with fail
    refine (HPl.out _ (HR.out.below HB2.out)).mono ?_
    rintro e w3 ⟨m, rfl, hm, hb⟩
    have HB3 : Hid (Below w.heap.size w w3) := bel_trans HB2.out hb
    have U_3 : Hid (RdF u t w3) := U_2.out.below hb
    have F_3 : Hid (RdF f (t ++ spareF) w3) := F_2.out.below hb
    have M_3 : Hid (RdF m t w3) := hm.rd
    clear hb hm
    go_wp2_with fail
    refine (HrAl.out _ _ M_3.out).mono ?_
    rintro e w4 ⟨x, rfl, hx, hb⟩
    have HB4 : Hid (Below w.heap.size w w4) := bel_trans HB3.out hb
    have U_4 : Hid (RdF u t w4) := U_3.out.below hb
    have F_4 : Hid (RdF f (t ++ spareF) w4) := F_3.out.below hb
    have M_4 : Hid (RdF m t w4) := M_3.out.below hb
    have X_4 : Hid (RdS x T w4) := hx.rd
    obtain ⟨xa, xc, rfl⟩ := hx.form
    clear hb hx
    obtain ⟨a5, c5, e5', hcs5⟩ := X_4.out
    injection e5' with e51 _ e52
    subst e51 e52
    rcases hcs5 with h | ⟨g5, o5, rfl, hlc5, hcell5⟩
    · exact absurd h hT0
    have p5 := hcell5 0 hpos
    rw [Nat.add_zero] at p5
    clear hcell5
    generalize hF0 : str (T.getD 0 []) = F0 at *
    clear hF0
    have e1 : (F0.toList != F0.toList) = false := by simp
    go_wp2_with fail
    refine (HFd.out _ _ U_4.out).mono ?_
    rintro e w5 ⟨rfl, hb⟩
    have HB5 : Hid (Below w.heap.size w w5) := bel_trans HB4.out hb
    have U_5 : Hid (RdF u t w5) := U_4.out.below hb
    have F_5 : Hid (RdF f (t ++ spareF) w5) := F_4.out.below hb
    have M_5 : Hid (RdF m t w5) := M_4.out.below hb
    have X_5 : Hid (RdS (.slice (some ⟨g5, o5, none⟩) T.length xc) T w5) := X_4.out.below hb
    clear hb
    go_wp2_with fail
    refine (HAl.out _ _ U_5.out).mono ?_
    rintro e w6 ⟨y, rfl, hy, hb⟩
    have HB6 : Hid (Below w.heap.size w w6) := bel_trans HB5.out hb
    have U_6 : Hid (RdF u t w6) := U_5.out.below hb
    have F_6 : Hid (RdF f (t ++ spareF) w6) := F_5.out.below hb
    have M_6 : Hid (RdF m t w6) := M_5.out.below hb
    have X_6 : Hid (RdS (.slice (some ⟨g5, o5, none⟩) T.length xc) T w6) := X_5.out.below hb
    have Y_6 : Hid (RdS y T w6) := hy.rd
    clear hb hy
    have HTx6 : Hid (Calls _ _ _ _ _) := texts_any y (.slice (some ⟨g5, o5, none⟩) T.length xc) T w6 Y_6.out X_6.out (by omega)
    go_wp2_with fail
    refine (HTx6.out).mono ?_
    rintro e w7 ⟨rfl, hb⟩
    have HB7 : Hid (Below w.heap.size w w7) := bel_trans HB6.out hb
    have U_7 : Hid (RdF u t w7) := U_6.out.below hb
    have F_7 : Hid (RdF f (t ++ spareF) w7) := F_6.out.below hb
    have M_7 : Hid (RdF m t w7) := M_6.out.below hb
    have X_7 : Hid (RdS (.slice (some ⟨g5, o5, none⟩) T.length xc) T w7) := X_6.out.below hb
    have Y_7 : Hid (RdS y T w7) := Y_6.out.below hb
    clear hb HTx6
    go_wp2_with fail
    refine (HJ.out _ _ U_7.out).mono ?_
    rintro e w8 ⟨rfl, hb⟩
    have HB8 : Hid (Below w.heap.size w w8) := bel_trans HB7.out hb
    have U_8 : Hid (RdF u t w8) := U_7.out.below hb
    have F_8 : Hid (RdF f (t ++ spareF) w8) := F_7.out.below hb
    have M_8 : Hid (RdF m t w8) := M_7.out.below hb
    have X_8 : Hid (RdS (.slice (some ⟨g5, o5, none⟩) T.length xc) T w8) := X_7.out.below hb
    have Y_8 : Hid (RdS y T w8) := Y_7.out.below hb
    clear hb
    go_wp2_with fail
    refine (HrJ.out _ _ M_8.out).mono ?_
    rintro e w9 ⟨rfl, hb⟩
    have HB9 : Hid (Below w.heap.size w w9) := bel_trans HB8.out hb
    have U_9 : Hid (RdF u t w9) := U_8.out.below hb
    have F_9 : Hid (RdF f (t ++ spareF) w9) := F_8.out.below hb
    have M_9 : Hid (RdF m t w9) := M_8.out.below hb
    have X_9 : Hid (RdS (.slice (some ⟨g5, o5, none⟩) T.length xc) T w9) := X_8.out.below hb
    have Y_9 : Hid (RdS y T w9) := Y_8.out.below hb
    clear hb
    go_wp2_with fail
    refine (HL.out _ _ U_9.out).mono ?_
    rintro e w10 ⟨x10, rfl, hx, hb⟩
    have HB10 : Hid (Below w.heap.size w w10) := bel_trans HB9.out hb
    have U_10 : Hid (RdF u t w10) := U_9.out.below hb
    have F_10 : Hid (RdF f (t ++ spareF) w10) := F_9.out.below hb
    have M_10 : Hid (RdF m t w10) := M_9.out.below hb
    have X_10 : Hid (RdS (.slice (some ⟨g5, o5, none⟩) T.length xc) T w10) := X_9.out.below hb
    have Y_10 : Hid (RdS y T w10) := Y_9.out.below hb
    have P_10 : Hid (RdS x10 LL w10) := hx.rd
    clear hb hx
    go_wp2_with fail
    refine (HrL.out _ _ M_10.out).mono ?_
    rintro e w11 ⟨x11, rfl, hx, hb⟩
    have HB11 : Hid (Below w.heap.size w w11) := bel_trans HB10.out hb
    have U_11 : Hid (RdF u t w11) := U_10.out.below hb
    have F_11 : Hid (RdF f (t ++ spareF) w11) := F_10.out.below hb
    have M_11 : Hid (RdF m t w11) := M_10.out.below hb
    have X_11 : Hid (RdS (.slice (some ⟨g5, o5, none⟩) T.length xc) T w11) := X_10.out.below hb
    have Y_11 : Hid (RdS y T w11) := Y_10.out.below hb
    have P_11 : Hid (RdS x10 LL w11) := P_10.out.below hb
    have Q_11 : Hid (RdS x11 LL w11) := hx.rd
    clear hb hx
    have HTx11 : Hid (Calls _ _ _ _ _) := texts_any x10 x11 LL w11 P_11.out Q_11.out HLL.out
    go_wp2_with fail
    refine (HTx11.out).mono ?_
    rintro e w12 ⟨rfl, hb⟩
    have HB12 : Hid (Below w.heap.size w w12) := bel_trans HB11.out hb
    have U_12 : Hid (RdF u t w12) := U_11.out.below hb
    have F_12 : Hid (RdF f (t ++ spareF) w12) := F_11.out.below hb
    have M_12 : Hid (RdF m t w12) := M_11.out.below hb
    have X_12 : Hid (RdS (.slice (some ⟨g5, o5, none⟩) T.length xc) T w12) := X_11.out.below hb
    have Y_12 : Hid (RdS y T w12) := Y_11.out.below hb
    have P_12 : Hid (RdS x10 LL w12) := P_11.out.below hb
    have Q_12 : Hid (RdS x11 LL w12) := Q_11.out.below hb
    clear hb HTx11
    go_wp2_with fail
    refine (HT.out _ _ U_12.out (HE.out.below HB12.out).1).mono ?_
    rintro e w13 ⟨x13, rfl, hx, hb⟩
    have HB13 : Hid (Below w.heap.size w w13) := bel_trans HB12.out hb
    have U_13 : Hid (RdF u t w13) := U_12.out.below hb
    have F_13 : Hid (RdF f (t ++ spareF) w13) := F_12.out.below hb
    have M_13 : Hid (RdF m t w13) := M_12.out.below hb
    have X_13 : Hid (RdS (.slice (some ⟨g5, o5, none⟩) T.length xc) T w13) := X_12.out.below hb
    have Y_13 : Hid (RdS y T w13) := Y_12.out.below hb
    have P_13 : Hid (RdS x10 LL w13) := P_12.out.below hb
    have Q_13 : Hid (RdS x11 LL w13) := Q_12.out.below hb
    have R_13 : Hid (RdS x13 TL w13) := hx.rd
    clear hb hx
    go_wp2_with fail
    refine (HrT.out _ _ M_13.out).mono ?_
    rintro e w14 ⟨x14, rfl, hx, hb⟩
    have HB14 : Hid (Below w.heap.size w w14) := bel_trans HB13.out hb
    have U_14 : Hid (RdF u t w14) := U_13.out.below hb
    have F_14 : Hid (RdF f (t ++ spareF) w14) := F_13.out.below hb
    have M_14 : Hid (RdF m t w14) := M_13.out.below hb
    have X_14 : Hid (RdS (.slice (some ⟨g5, o5, none⟩) T.length xc) T w14) := X_13.out.below hb
    have Y_14 : Hid (RdS y T w14) := Y_13.out.below hb
    have P_14 : Hid (RdS x10 LL w14) := P_13.out.below hb
    have Q_14 : Hid (RdS x11 LL w14) := Q_13.out.below hb
    have R_14 : Hid (RdS x13 TL w14) := R_13.out.below hb
    have Z_14 : Hid (RdS x14 TL w14) := hx.rd
    clear hb hx
    have HTx14 : Hid (Calls _ _ _ _ _) := texts_any x13 x14 TL w14 R_14.out Z_14.out HTL.out
    go_wp2_with fail
    refine (HTx14.out).mono ?_
    rintro e w15 ⟨rfl, hb⟩
    have HB15 : Hid (Below w.heap.size w w15) := bel_trans HB14.out hb
    have U_15 : Hid (RdF u t w15) := U_14.out.below hb
    have F_15 : Hid (RdF f (t ++ spareF) w15) := F_14.out.below hb
    have M_15 : Hid (RdF m t w15) := M_14.out.below hb
    have X_15 : Hid (RdS (.slice (some ⟨g5, o5, none⟩) T.length xc) T w15) := X_14.out.below hb
    have Y_15 : Hid (RdS y T w15) := Y_14.out.below hb
    have P_15 : Hid (RdS x10 LL w15) := P_14.out.below hb
    have Q_15 : Hid (RdS x11 LL w15) := Q_14.out.below hb
    have R_15 : Hid (RdS x13 TL w15) := R_14.out.below hb
    have Z_15 : Hid (RdS x14 TL w15) := Z_14.out.below hb
    clear hb HTx14
    go_wp2_with fail
    refine (HHs.out _ _ U_15.out (HE.out.below HB15.out).1).mono ?_
    rintro e w16 ⟨rfl, hb⟩
    have HB16 : Hid (Below w.heap.size w w16) := bel_trans HB15.out hb
    have U_16 : Hid (RdF u t w16) := U_15.out.below hb
    have F_16 : Hid (RdF f (t ++ spareF) w16) := F_15.out.below hb
    have M_16 : Hid (RdF m t w16) := M_15.out.below hb
    have X_16 : Hid (RdS (.slice (some ⟨g5, o5, none⟩) T.length xc) T w16) := X_15.out.below hb
    have Y_16 : Hid (RdS y T w16) := Y_15.out.below hb
    have P_16 : Hid (RdS x10 LL w16) := P_15.out.below hb
    have Q_16 : Hid (RdS x11 LL w16) := Q_15.out.below hb
    have R_16 : Hid (RdS x13 TL w16) := R_15.out.below hb
    have Z_16 : Hid (RdS x14 TL w16) := Z_15.out.below hb
    clear hb
    go_wp2_with fail
    refine (HrHs.out _ _ M_16.out).mono ?_
    rintro e w17 ⟨rfl, hb⟩
    have HB17 : Hid (Below w.heap.size w w17) := bel_trans HB16.out hb
    have U_17 : Hid (RdF u t w17) := U_16.out.below hb
    have F_17 : Hid (RdF f (t ++ spareF) w17) := F_16.out.below hb
    have M_17 : Hid (RdF m t w17) := M_16.out.below hb
    have X_17 : Hid (RdS (.slice (some ⟨g5, o5, none⟩) T.length xc) T w17) := X_16.out.below hb
    have Y_17 : Hid (RdS y T w17) := Y_16.out.below hb
    have P_17 : Hid (RdS x10 LL w17) := P_16.out.below hb
    have Q_17 : Hid (RdS x11 LL w17) := Q_16.out.below hb
    have R_17 : Hid (RdS x13 TL w17) := R_16.out.below hb
    have Z_17 : Hid (RdS x14 TL w17) := Z_16.out.below hb
    clear hb
    go_wp2_with fail
    refine (HWh.out _ _ F_17.out (HR.out.below HB17.out)).mono ?_
    rintro e w18 ⟨rfl, hb⟩
    have HB18 : Hid (Below w.heap.size w w18) := bel_trans HB17.out hb
    have U_18 : Hid (RdF u t w18) := U_17.out.below hb
    have F_18 : Hid (RdF f (t ++ spareF) w18) := F_17.out.below hb
    have M_18 : Hid (RdF m t w18) := M_17.out.below hb
    have X_18 : Hid (RdS (.slice (some ⟨g5, o5, none⟩) T.length xc) T w18) := X_17.out.below hb
    have Y_18 : Hid (RdS y T w18) := Y_17.out.below hb
    have P_18 : Hid (RdS x10 LL w18) := P_17.out.below hb
    have Q_18 : Hid (RdS x11 LL w18) := Q_17.out.below hb
    have R_18 : Hid (RdS x13 TL w18) := R_17.out.below hb
    have Z_18 : Hid (RdS x14 TL w18) := Z_17.out.below hb
    clear hb
    go_wp2
    go_ret
    exact ⟨rfl, HB18.out⟩

end Fd
end Go.Proofs.YtojahhmdfbfnfaaDoor
