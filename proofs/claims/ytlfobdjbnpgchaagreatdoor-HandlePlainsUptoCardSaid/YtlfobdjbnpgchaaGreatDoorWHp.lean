/-
  HandlePlains (written by mkwhp.py).
-/
import Derived.Test.YtlfobdjbnpgchaaGreatDoorMgJ
import Derived.Test.YtlfobdjbnpgchaaGreatDoorMgM
import Derived.Test.YtlfobdjbnpgchaaGreatDoorMgK
set_option linter.unusedVariables false
set_option linter.unusedSimpArgs false
set_option maxRecDepth 100000
namespace Go.Proofs.YtlfobdjbnpgchaaGreatDoor
open Go.RowKit Go.Shelf
namespace Hn
open Oc Tg _root_.Go.Proofs.YtlfobdjbnpgchaaGreatDoor.Fd _root_.Go.Proofs.YtlfobdjbnpgchaaGreatDoor.Ck _root_.Go.Proofs.YtlfobdjbnpgchaaGreatDoor.Ms

def spX : List Fl := [([115, 112, 97, 114, 101], [])]
theorem rd_spX (w : World) (T : Nat) : InF (.slice (some ⟨w.heap.size, 0, none⟩) 1 1) spX (w.alloc (.cells #[.string ⟨#[115, 112, 97, 114, 101]⟩, .string ⟨#[]⟩] T)) := by
  have h := rd_oneF w T ([115, 112, 97, 114, 101], [])
  exact ⟨h, fun e => by cases e⟩

set_option maxHeartbeats 8000000 in
theorem walk_HandlePlains (n : Int) (hn : i64 n) (v : Value) (t : List Fl) (hs : bulkfields t ≤ 1048576) (w : World) (hin : InF v t w) (hp : Pow w) :
    Calls Tryz.prog 4 #[.int .i64 n, v] w fun e w' => e = .returned (.bool true) ∧ Below w.heap.size w w' := by
  unfold bulkfields at hs
  have hlen := len_sumF t
  have htl : t.length ≤ 16777216 := by omega
  have HA : Hid (Calls _ _ _ _ _) := awake_any w
  have HI : Hid (InF v t w) := hin
  have HR : Hid (RdF v t w) := hin.1
  have HP : Hid (Pow w) := hp
  obtain ⟨BX, hBX⟩ : ∃ BX, BX = str (stW n ++ [10]) := ⟨_, rfl⟩
  have HPn : Hid (∀ a c W, InF (.slice a t.length c) t W → Pow W → Calls Tryz.prog 11 #[.int .i64 n, .slice a t.length c] W fun e w' => ∃ a c, e = .returned (.agg #[.int .i64 n, .string ⟨#[]⟩, .slice a (t.length + 1) c, .string BX]) ∧ OwnF 36 W.heap.size (.slice a (t.length + 1) c) ((nCT, plT) :: t) w' ∧ Below W.heap.size W w') := fun a c W h p => by
    have := Plain_any n hn (.slice a t.length c) t (by omega) W h p
    rw [← hBX] at this
    exact this
  have HrP : Hid (∀ u W, InF u t W → Calls Tryz.prog 12 #[.int .i64 n, u] W fun e w' => ∃ a c, e = .returned (.agg #[.int .i64 n, .string ⟨#[]⟩, .slice a (t.length + 1) c, .string BX]) ∧ OwnF 52 W.heap.size (.slice a (t.length + 1) c) ((nCT, plT) :: t) w' ∧ Below W.heap.size W w') := fun u W h => by
    have := rPlain_any n hn u t (by omega) W h
    rw [← hBX] at this
    exact this
  have HFd : Hid (∀ W, RdF v t W → Calls Tryz.prog 13 #[v] W fun e w' => ∃ u, e = .returned u ∧ OwnF 52 W.heap.size u t w' ∧ Below W.heap.size W w') := fun W h => fields18_any v t W h (by omega)
  have HSm : Hid (∀ bd a a2 c c2 W, RdF (.slice a (t.length + 1) c) ((nCT, plT) :: t) W → RdF (.slice a2 (t.length + 1) c2) ((nCT, plT) :: t) W → Calls Tryz.prog 10 #[.agg #[.int .i64 n, .string ⟨#[]⟩, .slice a (t.length + 1) c, .string bd], .agg #[.int .i64 n, .string ⟨#[]⟩, .slice a2 (t.length + 1) c2, .string bd]] W fun e w' => e = .returned (.bool true) ∧ Below W.heap.size W w') := fun bd a a2 c c2 W h1 h2 => sameR_any n bd a a2 c c2 ((nCT, plT) :: t) (by simp; omega) W h1 h2
  obtain ⟨J0, J1, J2, B0, B1, B2, hWv⟩ : ∃ J0 J1 J2 B0 B1 B2, wishV t = #[.string J0, .string J1, .string J2, .bool B0, .bool B1, .bool B2] := ⟨_, _, _, _, _, _, rfl⟩
  have HWi : Hid (∀ a c W, RdF (.slice a t.length c) t W → Calls Tryz.prog 14 #[.slice a t.length c] W fun e w' => e = .returned (.agg #[.string J0, .string J1, .string J2, .bool B0, .bool B1, .bool B2]) ∧ Below W.heap.size W w') := fun a c W h => by
    have := Wish_any (.slice a t.length c) t hs W h
    rw [hWv] at this
    exact this
  have HrW : Hid (∀ u W, RdF u t W → Calls Tryz.prog 15 #[u] W fun e w' => e = .returned (.agg #[.string J0, .string J1, .string J2, .bool B0, .bool B1, .bool B2]) ∧ Below W.heap.size W w') := fun u W h => by
    have := rWish_any u t hs W h
    rw [hWv] at this
    exact this
  have HSf : Hid (∀ f u W, RdF f (t ++ spX) W → RdF u (t ++ spX) W → Calls Tryz.prog 16 #[f, u] W fun e w' => e = .returned (.bool true) ∧ Below W.heap.size W w') := fun f u W h1 h2 => same18_any f u (t ++ spX) W h1 h2 (by rw [List.length_append, show spX.length = 1 from rfl]; omega)
  obtain ⟨⟨av, cv, rfl, _⟩, _⟩ := id hin
  clear hin hp hs hlen hWv hBX
  go_enter Tryz.func4, Tryz.ntmps4
  go_wp2_with fail
  refine HA.out.mono ?_
  rintro e w1 ⟨rfl, hb1⟩
  have HB1 : Hid (Below w.heap.size w w1) := hb1
  have hbe : Below w1.heap.size w1 (w1.alloc (.cells #[] 36)) := (Below.refl _ w1).alloc (Nat.le_refl _) _
  have HOe : Hid (OwnF 36 w.heap.size (.slice (some ⟨w1.heap.size, 0, none⟩) 0 0) [] (w1.alloc (.cells #[] 36))) := (ownF_empty 36 w1 hb1.size : OwnF _ _ _ _ _)
  have HBe : Hid (Below w.heap.size w (w1.alloc (.cells #[] 36))) := bel_tr hb1 hbe hb1.size
  have HIe : Hid (InF (.slice av t.length cv) t (w1.alloc (.cells #[] 36))) := (HI.out.below HBe.out : InF _ _ _)
  have HSe : Hid (w.heap.size ≤ (w1.alloc (.cells #[] 36)).heap.size) := HBe.out.size
  clear hb1 hbe HA
  go_wp2_with (at_builtin; first
    | (refine wp_appFs 36 34 infoF Tryz.underlying34 rfl (.tmp 10) (.tmp 11) rfl w.heap.size _ _ [] t rfl HOe.out rfl HIe.out (by simp; omega) HSe.out ?_; intro v3 w3 o3 b3; obtain ⟨fa, fc, e3⟩ := ownF_form o3; subst e3; rw [List.nil_append] at o3 ⊢; have HO3 : Hid (OwnF 36 w.heap.size (.slice fa t.length fc) t (w3.alloc (.cells #[.string ⟨#[115, 112, 97, 114, 101]⟩, .string ⟨#[]⟩] 36))) := (o3.below ((Below.refl _ w3).alloc (Nat.le_refl _) _) : OwnF _ _ _ _ _); have HB3 : Hid (Below w.heap.size w (w3.alloc (.cells #[.string ⟨#[115, 112, 97, 114, 101]⟩, .string ⟨#[]⟩] 36))) := (bel_tr (HBe.out.trans b3) ((Below.refl _ w3).alloc (Nat.le_refl _) _) (HBe.out.trans b3).size : Below _ _ _); have HS3 : Hid (w.heap.size ≤ (w3.alloc (.cells #[.string ⟨#[115, 112, 97, 114, 101]⟩, .string ⟨#[]⟩] 36)).heap.size) := HB3.out.size; have HI3 : Hid (InF _ _ _) := rd_spX w3 36; clear o3 b3)
    | (refine wp_appFs 36 34 infoF Tryz.underlying34 rfl (.tmp 12) (.tmp 14) rfl w.heap.size _ _ t spX rfl HO3.out rfl HI3.out (by simp [spX]; omega) HS3.out ?_; intro v5 w5 o5 b5; obtain ⟨ga, gc, e5⟩ := ownF_form o5; subst e5; have HO5 : Hid (OwnF 36 w.heap.size (.slice ga (t ++ spX).length gc) (t ++ spX) w5) := o5; have HB5 : Hid (Below w.heap.size w w5) := HB3.out.trans b5; clear o5 b5; have hcap : t.length ≤ gc := (by have := HO5.out.rd.cap; rw [List.length_append] at this; omega); have hcap2 : (t.length : Int) ≤ (gc : Int) := (by omega); clear HO3 HB3 HS3 HI3 HOe HBe HIe HSe))
  have F_5 : Hid (RdF (.slice ga (t.length + spX.length) gc) (t ++ spX) w5) := (by have := HO5.out.rd; rw [List.length_append] at this; exact this : RdF _ _ _)
  have U_5 : Hid (InF (.slice ga t.length gc) t w5) := (⟨HO5.out.rd.front, fun e => by
    obtain ⟨g, rfl⟩ := HO5.out.rd.some (by simp [spX])
    exact .inr ⟨g, gc, by rw [e]; rfl⟩⟩ : InF _ _ _)
  clear HO5
  refine (HPn.out ga gc w5 U_5.out (HP.out.below HB5.out (Nat.le_refl _))).mono ?_
  rintro e w6 ⟨a6, c6, rfl, ho, hb⟩
  have HB6 : Hid (Below w.heap.size w w6) := bel_tr HB5.out hb HB5.out.size
  have F_6 : Hid (RdF (.slice ga (t.length + spX.length) gc) (t ++ spX) w6) := F_5.out.below hb
  have U_6 : Hid (InF (.slice ga t.length gc) t w6) := U_5.out.below hb
  have A_6 : Hid (RdF (.slice a6 (t.length + 1) c6) ((nCT, plT) :: t) w6) := ho.rd
  clear hb ho
  go_wp2_with fail
  refine (HFd.out w6 (HR.out.below HB6.out)).mono ?_
  rintro e w7 ⟨u7, rfl, ho, hb⟩
  have HB7 : Hid (Below w.heap.size w w7) := bel_tr HB6.out hb HB6.out.size
  have F_7 : Hid (RdF (.slice ga (t.length + spX.length) gc) (t ++ spX) w7) := F_6.out.below hb
  have U_7 : Hid (InF (.slice ga t.length gc) t w7) := U_6.out.below hb
  have A_7 : Hid (RdF (.slice a6 (t.length + 1) c6) ((nCT, plT) :: t) w7) := A_6.out.below hb
  have M_7 : Hid (InF u7 t w7) := ho.inF
  clear hb ho
  go_wp2_with fail
  refine (HrP.out u7 w7 M_7.out).mono ?_
  rintro e w8 ⟨a8, c8, rfl, ho, hb⟩
  have HB8 : Hid (Below w.heap.size w w8) := bel_tr HB7.out hb HB7.out.size
  have F_8 : Hid (RdF (.slice ga (t.length + spX.length) gc) (t ++ spX) w8) := F_7.out.below hb
  have U_8 : Hid (InF (.slice ga t.length gc) t w8) := U_7.out.below hb
  have A_8 : Hid (RdF (.slice a6 (t.length + 1) c6) ((nCT, plT) :: t) w8) := A_7.out.below hb
  have C_8 : Hid (RdF (.slice a8 (t.length + 1) c8) ((nCT, plT) :: t) w8) := ho.rd
  clear hb ho
  clear M_7
  go_wp2_with fail
  refine (HSm.out BX a6 a8 c6 c8 w8 A_8.out C_8.out).mono ?_
  rintro e w9 ⟨rfl, hb⟩
  have HB9 : Hid (Below w.heap.size w w9) := bel_tr HB8.out hb HB8.out.size
  have F_9 : Hid (RdF (.slice ga (t.length + spX.length) gc) (t ++ spX) w9) := F_8.out.below hb
  have U_9 : Hid (InF (.slice ga t.length gc) t w9) := U_8.out.below hb
  clear hb
  go_wp2_with fail
  refine (HWi.out ga gc w9 U_9.out.1).mono ?_
  rintro e w10 ⟨rfl, hb⟩
  have HB10 : Hid (Below w.heap.size w w10) := bel_tr HB9.out hb HB9.out.size
  have F_10 : Hid (RdF (.slice ga (t.length + spX.length) gc) (t ++ spX) w10) := F_9.out.below hb
  clear hb
  go_wp2_with fail
  refine (HFd.out w10 (HR.out.below HB10.out)).mono ?_
  rintro e w11 ⟨u11, rfl, ho, hb⟩
  have HB11 : Hid (Below w.heap.size w w11) := bel_tr HB10.out hb HB10.out.size
  have F_11 : Hid (RdF (.slice ga (t.length + spX.length) gc) (t ++ spX) w11) := F_10.out.below hb
  have M_11 : Hid (RdF u11 t w11) := ho.rd
  clear hb ho
  go_wp2_with fail
  refine (HrW.out u11 w11 M_11.out).mono ?_
  rintro e w12 ⟨rfl, hb⟩
  have HB12 : Hid (Below w.heap.size w w12) := bel_tr HB11.out hb HB11.out.size
  have F_12 : Hid (RdF (.slice ga (t.length + spX.length) gc) (t ++ spX) w12) := F_11.out.below hb
  clear hb
  go_wp2_with fail
  have hb13 : Below w12.heap.size w12 ((w12.alloc (.cells #[.string J0, .string J1, .string J2, .bool B0, .bool B1, .bool B2] 47)).alloc (.cells #[.string J0, .string J1, .string J2, .bool B0, .bool B1, .bool B2] 49)) := ((Below.refl _ w12).alloc (Nat.le_refl _) _).alloc (by simp) _
  have HB13 : Hid (Below w.heap.size w ((w12.alloc (.cells #[.string J0, .string J1, .string J2, .bool B0, .bool B1, .bool B2] 47)).alloc (.cells #[.string J0, .string J1, .string J2, .bool B0, .bool B1, .bool B2] 49))) := bel_tr HB12.out hb13 HB12.out.size
  have F_13 : Hid (RdF (.slice ga (t.length + spX.length) gc) (t ++ spX) ((w12.alloc (.cells #[.string J0, .string J1, .string J2, .bool B0, .bool B1, .bool B2] 47)).alloc (.cells #[.string J0, .string J1, .string J2, .bool B0, .bool B1, .bool B2] 49))) := F_12.out.below hb13
  refine (HFd.out _ (HR.out.below HB13.out)).mono ?_
  rintro e w14 ⟨u14, rfl, ho, hb⟩
  obtain ⟨ha, hc, e14⟩ := ownF_form ho
  subst e14
  have hb15 : Below w14.heap.size w14 (w14.alloc (.cells #[.string ⟨#[115, 112, 97, 114, 101]⟩, .string ⟨#[]⟩] 52)) := (Below.refl _ w14).alloc (Nat.le_refl _) _
  have HB14 : Hid (Below w.heap.size w w14) := bel_tr HB13.out hb HB13.out.size
  have HB15 : Hid (Below w.heap.size w (w14.alloc (.cells #[.string ⟨#[115, 112, 97, 114, 101]⟩, .string ⟨#[]⟩] 52))) := bel_tr HB14.out hb15 HB14.out.size
  have HO15 : Hid (OwnF 52 ((w12.alloc (.cells #[.string J0, .string J1, .string J2, .bool B0, .bool B1, .bool B2] 47)).alloc (.cells #[.string J0, .string J1, .string J2, .bool B0, .bool B1, .bool B2] 49)).heap.size (.slice ha t.length hc) t (w14.alloc (.cells #[.string ⟨#[115, 112, 97, 114, 101]⟩, .string ⟨#[]⟩] 52))) := (ho.below hb15 : OwnF _ _ _ _ _)
  have HI15 : Hid (InF _ _ _) := rd_spX w14 52
  have HX15 : Hid (Below ((w12.alloc (.cells #[.string J0, .string J1, .string J2, .bool B0, .bool B1, .bool B2] 47)).alloc (.cells #[.string J0, .string J1, .string J2, .bool B0, .bool B1, .bool B2] 49)).heap.size ((w12.alloc (.cells #[.string J0, .string J1, .string J2, .bool B0, .bool B1, .bool B2] 47)).alloc (.cells #[.string J0, .string J1, .string J2, .bool B0, .bool B1, .bool B2] 49)) (w14.alloc (.cells #[.string ⟨#[115, 112, 97, 114, 101]⟩, .string ⟨#[]⟩] 52))) := bel_tr hb hb15 hb.size
  have HS15 : Hid (((w12.alloc (.cells #[.string J0, .string J1, .string J2, .bool B0, .bool B1, .bool B2] 47)).alloc (.cells #[.string J0, .string J1, .string J2, .bool B0, .bool B1, .bool B2] 49)).heap.size ≤ (w14.alloc (.cells #[.string ⟨#[115, 112, 97, 114, 101]⟩, .string ⟨#[]⟩] 52)).heap.size) := HX15.out.size
  have F_13 : Hid (RdF (.slice ga (t.length + spX.length) gc) (t ++ spX) ((w12.alloc (.cells #[.string J0, .string J1, .string J2, .bool B0, .bool B1, .bool B2] 47)).alloc (.cells #[.string J0, .string J1, .string J2, .bool B0, .bool B1, .bool B2] 49))) := F_13
  have HZ13 : Hid (w.heap.size ≤ ((w12.alloc (.cells #[.string J0, .string J1, .string J2, .bool B0, .bool B1, .bool B2] 47)).alloc (.cells #[.string J0, .string J1, .string J2, .bool B0, .bool B1, .bool B2] 49)).heap.size) := HB13.out.size
  clear ho hb hb13 hb15 HB13 HB12 F_12 HB14
  go_wp2_with (at_builtin; go_must (refine wp_appFs 52 41 infoF2 Tryz.underlying41 rfl (.tmp 78) (.tmp 80) rfl _ _ _ t spX rfl HO15.out rfl HI15.out (by simp [spX]; omega) HS15.out ?_); intro v16 w16 o16 b16; have HU16 : Hid (RdF v16 (t ++ spX) w16) := (o16.rd : RdF _ _ _); have HB16 : Hid (Below w.heap.size w w16) := HB15.out.trans (b16.mono HZ13.out); have F_16 : Hid (RdF (.slice ga (t.length + spX.length) gc) (t ++ spX) w16) := (F_13.out.below (HX15.out.trans b16) : RdF _ _ _); clear o16 b16 F_13 HX15 HS15 HI15 HO15 HB15)
  refine (HSf.out _ v16 w16 F_16.out HU16.out).mono ?_
  rintro e w17 ⟨rfl, hb17⟩
  have HB17 : Hid (Below w.heap.size w w17) := bel_tr HB16.out hb17 HB16.out.size
  clear hb17 HB16 F_16 HU16 HSf
  go_wp2
  refine bodyPost_ret (v := .bool true) (by simp [results, Tryz.results4, go_sem]) rfl ⟨rfl, HB17.out⟩

end Hn
end Go.Proofs.YtlfobdjbnpgchaaGreatDoor
