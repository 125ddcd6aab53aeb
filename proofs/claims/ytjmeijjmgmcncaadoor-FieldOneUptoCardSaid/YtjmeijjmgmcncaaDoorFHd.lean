/-
  The law's own plain, handed, whole.
-/
import Derived.Test.YtjmeijjmgmcncaaDoorFOp
set_option linter.unusedVariables false
set_option linter.unusedSimpArgs false
namespace Go.Proofs.YtjmeijjmgmcncaaDoor
open Go.RowKit Go.Shelf
namespace Fd
open Oc Tg

set_option maxRecDepth 100000 in
set_option maxHeartbeats 2000000 in
theorem plain_any (v : Value) (t : List Fl) (w : World) (h : RdF v t w) (hl : t.length ≤ 16777216) :
    Calls Tryd.prog 10 #[v] w fun e w' => ∃ u, e = .returned u ∧ OwnF 71 w.heap.size u t w' ∧ Below w.heap.size w w' := by
  have HR : Hid (RdF v t w) := h
  obtain ⟨a, c, rfl, _⟩ := h
  go_enter Tryd.func10, Tryd.ntmps10
  go_wp2
  go_loopw [3, 8] (fun ov i wr => ∃ k : Nat, k ≤ t.length ∧ i = .int .i64 k ∧ Hid (OwnF 71 w.heap.size ov (t.take k) wr) ∧ Hid (Below w.heap.size w wr)) (fun _ i _ => t.length - (intOf i).toNat)
  case atStart => exact ⟨0, Nat.zero_le _, rfl, ownF_nil _ _ _, Below.refl _ _⟩
  case round =>
    obtain ⟨k, hk, rfl, hown, hbl⟩ := hrel
    have hsz := hbl.out.size
    by_cases hlt : k < t.length
    · obtain ⟨a', c', e', hcs⟩ := HR.out.below hbl.out
      injection e' with e1 _ e2
      subst e1 e2
      rcases hcs with h | ⟨g, o, rfl, hlc, hcell⟩
      · rw [h] at hlt; simp at hlt
      obtain ⟨p0, p1⟩ := hcell k hlt
      have HTk : Hid (t.take (k + 1) = t.take k ++ [nth t k]) := take_nth t k hlt
      have hlk : (t.take k).length + 1 ≤ 2147483648 := by rw [List.length_take]; omega
      generalize nth t k = p at *
      obtain ⟨pn, pv⟩ := p
      dsimp only at p0 p1
      generalize hn : str pn = N at p0
      generalize hv : str pv = V at p1
      have HN : Hid (N = str pn) := hn.symm
      have HV : Hid (V = str pv) := hv.symm
      have hb1 : Below wr.heap.size wr (wr.alloc (.cells #[.string N, .string V] 52)) := (Below.refl _ wr).alloc (Nat.le_refl _) _
      have HO1 : Hid (OwnF 71 w.heap.size _ (t.take k) (wr.alloc (.cells #[.string N, .string V] 52))) := hown.out.below hb1
      have HB1 : Hid (Below w.heap.size w (wr.alloc (.cells #[.string N, .string V] 52))) := bel_trans hbl.out hb1
      have hs1 : w.heap.size ≤ (wr.alloc (.cells #[.string N, .string V] 52)).heap.size := HB1.out.size
      clear hcell hn hv hb1
      go_wp2_with (at_builtin; go_must (refine wp_appF 71 26 infoF2 Tryd.underlying26 rfl (.tmp 12) (.tmp 18) rfl w.heap.size _ (t.take k) _ (pn, pv) _ _ HN.out HV.out rfl HO1.out _ rfl (by simp) hlk hs1 ?_); intro v6 w6 hown6 hb6)
      have HO6 : Hid (OwnF 71 w.heap.size v6 (t.take (k + 1)) w6) := (by rw [HTk.out]; exact hown6 : OwnF _ _ v6 (t.take (k + 1)) w6)
      have HB6 : Hid (Below w.heap.size w w6) := HB1.out.trans hb6
      clear hown6 hb6
      go_roundw
      case rel => exact ⟨k + 1, by omega, by go_num, HO6, HB6⟩
      case measure => simp [intOf]; omega
    · obtain rfl : k = t.length := by omega
      rw [List.take_length] at hown
      go_wp2
      go_ret
      exact ⟨_, rfl, hown.out, hbl.out⟩

/-- The two fields of spare room. -/
def spareF : List Fl := [([115, 112, 97, 114, 101], []), ([114, 111, 111, 109], [])]
theorem rd_two (w : World) (T : Nat) : InF (.slice (some ⟨w.heap.size, 0, none⟩) 2 2) spareF (w.alloc (.cells #[.string ⟨#[115, 112, 97, 114, 101]⟩, .string ⟨#[]⟩, .string ⟨#[114, 111, 111, 109]⟩, .string ⟨#[]⟩] T)) := by
  refine ⟨⟨_, _, rfl, .inr ⟨w.heap.size, 0, rfl, by simp [spareF], fun j hj => ?_⟩⟩, fun e => by cases e⟩
  have hj2 : j < 2 := by simpa [spareF] using hj
  match j, hj2 with
  | 0, _ => exact ⟨by simp [nth, spareF, str], by simp [nth, spareF, str]⟩
  | 1, _ => exact ⟨by simp [nth, spareF, str], by simp [nth, spareF, str]⟩
theorem RdF.front {a : Option Addr} {n c : Nat} {t u : List Fl} {w : World} (h : RdF (.slice a n c) (t ++ u) w) : RdF (.slice a t.length c) t w := by
  obtain ⟨a', c', e, h⟩ := h
  injection e with e1 e2 e3
  subst e1 e3
  refine ⟨a, c, rfl, ?_⟩
  rcases h with h | ⟨g, o, rfl, hc, hcell⟩
  · exact .inl (List.append_eq_nil_iff.1 h).1
  · refine .inr ⟨g, o, rfl, by rw [List.length_append] at hc; omega, fun j hj => ?_⟩
    have := hcell j (by rw [List.length_append]; omega)
    rw [show nth (t ++ u) j = nth t j by unfold nth; rw [List.getD_eq_getElem?_getD, List.getD_eq_getElem?_getD, List.getElem?_append_left hj]] at this
    exact this

theorem RdF.cap {a : Option Addr} {n c : Nat} {t : List Fl} {w : World} (h : RdF (.slice a n c) t w) : t.length ≤ c := by
  obtain ⟨a', c', e, h⟩ := h
  injection e with e1 e2 e3
  subst e3
  rcases h with h | ⟨g, o, _, hc, _⟩
  · rw [h]; exact Nat.zero_le _
  · exact hc
theorem RdF.some {a : Option Addr} {n c : Nat} {t : List Fl} {w : World} (h : RdF (.slice a n c) t w) (ht : t ≠ []) : ∃ g, a = .some g := by
  obtain ⟨a', c', e, h⟩ := h
  injection e with e1 e2 e3
  subst e1
  rcases h with h | ⟨g, o, e, _, _⟩
  · exact absurd h ht
  · exact ⟨_, e⟩

set_option maxRecDepth 100000 in
set_option maxHeartbeats 2000000 in
theorem handed_any (v : Value) (t : List Fl) (w : World) (h : InF v t w) (hl : t.length ≤ 16777216) :
    Calls Tryd.prog 9 #[v] w fun e w' => ∃ u f, e = .returned (.tuple #[u, f]) ∧ InF u t w' ∧ RdF f (t ++ spareF) w' ∧ Below w.heap.size w w' := by
  have HW : Hid (Calls _ _ _ _ _) := wide_any v t w h hl
  obtain ⟨⟨a, c, rfl, _⟩, _⟩ := h
  go_enter Tryd.func9, Tryd.ntmps9
  go_wp2_with fail
  refine HW.out.mono ?_
  rintro e w1 ⟨u, rfl, ho1, hb1⟩
  have HI : Hid (_) := rd_two w1 52
  have hb2 : Below w1.heap.size w1 (w1.alloc (.cells #[.string ⟨#[115, 112, 97, 114, 101]⟩, .string ⟨#[]⟩, .string ⟨#[114, 111, 111, 109]⟩, .string ⟨#[]⟩] 52)) := (Below.refl _ w1).alloc (Nat.le_refl _) _
  have HO : Hid (OwnF 52 w.heap.size u t (w1.alloc (.cells #[.string ⟨#[115, 112, 97, 114, 101]⟩, .string ⟨#[]⟩, .string ⟨#[114, 111, 111, 109]⟩, .string ⟨#[]⟩] 52))) := ho1.below hb2
  have HB : Hid (Below w.heap.size w (w1.alloc (.cells #[.string ⟨#[115, 112, 97, 114, 101]⟩, .string ⟨#[]⟩, .string ⟨#[114, 111, 111, 109]⟩, .string ⟨#[]⟩] 52))) := bel_trans hb1 hb2
  have hs : w.heap.size ≤ (w1.alloc (.cells #[.string ⟨#[115, 112, 97, 114, 101]⟩, .string ⟨#[]⟩, .string ⟨#[114, 111, 111, 109]⟩, .string ⟨#[]⟩] 52)).heap.size := HB.out.size
  clear ho1 hb1 hb2
  go_wp2_with (at_builtin; go_must (refine wp_appFs 52 22 infoF Tryd.underlying22 rfl (.tmp 6) (.tmp 9) rfl w.heap.size _ _ t spareF rfl HO.out rfl HI.out (by simp [spareF]; omega) hs ?_); intro v5 w5 o5 b5; obtain ⟨fa, fc, rfl⟩ := o5.form; have HO5 : Hid (OwnF _ _ _ _ _) := o5; have HB5 : Hid (Below w.heap.size w w5) := HB.out.trans b5; clear o5 b5; have hcap : t.length ≤ fc := by {have := HO5.out.rd.cap; rw [List.length_append] at this; omega}; rw [List.length_append, show spareF.length = 2 from rfl] at *)
  go_ret2
  refine ⟨_, _, rfl, ⟨HO5.out.rd.front, fun e => ?_⟩, HO5.out.rd, HB5.out⟩
  obtain ⟨g, rfl⟩ := HO5.out.rd.some (by simp [spareF])
  exact .inr ⟨g, fc, by rw [e]; rfl⟩

set_option maxRecDepth 100000 in
set_option maxHeartbeats 2000000 in
theorem whole_any (f v : Value) (t : List Fl) (w : World) (hf : RdF f (t ++ spareF) w) (h : RdF v t w) (hl : t.length ≤ 16777216) :
    Calls Tryd.prog 14 #[f, v] w fun e w' => e = .returned (.bool true) ∧ Below w.heap.size w w' := by
  have HP : Hid (Calls _ _ _ _ _) := plain_any v t w h hl
  have HF : Hid (RdF f (t ++ spareF) w) := hf
  obtain ⟨a, c, rfl, _⟩ := h
  obtain ⟨a', c', rfl, _⟩ := hf
  have hsp : (t ++ spareF).length ≤ 4294967296 := by rw [List.length_append, show spareF.length = 2 from rfl]; omega
  generalize hn : (t ++ spareF).length = n at *
  clear hn
  go_enter Tryd.func14, Tryd.ntmps14
  go_wp2_with fail
  refine HP.out.mono ?_
  rintro e w1 ⟨u, rfl, ho1, hb1⟩
  have HI : Hid (_) := rd_two w1 71
  have hb2 : Below w1.heap.size w1 (w1.alloc (.cells #[.string ⟨#[115, 112, 97, 114, 101]⟩, .string ⟨#[]⟩, .string ⟨#[114, 111, 111, 109]⟩, .string ⟨#[]⟩] 71)) := (Below.refl _ w1).alloc (Nat.le_refl _) _
  have HO : Hid (OwnF 71 w.heap.size u t (w1.alloc (.cells #[.string ⟨#[115, 112, 97, 114, 101]⟩, .string ⟨#[]⟩, .string ⟨#[114, 111, 111, 109]⟩, .string ⟨#[]⟩] 71))) := ho1.below hb2
  have HB : Hid (Below w.heap.size w (w1.alloc (.cells #[.string ⟨#[115, 112, 97, 114, 101]⟩, .string ⟨#[]⟩, .string ⟨#[114, 111, 111, 109]⟩, .string ⟨#[]⟩] 71))) := bel_trans hb1 hb2
  have hs : w.heap.size ≤ (w1.alloc (.cells #[.string ⟨#[115, 112, 97, 114, 101]⟩, .string ⟨#[]⟩, .string ⟨#[114, 111, 111, 109]⟩, .string ⟨#[]⟩] 71)).heap.size := HB.out.size
  clear ho1 hb1 hb2
  go_wp2_with (at_builtin; go_must (refine wp_appFs 71 26 infoF2 Tryd.underlying26 rfl (.tmp 7) (.tmp 10) rfl w.heap.size _ _ t spareF rfl HO.out rfl HI.out (by simp [spareF]; omega) hs ?_); intro v5 w5 o5 b5)
  have HB5 : Hid (Below w.heap.size w w5) := HB.out.trans b5
  have HS : Hid (Calls _ _ _ _ _) := same_any (.slice a' n c') v5 (t ++ spareF) w5 (HF.out.below HB5.out) o5.rd (by rw [List.length_append, show spareF.length = 2 from rfl]; omega)
  clear o5 b5
  go_wp2_with fail
  refine HS.out.mono ?_
  rintro e w6 ⟨rfl, hb6⟩
  have HB6 : Hid (Below w.heap.size w w6) := bel_trans HB5.out hb6
  clear hb6
  go_wp2
  go_ret
  exact ⟨rfl, HB6.out⟩

end Fd
end Go.Proofs.YtjmeijjmgmcncaaDoor
