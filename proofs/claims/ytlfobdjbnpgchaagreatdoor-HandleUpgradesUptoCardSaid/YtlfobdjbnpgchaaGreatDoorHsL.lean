/-
  handle: the row's fields (written by mkhsl.py).
-/
import Derived.Test.YtlfobdjbnpgchaaGreatDoorHsC
import Derived.Test.YtlfobdjbnpgchaaGreatDoorHsS
set_option linter.unusedVariables false
set_option linter.unusedSimpArgs false
set_option maxRecDepth 100000
namespace Go.Proofs.YtlfobdjbnpgchaaGreatDoor
open Go.RowKit Go.Shelf
namespace Hn
open Oc Tg _root_.Go.Proofs.YtlfobdjbnpgchaaGreatDoor.Fd _root_.Go.Proofs.YtlfobdjbnpgchaaGreatDoor.Ck _root_.Go.Proofs.YtlfobdjbnpgchaaGreatDoor.Ms

/-- A slice of fields appended to one of the call's own, in a region that draws its order. -/
theorem stepFs {ops : Array Oper} {o : Oper} {a : Act} {K : Act → World → Prop} {Q : Exit → Act → World → Prop} {E' : Prop} (hgd : o.guard = none) (s x : Operand)
    (ho : o.op = .call { callee := .builtin .append, args := #[s, x], argTypes := #[34, 34] }) (B : Nat) (v y : Value) (t u : List Fl) (W : World)
    (hs : a.eval s = v) (hown : OwnF 36 B v t W) (hx : a.eval x = y) (hy : InF y u W) (hlen : t.length + u.length ≤ 2147483648) (hB : B ≤ W.heap.size)
    (h : ∀ v' w', Hid (OwnF 36 B v' (t ++ u) w') → Hid (But v.ownBlock.toList W w') → Hid (Below B W w') → K (a.put o.dst v') w') :
    if Region.wanted o (yielded ops a.tmps) = true then Oper.wp Tryz.prog o a W K Q else E' := by
  rw [if_pos (by simp [Region.wanted, hgd])]
  obtain ⟨i0, hi, hz0, hz1, hz2⟩ := info_parts infoF
  have own' : ∀ (ad : Addr) (c : Nat), y = .slice (some ad) u.length c → (∀ j z, (encF u)[j]? = some z → W.cell? (ad.add j) = some z) → o.wp Tryz.prog a W K Q := by
    intro ad c ey hcell
    refine wp_append_own W s x 34 ho B 36 i0 (.agg #[.string ⟨#[]⟩, .string ⟨#[]⟩]) 2 32 Tryz.underlying34 hi hz0 hz1 hz2 rfl (by decide) v t.length _ hs hown ad u.length c (encF u) (hx.trans ey) (encF_len u) hcell ?_ ?_ ?_ hB ?_
    · intro z hz
      obtain ⟨j, hj⟩ := List.getElem?_of_mem hz
      obtain ⟨_, e⟩ := encF_get u j z hj
      rw [e]
      split <;> rfl
    · unfold maxLen; omega
    · omega
    · intro v' w' h1 h2 _
      refine h v' w' ?_ ((But.refl _ W).grown h2 (fun k hk => by rw [hk]; simp)) ((Below.refl B W).grown h2 hB (fun k hk => (World.ownsRow.lt hown k hk).1))
      show OwnF _ _ _ _ _
      unfold OwnF
      rw [List.length_append, show encF (t ++ u) = encF t ++ encF u by unfold encF; rw [List.flatMap_append]]
      exact h1
  obtain ⟨⟨a2, c2, rfl, hr⟩, hnil⟩ := hy
  by_cases hu : u = []
  · subst hu
    rcases hnil rfl with e | ⟨g, c, e⟩
    · have hrun := run_append_owned_none (P := Tryz.prog) (w := W) B 34 o.type 36 i0 2 Tryz.underlying34 hi v t.length _ hown
      have hx' : a.eval x = .slice none 0 0 := hx.trans e
      unfold Oper.wp
      simp [execOp, ho, resolve, invoke, builtin, hs, hx', hrun, Result.andThen]
      exact h v W (by rw [List.append_nil]; exact hown) (But.refl _ _) (Below.refl _ _)
    · exact own' g c e (fun j z hj => by simp [encF] at hj)
  · rcases hr with hr | ⟨g, o', rfl, hc, hcell⟩
    · exact absurd hr hu
    · refine own' ⟨g, o', none⟩ c2 rfl (fun j z hj => ?_)
      rw [addr_add]
      obtain ⟨hq, e⟩ := encF_get u j z hj
      obtain ⟨h0, h1⟩ := hcell (j / 2) hq
      rw [e]
      by_cases hm : j % 2 = 0
      · rw [if_pos hm]
        rw [show o' + j / 2 * 2 = o' + j by omega] at h0
        exact h0
      · rw [if_neg hm]
        rw [show o' + j / 2 * 2 + 1 = o' + j by omega] at h1
        exact h1


def f1 : Fl := ([117, 112, 103, 114, 97, 100, 101], [97, 44, 32, 87, 101, 98, 83, 111, 99, 107, 101, 116])
def f2 : Fl := ([67, 79, 78, 78, 69, 67, 84, 73, 79, 78], [107, 101, 101, 112, 45, 97, 108, 105, 118, 101, 44, 32, 85, 112, 103, 114, 97, 100, 101])
def f3 : Fl := ([115, 101, 99, 45, 119, 101, 98, 115, 111, 99, 107, 101, 116, 45, 118, 101, 114, 115, 105, 111, 110], [49, 51])
def lF (k : List UInt8) : List Fl := [f1, f2, f3, (keyN, k)]
/-- Its cells. -/
@[reducible] def cL (k : ByteArray) : List Value := [.string ⟨#[117, 112, 103, 114, 97, 100, 101]⟩, .string ⟨#[97, 44, 32, 87, 101, 98, 83, 111, 99, 107, 101, 116]⟩, .string ⟨#[67, 79, 78, 78, 69, 67, 84, 73, 79, 78]⟩, .string ⟨#[107, 101, 101, 112, 45, 97, 108, 105, 118, 101, 44, 32, 85, 112, 103, 114, 97, 100, 101]⟩, .string ⟨#[115, 101, 99, 45, 119, 101, 98, 115, 111, 99, 107, 101, 116, 45, 118, 101, 114, 115, 105, 111, 110]⟩, .string ⟨#[49, 51]⟩, .string ⟨#[83, 101, 99, 45, 87, 101, 98, 83, 111, 99, 107, 101, 116, 45, 75, 101, 121]⟩, .string k]
theorem in_at {T L : Nat} {W : World} {cs : List Value} (h : Blk T W L cs) (o : Nat) (t : List Fl) (c : Nat) (hc : t.length ≤ c)
    (he : ∀ j, j < t.length → cs[o + j * 2]? = some (.string (str (nth t j).1)) ∧ cs[o + j * 2 + 1]? = some (.string (str (nth t j).2))) : InF (.slice (some ⟨L, o, none⟩) t.length c) t W :=
  ⟨⟨_, _, rfl, .inr ⟨L, o, rfl, hc, fun j hj => ⟨h.cell _ (he j hj).1, h.cell _ (he j hj).2⟩⟩⟩, fun e => .inr ⟨_, _, by rw [e]; rfl⟩⟩
theorem in_l {T L : Nat} {W : World} (k : List UInt8) (h : Blk T W L (cL (str k))) : InF (.slice (some ⟨L, 0, none⟩) 4 4) (lF k) W :=
  in_at h 0 (lF k) 4 (Nat.le_refl _) (fun j hj => match j, hj with
    | 0, _ => ⟨rfl, rfl⟩ | 1, _ => ⟨rfl, rfl⟩ | 2, _ => ⟨rfl, rfl⟩ | 3, _ => ⟨rfl, rfl⟩ | n + 4, h => by have h' : n + 4 < 4 := h; omega)
theorem in_front {T L : Nat} {W : World} (k : List UInt8) (h : Blk T W L (cL (str k))) (n : Nat) (hn : n ≤ 3) : InF (.slice (some ⟨L, 0, none⟩) n 4) ((lF k).take n) W := by
  have hl : ((lF k).take n).length = n := by rw [List.length_take]; simp [lF]; omega
  have := in_at h 0 ((lF k).take n) 4 (by omega) (fun j hj => by
    rw [hl] at hj
    have e : nth ((lF k).take n) j = nth (lF k) j := by
      unfold nth; rw [List.getD_eq_getElem?_getD, List.getD_eq_getElem?_getD, List.getElem?_take_of_lt hj]
    rw [e]
    match j, hj with
    | 0, _ => exact ⟨rfl, rfl⟩ | 1, _ => exact ⟨rfl, rfl⟩ | 2, _ => exact ⟨rfl, rfl⟩ | m + 3, h => omega)
  rw [hl] at this
  exact this
theorem in_back {T L : Nat} {W : World} (k : List UInt8) (h : Blk T W L (cL (str k))) (n : Nat) (hn : n ≤ 3) : InF (.slice (some ⟨L, (n + 1) * 2, none⟩) (3 - n) (3 - n)) ((lF k).drop (n + 1)) W := by
  have hl : ((lF k).drop (n + 1)).length = 3 - n := by rw [List.length_drop]; simp [lF]
  have := in_at h ((n + 1) * 2) ((lF k).drop (n + 1)) (3 - n) (by omega) (fun j hj => by
    rw [hl] at hj
    have e : nth ((lF k).drop (n + 1)) j = nth (lF k) (n + 1 + j) := by
      unfold nth; rw [List.getD_eq_getElem?_getD, List.getD_eq_getElem?_getD, List.getElem?_drop]
    rw [e, show (n + 1) * 2 + j * 2 = (n + 1 + j) * 2 by omega]
    have h3 : n + 1 + j ≤ 3 := by omega
    generalize n + 1 + j = m at h3
    match m, h3 with
    | 0, _ => exact ⟨rfl, rfl⟩ | 1, _ => exact ⟨rfl, rfl⟩ | 2, _ => exact ⟨rfl, rfl⟩ | 3, _ => exact ⟨rfl, rfl⟩ | m + 4, h => omega)
  rw [hl] at this
  exact this

theorem val_up (k : List UInt8) : vals upN (lF k) = [f1.2] := by rfl
theorem val_co (k : List UInt8) : vals coN (lF k) = [f2.2] := by rfl
theorem val_ve (k : List UInt8) : vals verN (lF k) = [f3.2] := by rfl
theorem val_ke (k : List UInt8) : vals keyN (lF k) = [k] := by rfl
theorem has_of {s k : List UInt8} {t u : List Fl} (h : vals s t = vals s u) : hasF s t k = hasF s u k := by
  unfold hasF tokensF listF
  rw [h]
theorem has_up (k : List UInt8) : hasF upN (lF k) wsK = true := by
  rw [has_of (u := [(upN, f1.2)]) (by rw [val_up]; rfl)]
  decide +kernel
theorem has_co (k : List UInt8) : hasF coN (lF k) ugK = true := by
  rw [has_of (u := [(coN, f2.2)]) (by rw [val_co]; rfl)]
  decide +kernel
theorem sock_l (k : List UInt8) : sockR (lF k) = if (Bs.accR k).2 ≠ 0 then 400 else 101 := by
  have h3 : onlyF verN (lF k) = [49, 51] := by unfold onlyF; rw [val_ve]; rfl
  have h4 : onlyF keyN (lF k) = k := by unfold onlyF; rw [val_ke]
  unfold sockR
  rw [has_up, has_co, h3, h4, if_neg (by decide), if_neg (by decide), if_neg (by simp)]
theorem only_l (k : List UInt8) : onlyF keyN (lF k) = k := by unfold onlyF; rw [val_ke]
theorem sock_s : sockR (lF keyS) = 101 := by
  rw [sock_l, acc_sample, if_neg (by simp)]
theorem sock_k (k : List UInt8) : sockR (lF k) = 101 ∧ (Bs.accR k).1.length = 28 ∨ sockR (lF k) = 400 := by
  rw [sock_l]
  unfold Bs.accR
  split
  · split
    · left
      refine ⟨by rw [if_neg (by simp)], ?_⟩
      rw [Bs.enc_len, Bs.shaR_length]
    · right; rw [if_pos (by simp)]
  · right; rw [if_pos (by simp)]
/-- One of the four struck. -/
def cut (n : Nat) : List Fl := (lF keyS).take n ++ (lF keyS).drop (n + 1)
theorem cut_len (n : Nat) (hn : n ≤ 3) : (cut n).length = 3 := by
  unfold cut
  rw [List.length_append, List.length_take, List.length_drop]
  simp [lF]
  omega
theorem sock_cut (n : Nat) (hn : n ≤ 3) : sockR (cut n) = 426 ∨ sockR (cut n) = 400 := by
  match n, hn with
  | 0, _ => left; unfold sockR; rw [if_pos (by decide +kernel)]
  | 1, _ => left; unfold sockR; rw [if_neg (by decide +kernel), if_pos (by decide +kernel)]
  | 2, _ => left; unfold sockR; rw [if_neg (by decide +kernel), if_neg (by decide +kernel), if_pos (by decide +kernel)]
  | 3, _ => right; unfold sockR; rw [if_neg (by decide +kernel), if_neg (by decide +kernel), if_neg (by decide +kernel), if_pos (by
      rw [show onlyF keyN (cut 3) = [] by rfl]
      have hd : Bs.dec [] = .ok [] := by rfl
      unfold Bs.accR
      rw [hd]
      decide)]
theorem sum_cut (n : Nat) (hn : n ≤ 3) : sumF (cut n) ≤ 4000000 := by
  match n, hn with
  | 0, _ => decide +kernel
  | 1, _ => decide +kernel
  | 2, _ => decide +kernel
  | 3, _ => decide +kernel
theorem sum_l (k : List UInt8) (hk : k.length ≤ 1048576) : sumF (lF k) ≤ 4000000 := by
  simp [sumF, lF, szF, f1, f2, f3, keyN]
  omega

end Hn
end Go.Proofs.YtlfobdjbnpgchaaGreatDoor
