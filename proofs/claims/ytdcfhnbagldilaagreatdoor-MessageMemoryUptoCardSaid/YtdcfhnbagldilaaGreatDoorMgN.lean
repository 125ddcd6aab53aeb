import Derived.Test.YtdcfhnbagldilaaGreatDoorMgH
import Derived.Test.YtdcfhnbagldilaaGreatDoorMsA
import Derived.Test.YtdcfhnbagldilaaGreatDoorMgM
import Derived.Test.YtdcfhnbagldilaaGreatDoorMgB
import Derived.Test.YtdcfhnbagldilaaGreatDoorMgC
import Derived.Lib.ItoaMem
import Derived.Lib.ItoaLen
import Derived.Lib.AppendIntMem
import Derived.Laws.IdiomStrings
import Derived.Test.YtdcfhnbagldilaaGreatDoorMgL
set_option linter.unusedVariables false
set_option linter.unusedSimpArgs false
set_option maxRecDepth 100000
namespace Go.Proofs.YtdcfhnbagldilaaGreatDoor
open Go.RowKit Go.Shelf
namespace Ms
open Oc Tg _root_.Go.Proofs.YtdcfhnbagldilaaGreatDoor.Fd _root_.Go.Proofs.YtdcfhnbagldilaaGreatDoor.Ck
structure HS where
  piece : List UInt8
  ended : Bool
  used : Nat
  wrong : Int
  line : List UInt8
  lineAt : Nat
  headed : Bool
  st : Int
  rs : List UInt8
  fs : List Fl
  minor : Int
  kind : Int
  len : Int
  per : Bool
def lcH (s : HS) (vl vf : Value) (ex : List Value) : List Value :=
  .string (str s.piece) :: .bool s.ended :: .int .i64 (s.used : Int) :: .int .i64 s.wrong :: vl :: .int .i64 (s.lineAt : Int) :: .bool s.headed :: .slice none 0 0 :: .pointer none :: .int .i64 s.st :: .string (str s.rs) :: vf :: .string ⟨#[]⟩ :: .int .i64 s.minor :: .slice none 0 0 :: .int .i64 s.kind :: .int .i64 s.len :: .bool s.per :: ex
def Blk (T : Nat) (w : World) (D : Nat) (cs : List Value) : Prop := w.heap[D]? = some (.cells cs.toArray T (0, 0))
theorem Blk.lt {T : Nat} {w : World} {D : Nat} {cs : List Value} (h : Blk T w D cs) : D < w.heap.size := (Array.getElem?_eq_some_iff.1 h).1
theorem Blk.cell {T : Nat} {w : World} {D : Nat} {cs : List Value} (h : Blk T w D cs) (i : Nat) {v : Value} (hv : cs[i]? = some v) : w.cell? ⟨D, i, none⟩ = some v := by
  unfold Blk at h
  rw [cell_of_row w D _ _ _ _ h]
  simpa using hv
theorem Blk.free {T : Nat} {w : World} {D : Nat} {cs : List Value} (h : Blk T w D cs) (i : Nat) : w.frozen? ⟨D, i, none⟩ = false := frozen_of_row w D i _ _ h
theorem Blk.set {T : Nat} {w : World} {D : Nat} {cs : List Value} (h : Blk T w D cs) (i : Nat) (v : Value) : Blk T (w.setCell ⟨D, i, none⟩ v) D (cs.set i v) := by
  have := heap_setCell_same w D i cs.toArray _ v h
  unfold Blk
  rw [this, List.setIfInBounds_toArray]
theorem Blk.below {T : Nat} {w w' : World} {D : Nat} {cs : List Value} (h : Blk T w D cs) (b : Below w.heap.size w w') : Blk T w' D cs := by
  unfold Blk at *
  rw [b.block D (Array.getElem?_eq_some_iff.1 h).1]
  exact h
theorem Blk.but {T : Nat} {w w' : World} {D : Nat} {cs : List Value} {bs : List Nat} (h : Blk T w D cs) (b : But bs w w') (hn : D ∉ bs) : Blk T w' D cs := b.heap h hn
def TOk (T : Nat) : Prop := T ≠ 5 ∧ T ≠ 47
theorem Blk.ne {T T' : Nat} {w : World} {D g B S n : Nat} {v : Value} {xs cs : List Value} (h : Blk T w D cs) (ho : w.ownsRow B T' S v n xs) (hT : T ≠ T') (hg : v.ownBlock = some g) : g ≠ D := by
  intro e
  subst e
  rcases ho.2 with ⟨rfl, _⟩ | ⟨g', cap, cur, rfl, _, hg', _⟩
  · cases hg
  · have : g' = g := by simpa [Value.ownBlock] using hg
    subst this
    unfold Blk at h
    rw [h] at hg'
    injection hg' with e
    injection e with _ e2 _
    exact hT e2
theorem Blk.keep {T T' : Nat} {w w' : World} {D B S n : Nat} {v : Value} {xs cs : List Value} (h : Blk T w D cs) (ho : w.ownsRow B T' S v n xs) (hT : T ≠ T') (hb : But [D] w w') : w'.ownsRow B T' S v n xs :=
  hb.owns ho (fun g hg e => h.ne ho hT hg (by simpa using e))
structure IsH (T : Nat) (ex : List Value) (w : World) (D : Nat) (s : HS) (vl vf : Value) : Prop where
  str : Blk T w D (lcH s vl vf ex)
  line : Own 0 vl s.line w
  fs : OwnF 47 0 vf s.fs w
def ftH (D : Nat) (vl vf : Value) : List Nat := D :: (vl.ownBlock.toList ++ vf.ownBlock.toList)
def HdS (T : Nat) (ex : List Value) (w : World) (D : Nat) (s : HS) (bs : List Nat) : Prop := ∃ vl vf, IsH T ex w D s vl vf ∧ bs = ftH D vl vf
theorem IsH.below {T : Nat} {ex : List Value} {w w' : World} {D : Nat} {s : HS} {vl vf : Value} (h : IsH T ex w D s vl vf) (b : Below w.heap.size w w') : IsH T ex w' D s vl vf :=
  ⟨h.str.below b, (But.of_below b).owns h.line (fun _ _ e => by cases e), (But.of_below b).owns h.fs (fun _ _ e => by cases e)⟩
theorem HdS.below {T : Nat} {ex : List Value} {w w' : World} {D : Nat} {s : HS} {bs : List Nat} (h : HdS T ex w D s bs) (b : Below w.heap.size w w') : HdS T ex w' D s bs := by
  obtain ⟨vl, vf, H, rfl⟩ := h
  exact ⟨vl, vf, H.below b, rfl⟩
theorem IsH.build {T : Nat} {ex : List Value} {w w' : World} {D : Nat} {s s' : HS} {vl vf : Value} (hT : TOk T) (H : IsH T ex w D s vl vf) (hb : But [D] w w') {vl' : Value} (hc : Blk T w' D (lcH s' vl' vf ex)) (hl : Own 0 vl' s'.line w) (hf : s'.fs = s.fs) : IsH T ex w' D s' vl' vf :=
  ⟨hc, H.str.keep hl hT.1 hb, by rw [hf]; exact H.str.keep H.fs hT.2 hb⟩
theorem goesH {w w' : World} {D : Nat} {vl vf vl' vf' : Value} (hb : But (ftH D vl vf) w w') (h1 : ∀ g, vl'.ownBlock = some g → vl.ownBlock = some g ∨ w.heap.size ≤ g) (h2 : ∀ g, vf'.ownBlock = some g → vf.ownBlock = some g ∨ w.heap.size ≤ g) : Goes (ftH D vl vf) w (ftH D vl' vf') w' := by
  refine ⟨hb, fun x hx => ?_⟩
  unfold ftH at hx ⊢
  simp at hx ⊢
  rcases hx with rfl | hx | hx
  · exact .inl (.inl rfl)
  · rcases h1 x hx with e | e
    · exact .inl (.inr (.inl e))
    · exact .inr e
  · rcases h2 x hx with e | e
    · exact .inl (.inr (.inr e))
    · exact .inr e
theorem ftHd {w w' : World} {D : Nat} (h : But [D] w w') (vl vf : Value) : But (ftH D vl vf) w w' := h.mono (fun x hx => by simp at hx; subst hx; simp [ftH])
theorem setD {w0 w : World} {D : Nat} (h : But [D] w0 w) (i : Nat) (v : Value) : But [D] w0 (w.setCell ⟨D, i, none⟩ v) := h.setCell (by simp) _
set_option maxHeartbeats 1000000 in
theorem refuse_raw {T : Nat} {w : World} {D : Nat} {cs : List Value} (h : Blk T w D cs) (hv : ∃ v, cs[3]? = some v) (a e : Int) :
    Calls Tryz.prog 64 #[.pointer (some ⟨D, 0, none⟩), .int .i64 a, .int .i64 e] w fun x w' => x = .returned (.int .i64 e) ∧ w' = w.setCell ⟨D, 3, none⟩ (.int .i64 a) := by
  obtain ⟨v, hv⟩ := hv
  have c3 := h.cell 3 hv
  have f3 := h.free 3
  clear h hv
  go_enter Tryz.func64, Tryz.ntmps64
  go_wp2
  go_ret
  exact ⟨rfl, rfl⟩
set_option maxHeartbeats 1000000 in
theorem readOff_raw {T : Nat} {w : World} {D : Nat} {cs : List Value} (h : Blk T w D cs) (p : ByteArray) (u n : Nat) (h0 : cs[0]? = some (.string p)) (h2 : cs[2]? = some (.int .i64 (u : Int))) (hn : n ≤ p.size) (hp : p.size ≤ 4000000000) (hu : u ≤ 4000000000) :
    Calls Tryz.prog 25 #[.pointer (some ⟨D, 0, none⟩), .int .i64 (n : Int)] w fun x w' => x = .returned (.string (p.extract 0 n)) ∧ w' = (w.setCell ⟨D, 0, none⟩ (.string (p.extract n p.size))).setCell ⟨D, 2, none⟩ (.int .i64 ((u : Int) + (n : Int))) := by
  have c0 := h.cell 0 h0
  have c2 := h.cell 2 h2
  have f0 := h.free 0
  have f2 := h.free 2
  have a0 : (0 : Int) ≤ (n : Int) := by omega
  have a1 : (n : Int) ≤ (p.size : Int) := by omega
  clear h h0 h2
  go_enter Tryz.func25, Tryz.ntmps25
  go_wp2
  go_ret
  exact ⟨rfl, rfl⟩
def formB : List UInt8 := [72, 84, 84, 80, 47, 49, 46, 48, 32, 48, 48, 48, 32]
def gonI (a : Nat) (x : Int) : Bool :=
  if 13 ≤ a then x == 13 || (decide (a < 269) && fieldI x)
  else if a = 7 then x == 48 || x == 49
  else if a = 9 then decide (49 ≤ x) && decide (x ≤ 53)
  else if a = 10 ∨ a = 11 then decide (48 ≤ x) && decide (x ≤ 57)
  else x == ((formB.getD a 0).toNat : Int)
end Ms
end Go.Proofs.YtdcfhnbagldilaaGreatDoor
set_option linter.unusedVariables false
set_option linter.unusedSimpArgs false
namespace Go.Proofs.YtdcfhnbagldilaaGreatDoor
open Go.RowKit Go.Shelf
open Go.Sort (grow)
namespace Oc
def Pow (w : World) : Prop := Lib.TabIs Tryz.prog w "internal/strconv.uint64pow10" .u64 Lib.pow10Tab
theorem gPow : Tryz.prog.globalNamed "internal/strconv.uint64pow10" = some 0 := by kernel_rfl
theorem Pow.lt {w : World} (h : Pow w) : 0 < w.heap.size := by
  have c := Lib.TabIs.cell h gPow 0 (by rw [Lib.pow10Tab_length]; omega)
  rcases Nat.lt_or_ge 0 w.heap.size with h | h
  · exact h
  · simp [World.cell?, Array.getElem?_eq_none h] at c
theorem Pow.below {B : Nat} {w w' : World} (h : Pow w) (b : Below B w w') (hB : w.heap.size ≤ B) : Pow w' := by
  have := h.lt
  exact var?_below b gPow (by omega) h
set_option maxHeartbeats 400000 in
theorem Digits_any (n : Int) (h0 : -9223372036854775808 ≤ n) (h1 : n ≤ 9223372036854775807) (w : World) (t : Pow w) :
    Calls Tryz.prog 53 #[.int .i64 n] w fun e w' => e = .returned (.string (str (Lib.itoa n))) ∧ Below w.heap.size w w' := by
  have HT : Hid (Pow w) := t
  clear t
  have hcon := Tryz.strconv_Itoa n h0 h1 w HT.out
  change Calls Tryz.prog 92 _ _ (fun e w' => e = .returned (.string (str (Lib.itoa n))) ∧ ∃ k os, w' = grow (w.drewN k) os) at hcon
  have HC : Hid (Calls Tryz.prog 92 #[.int .i64 n] w (fun e w' => e = .returned (.string (str (Lib.itoa n))) ∧ ∃ k os, w' = grow (w.drewN k) os)) := hcon
  clear hcon
  go_enter Tryz.func53, Tryz.ntmps53
  go_wp2_with fail
  refine HC.out.mono ?_
  rintro e w' ⟨rfl, k, os, rfl⟩
  go_wp2
  go_ret
  exact ⟨rfl, Lib.below_grow _ w (Nat.le_refl _) k os⟩
def decD (u : Nat) : List UInt8 := if u = 0 then [] else Lib.decDigits u
theorem decD_step (u : Nat) (h : u ≠ 0) : decD u = decD (u / 10) ++ [UInt8.ofNat (48 + u % 10)] := by
  unfold decD
  rw [if_neg h]
  by_cases h1 : u < 10
  · rw [if_pos (by omega), Lib.decDigits_one h1, Nat.mod_eq_of_lt h1]; rfl
  · rw [if_neg (by omega), Lib.decDigits, dif_neg h1]
theorem itoa_decD (n : Int) (h : n ≠ 0) : Lib.itoa n = (if n < 0 then [45] else []) ++ decD n.natAbs := by
  unfold Lib.itoa decD
  by_cases hn : n < 0
  · rw [if_pos hn, if_pos hn, if_neg (by omega)]; rfl
  · rw [if_neg hn, if_neg hn, if_neg (by omega), show n.natAbs = n.toNat by omega]; rfl
theorem one_byte (W : World) (x : Int) (h0 : 0 ≤ x) (h1 : x ≤ 255) :
    (convert 53 9 (.slice (some ⟨W.heap.size, 0, none⟩) 1 1)).run Tryz.prog (W.alloc (.cells #[.int .u8 x] 5)) = .ok (.string (str [UInt8.ofNat x.toNat])) (W.alloc (.cells #[.int .u8 x] 5)) := by
  have h := run_convert_bytes_back (P := Tryz.prog) (W.alloc (.cells #[.int .u8 x] 5)) 53 9 5 ⟨W.heap.size, 0, none⟩ 1 [UInt8.ofNat x.toNat] Tryz.underlying53 Tryz.underlying5 Tryz.underlying9 (fun j hj => by
    have hj0 : j = 0 := by simpa using hj
    subst hj0
    have e : ((UInt8.ofNat x.toNat).toNat : Int) = x := by
      rw [UInt8.toNat_ofNat']
      omega
    have hc : (W.alloc (.cells #[.int .u8 x] 5)).cell? ⟨W.heap.size, 0, none⟩ = some (.int .u8 x) := by simp [World.cell?, World.alloc, -World.alloc_eq]
    rw [show (Addr.add ⟨W.heap.size, 0, none⟩ 0) = ⟨W.heap.size, 0, none⟩ from rfl, hc]
    show _ = some (Value.int .u8 ((UInt8.ofNat x.toNat).toNat : Int))
    rw [e])
  exact h
end Oc
end Go.Proofs.YtdcfhnbagldilaaGreatDoor
set_option linter.unusedVariables false
set_option linter.unusedSimpArgs false
set_option maxRecDepth 100000
namespace Go.Proofs.YtdcfhnbagldilaaGreatDoor
open Go.RowKit Go.Shelf
namespace Ms
open Oc Tg _root_.Go.Proofs.YtdcfhnbagldilaaGreatDoor.Fd _root_.Go.Proofs.YtdcfhnbagldilaaGreatDoor.Ck
theorem isFld_one (x : Int) (h0 : 0 ≤ x) (h1 : x < 256) : isFld [UInt8.ofNat x.toNat] = fieldI x := by
  have e : ((UInt8.ofNat x.toNat).toNat : Int) = x := by rw [UInt8.toNat_ofNat']; omega
  unfold isFld
  simp only [List.all_cons, List.all_nil, Bool.and_true]
  unfold fieldB
  rw [e]
set_option maxHeartbeats 4000000 in
theorem goesOn_any (a : Nat) (ha : a ≤ 4000000000) (x : Int) (h0 : 0 ≤ x) (h1 : x < 256) (w : World) :
    Calls Tryz.prog 66 #[.int .i64 (a : Int), .int .u8 x] w fun e w' => e = .returned (.bool (gonI a x)) ∧ Below w.heap.size w w' := by
  by_cases h13 : 13 ≤ a
  · have HG : Hid (gonI a x = (x == 13 || (decide (a < 269) && fieldI x))) := (by unfold gonI; rw [if_pos h13] : _ = _)
    have h13' : (13 : Int) ≤ (a : Int) := by omega
    have HIF : Hid (∀ W, Calls Tryz.prog 84 #[.string (str [UInt8.ofNat x.toNat])] W fun e w' => e = .returned (.bool (fieldI x)) ∧ Below (World.heap W).size W w') := fun W => by
      have h := IsField_any (str [UInt8.ofNat x.toNat]) (by rw [str_size]; simp; unfold maxLen; omega) W
      rw [str_list, isFld_one x h0 h1] at h
      exact h
    by_cases hx : x = 13
    · have hx' : (x == 13) = true := by simp [hx]
      have HQ : Hid (gonI a x = true) := (by rw [HG.out, hx']; rfl : _ = _)
      clear hx
      go_enter Tryz.func66, Tryz.ntmps66
      go_wp2
      go_ret
      exact ⟨by rw [HQ.out]; rfl, Below.refl _ _⟩
    · have hx' : (x == 13) = false := by simp [hx]
      by_cases hl : a < 269
      · have hl' : ((a : Int) < 269) := by omega
        have HQ : Hid (gonI a x = fieldI x) := (by rw [HG.out, hx', decide_eq_true hl]; simp : _ = _)
        have hob := one_byte w x h0 (by omega)
        have hob2 := fun W => one_byte W x h0 (by omega)
        obtain ⟨w2, hw2⟩ : ∃ w2, w2 = w.alloc (.cells #[.int .u8 x] 5) := ⟨_, rfl⟩
        have HB2 : Hid (Below w.heap.size w w2) := (by rw [hw2]; exact (Below.refl _ _).alloc (Nat.le_refl _) _ : Below _ _ _)
        clear hx hl
        go_enter Tryz.func66, Tryz.ntmps66
        go_wp2_with fail
        refine (HIF.out _).mono ?_
        rintro e w3 ⟨rfl, hb3⟩
        have HB3 : Hid (Below w.heap.size w w3) := (bel_trans ((Below.refl _ _).alloc (Nat.le_refl _) _) hb3 : Below _ _ _)
        clear hb3
        go_wp2
        go_ret
        exact ⟨by rw [HQ.out]; rfl, HB3.out⟩
      · have hl' : ¬ ((a : Int) < 269) := by omega
        have HQ : Hid (gonI a x = false) := (by rw [HG.out, hx', decide_eq_false hl]; rfl : _ = _)
        clear hx hl
        go_enter Tryz.func66, Tryz.ntmps66
        go_wp2
        go_ret
        exact ⟨by rw [HQ.out]; rfl, Below.refl _ _⟩
  · obtain ⟨G, hG⟩ : ∃ G, G = gonI a x := ⟨_, rfl⟩
    rw [← hG]
    have HG : Hid (G = gonI a x) := hG
    clear hG
    have hc : a = 0 ∨ a = 1 ∨ a = 2 ∨ a = 3 ∨ a = 4 ∨ a = 5 ∨ a = 6 ∨ a = 7 ∨ a = 8 ∨ a = 9 ∨ a = 10 ∨ a = 11 ∨ a = 12 := by omega
    rcases hc with rfl | rfl | rfl | rfl | rfl | rfl | rfl | rfl | rfl | rfl | rfl | rfl | rfl
    · go_enter Tryz.func66, Tryz.ntmps66
      have HQ : Hid (G = (x == 72)) := (by rw [HG.out]; rfl : _ = _)
      go_wp2
      go_ret
      exact ⟨by rw [HQ.out]; rfl, Below.refl _ _⟩
    · go_enter Tryz.func66, Tryz.ntmps66
      have HQ : Hid (G = (x == 84)) := (by rw [HG.out]; rfl : _ = _)
      go_wp2
      go_ret
      exact ⟨by rw [HQ.out]; rfl, Below.refl _ _⟩
    · go_enter Tryz.func66, Tryz.ntmps66
      have HQ : Hid (G = (x == 84)) := (by rw [HG.out]; rfl : _ = _)
      go_wp2
      go_ret
      exact ⟨by rw [HQ.out]; rfl, Below.refl _ _⟩
    · go_enter Tryz.func66, Tryz.ntmps66
      have HQ : Hid (G = (x == 80)) := (by rw [HG.out]; rfl : _ = _)
      go_wp2
      go_ret
      exact ⟨by rw [HQ.out]; rfl, Below.refl _ _⟩
    · go_enter Tryz.func66, Tryz.ntmps66
      have HQ : Hid (G = (x == 47)) := (by rw [HG.out]; rfl : _ = _)
      go_wp2
      go_ret
      exact ⟨by rw [HQ.out]; rfl, Below.refl _ _⟩
    · go_enter Tryz.func66, Tryz.ntmps66
      have HQ : Hid (G = (x == 49)) := (by rw [HG.out]; rfl : _ = _)
      go_wp2
      go_ret
      exact ⟨by rw [HQ.out]; rfl, Below.refl _ _⟩
    · go_enter Tryz.func66, Tryz.ntmps66
      have HQ : Hid (G = (x == 46)) := (by rw [HG.out]; rfl : _ = _)
      go_wp2
      go_ret
      exact ⟨by rw [HQ.out]; rfl, Below.refl _ _⟩
    · go_enter Tryz.func66, Tryz.ntmps66
      by_cases hx : x = 48
      · have hx' : (x == 48) = true := by simp [hx]
        have HQ : Hid (G = true) := (by rw [HG.out]; unfold gonI; simp [hx] : _ = _)
        clear hx
        go_wp2
        go_ret
        exact ⟨by rw [HQ.out]; rfl, Below.refl _ _⟩
      · have hx' : (x == 48) = false := by simp [hx]
        have HQ : Hid (G = (x == 49)) := (by rw [HG.out]; unfold gonI; simp [hx] : _ = _)
        clear hx
        go_wp2
        go_ret
        exact ⟨by rw [HQ.out]; rfl, Below.refl _ _⟩
    · go_enter Tryz.func66, Tryz.ntmps66
      have HQ : Hid (G = (x == 32)) := (by rw [HG.out]; rfl : _ = _)
      go_wp2
      go_ret
      exact ⟨by rw [HQ.out]; rfl, Below.refl _ _⟩
    · go_enter Tryz.func66, Tryz.ntmps66
      by_cases hx : 49 ≤ x
      · have HQ : Hid (G = decide (x ≤ 53)) := (by rw [HG.out]; unfold gonI; simp [hx] : _ = _)
        go_wp2
        go_ret
        exact ⟨by rw [HQ.out]; rfl, Below.refl _ _⟩
      · have HQ : Hid (G = false) := (by rw [HG.out]; unfold gonI; simp [hx] : _ = _)
        go_wp2
        go_ret
        exact ⟨by rw [HQ.out]; rfl, Below.refl _ _⟩
    · go_enter Tryz.func66, Tryz.ntmps66
      by_cases hx : 48 ≤ x
      · have HQ : Hid (G = decide (x ≤ 57)) := (by rw [HG.out]; unfold gonI; simp [hx] : _ = _)
        go_wp2
        go_ret
        exact ⟨by rw [HQ.out]; rfl, Below.refl _ _⟩
      · have HQ : Hid (G = false) := (by rw [HG.out]; unfold gonI; simp [hx] : _ = _)
        go_wp2
        go_ret
        exact ⟨by rw [HQ.out]; rfl, Below.refl _ _⟩
    · go_enter Tryz.func66, Tryz.ntmps66
      by_cases hx : 48 ≤ x
      · have HQ : Hid (G = decide (x ≤ 57)) := (by rw [HG.out]; unfold gonI; simp [hx] : _ = _)
        go_wp2
        go_ret
        exact ⟨by rw [HQ.out]; rfl, Below.refl _ _⟩
      · have HQ : Hid (G = false) := (by rw [HG.out]; unfold gonI; simp [hx] : _ = _)
        go_wp2
        go_ret
        exact ⟨by rw [HQ.out]; rfl, Below.refl _ _⟩
    · go_enter Tryz.func66, Tryz.ntmps66
      have HQ : Hid (G = (x == 32)) := (by rw [HG.out]; rfl : _ = _)
      go_wp2
      go_ret
      exact ⟨by rw [HQ.out]; rfl, Below.refl _ _⟩
end Ms
end Go.Proofs.YtdcfhnbagldilaaGreatDoor
set_option linter.unusedVariables false
set_option linter.unusedSimpArgs false
set_option maxRecDepth 100000
namespace Go.Proofs.YtdcfhnbagldilaaGreatDoor
open Go.RowKit Go.Shelf
namespace Ms
open Oc Tg _root_.Go.Proofs.YtdcfhnbagldilaaGreatDoor.Fd _root_.Go.Proofs.YtdcfhnbagldilaaGreatDoor.Ck
theorem own_take {w : World} {a : Option Addr} {c : Nat} {l : List UInt8} (h : Own 0 (.slice a l.length c) l w) (k : Nat) (hk : k ≤ l.length) : Own 0 (.slice a k c) (l.take k) w := by
  have hl : (l.take k).length = k := by simp; omega
  refine ⟨by rw [hl]; simp [Lib.byteCells]; omega, ?_⟩
  rcases h.2 with ⟨e, h0⟩ | ⟨g, cap, cur, e, hb, hg, hn, hm, hs, hx⟩
  · injection e with e1 e2 e3
    subst e1 e3
    have hk0 : k = 0 := by omega
    subst hk0
    exact .inl ⟨rfl, rfl⟩
  · injection e with e1 e2 e3
    subst e1 e3
    refine .inr ⟨g, c, cur, by rw [hl], hb, hg, by rw [hl]; omega, hm, hs, ?_⟩
    have := congrArg (List.take k) hx
    simp only [Lib.byteCells, List.take_take] at this ⊢
    rw [hl]
    simpa [Nat.min_eq_left hk, List.map_take] using this
set_option maxHeartbeats 1000000 in
theorem Equal_any (v1 v2 : Value) (l1 l2 : List UInt8) (w : World) (h1 : (convert 53 9 v1).run Tryz.prog w = .ok (.string (str l1)) w) (h2 : (convert 53 9 v2).run Tryz.prog w = .ok (.string (str l2)) w) :
    Calls Tryz.prog 98 #[v1, v2] w fun e w' => e = .returned (.bool (decide (l1 = l2))) ∧ w' = w := by
  have HQ : Hid ((str l1).toList = (str l2).toList ↔ l1 = l2) := (by rw [ByteArray.toList_eq, ByteArray.toList_eq, str_list, str_list] : _ ↔ _)
  generalize str l1 = A at *
  generalize str l2 = B at *
  generalize hd : decide (l1 = l2) = d at *
  have HD : Hid (decide (l1 = l2) = d) := hd
  clear hd
  by_cases he : A.toList = B.toList
  · have hq : (A.toList == B.toList) = true := by simp [he]
    have HE : Hid (d = true) := (by rw [← HD.out]; exact decide_eq_true (HQ.out.1 he) : _ = _)
    clear he
    go_enter Tryz.func98, Tryz.ntmps98
    go_wp2
    go_ret
    exact ⟨by rw [HE.out]; rfl, rfl⟩
  · have hq : (A.toList == B.toList) = false := by simp [he]
    have HE : Hid (d = false) := (by rw [← HD.out]; exact decide_eq_false (fun h => he (HQ.out.2 h)) : _ = _)
    clear he
    go_enter Tryz.func98, Tryz.ntmps98
    go_wp2
    go_ret
    exact ⟨by rw [HE.out]; rfl, rfl⟩
def backB (l : List UInt8) : Bool := decide (l.getLast? = some 13)
set_option maxHeartbeats 2000000 in
theorem HasSuffix_one (v : Value) (l : List UInt8) (b : Nat) (w : World) (hl : l.length ≤ 4000000000) (ho : Own 0 v l w) (hb : w.cell? ⟨b, 0, none⟩ = some (.int .u8 13)) :
    Calls Tryz.prog 63 #[v, .slice (some ⟨b, 0, none⟩) 1 1] w fun e w' => e = .returned (.bool (backB l)) ∧ w' = w := by
  obtain ⟨a, c, rfl, hac, hcm, ha⟩ := own_form ho
  rcases List.eq_nil_or_concat l with rfl | ⟨t, u, hlu⟩
  · go_enter Tryz.func63, Tryz.ntmps63
    go_wp2
    go_ret
    exact ⟨rfl, rfl⟩
  · rw [List.concat_eq_append] at hlu
    obtain ⟨g, rfl⟩ : ∃ g, a = some ⟨g, 0, none⟩ := by
      rcases ha with ⟨_, h0⟩ | h
      · rw [hlu] at hac; simp at hac; omega
      · exact h
    have hn : l.length = t.length + 1 := by rw [hlu]; simp
    have hcl : w.cell? ⟨g, t.length, none⟩ = some (.int .u8 (u.toNat : Int)) := by
      have := World.ownsRow.cells ho (g := g) rfl t.length (.int .u8 (u.toNat : Int)) (by rw [hlu]; simp [Lib.byteCells])
      have ea : ∀ k, Addr.add ⟨g, 0, none⟩ k = ⟨g, 0 + k, none⟩ := fun k => by unfold Addr.add; split <;> simp_all
      rw [ea, Nat.zero_add] at this
      exact this
    have k1 : (convert 53 9 (.slice (some ⟨g, t.length, none⟩) 1 (c - t.length))).run Tryz.prog w = .ok (.string (str [u])) w :=
      run_convert_bytes_back (P := Tryz.prog) w 53 9 5 ⟨g, t.length, none⟩ (c - t.length) [u] Tryz.underlying53 Tryz.underlying5 Tryz.underlying9 (fun j hj => by
        have hj0 : j = 0 := by simpa using hj
        subst hj0
        exact hcl)
    have k2 : (convert 53 9 (.slice (some ⟨b, 0, none⟩) 1 1)).run Tryz.prog w = .ok (.string (str [13])) w :=
      run_convert_bytes_back (P := Tryz.prog) w 53 9 5 ⟨b, 0, none⟩ 1 [13] Tryz.underlying53 Tryz.underlying5 Tryz.underlying9 (fun j hj => by
        have hj0 : j = 0 := by simpa using hj
        subst hj0
        exact hb)
    have HE : Hid (Calls Tryz.prog 98 #[.slice (some ⟨g, t.length, none⟩) 1 (c - t.length), .slice (some ⟨b, 0, none⟩) 1 1] w fun e w' => e = .returned (.bool (backB l)) ∧ w' = w) := by
      have h := Equal_any _ _ [u] [13] w k1 k2
      have e : decide ([u] = [13]) = backB l := by
        unfold backB
        rw [hlu]
        simp
      rw [e] at h
      exact h
    unfold maxLen at hcm
    generalize backB l = R at *
    clear k1 k2 hcl ho hlu
    rw [hn] at hac hl ⊢
    generalize t.length = n at *
    clear hn ha
    have hc1 : n < c := by omega
    go_enter Tryz.func63, Tryz.ntmps63
    go_wp2_with fail
    refine HE.out.mono ?_
    rintro e w' ⟨rfl, hw⟩
    rw [hw]
    go_wp2
    go_ret
    exact ⟨rfl, rfl⟩
def hStatus (s : HS) (l : List UInt8) : HS := { s with st := (numR 10 ((l.drop 9).take 3) 599).1, rs := l.drop 13, minor := ((l.getD 7 0 - 48).toNat : Int) }
set_option maxHeartbeats 2000000 in
theorem keepStatus_any {T : Nat} (hT : TOk T) {ex : List Value} {w : World} {D : Nat} {s : HS} {bs : List Nat} (H : HdS T ex w D s bs) (l : List UInt8) (h13 : 13 ≤ l.length) (hl : l.length ≤ 4000000000) :
    Calls Tryz.prog 99 #[.pointer (some ⟨D, 0, none⟩), .string (str l)] w fun e w' => e = .returned (.tuple #[]) ∧ HdS T ex w' D (hStatus s l) bs ∧ Goes bs w bs w' := by
  obtain ⟨vl, vf, H, rfl⟩ := H
  have HH : Hid (IsH T ex w D s vl vf) := H
  have hz : (str l).size = l.length := str_size l
  have hex1 : (str l).extract 9 12 = str ((l.drop 9).take 3) := by
    apply eq_list
    rw [str_list, Lib.extract_data, str_list]
  have hex2 : (str l).extract 13 (str l).size = str (l.drop 13) := by
    apply eq_list
    rw [str_list]
    exact (Lib.extract_to_end (str l) 13).trans (by rw [str_list])
  have h7 : 7 < (str l).size := by omega
  have hby : ((((str l)[7]'h7).toNat : Nat) : Int) = ((l.getD 7 0).toNat : Int) := by
    rw [byt_at (str l) 7 h7]
    unfold byt
    rw [str_list]
  have HDc : Hid (∀ W, Calls Tryz.prog 118 #[.string (str ((l.drop 9).take 3)), .int .i64 599] W fun e w' => e = .returned (.tuple #[.int .i64 (numR 10 ((l.drop 9).take 3) 599).1, .int .i64 (numR 10 ((l.drop 9).take 3) 599).2]) ∧ Below (World.heap W).size W w') := fun W => by
    have h := Decimal_any (str ((l.drop 9).take 3)) (by rw [str_size]; simp; unfold maxLen; omega) 599 (by omega) (by omega) W
    rw [str_list] at h
    exact h
  have HS' : Hid (hStatus s l = { s with st := (numR 10 ((l.drop 9).take 3) 599).1, rs := l.drop 13, minor := ((l.getD 7 0 - 48).toNat : Int) }) := rfl
  obtain ⟨u, hu⟩ : ∃ u, u = l.getD 7 0 := ⟨_, rfl⟩
  rw [← hu] at hby HS'
  have HSu : Hid (hStatus s l = _) := HS'.out
  have hult := u.toNat_lt
  have hu0 : (0 : Int) ≤ (u.toNat : Int) := by omega
  have hu1 : (u.toNat : Int) < 256 := by omega
  have HM : Hid (((u.toNat : Int) - 48) % 256 = ((u - 48).toNat : Int)) := by
    show ((u.toNat : Int) - 48) % 256 = ((u - 48).toNat : Int)
    rw [UInt8.toNat_sub]
    simp
    omega
  have hw8 : IntKind.u8.wrap ((u.toNat : Int) - 48) = ((u.toNat : Int) - 48) % 256 := by
    simp [IntKind.wrap, IntKind.signed, IntKind.bits]
  have hm0 : (0 : Int) ≤ ((u.toNat : Int) - 48) % 256 := by omega
  have hm1 : ((u.toNat : Int) - 48) % 256 < 256 := by omega
  have hs9 : (9 : Int) ≤ ((str l).size : Int) := by omega
  have hs12 : (12 : Int) ≤ ((str l).size : Int) := by omega
  have hs13 : (13 : Int) ≤ ((str l).size : Int) := by omega
  have hs7 : (7 : Int) < ((str l).size : Int) := by omega
  clear hu H hz
  generalize (numR 10 ((l.drop 9).take 3) 599).1 = ST at *
  generalize (numR 10 ((l.drop 9).take 3) 599).2 = SE at *
  generalize hR1 : str ((l.drop 9).take 3) = R1 at *
  clear hR1
  obtain ⟨R2, hR2⟩ : ∃ R2, R2 = str (l.drop 13) := ⟨_, rfl⟩
  rw [← hR2] at hex2
  have HR2 : Hid (R2 = str (l.drop 13)) := hR2
  clear hR2
  generalize str l = L at *
  go_enter Tryz.func99, Tryz.ntmps99
  go_wp2_with fail
  refine (HDc.out _).mono ?_
  rintro e w1 ⟨rfl, hb1⟩
  have HI1 : Hid (IsH T ex w1 D s vl vf) := HH.out.below hb1
  have HB1 : Hid (Below w.heap.size w w1) := hb1
  clear hb1
  have c9 := HI1.out.str.cell 9 rfl
  have c10 := HI1.out.str.cell 10 rfl
  have c13 := HI1.out.str.cell 13 rfl
  have f9 := HI1.out.str.free 9
  have f10 := HI1.out.str.free 10
  have f13 := HI1.out.str.free 13
  go_wp2
  go_end0
  have hA := ((HI1.out.str.set 9 (.int .i64 ST)).set 10 (.string R2)).set 13 (.int .i64 (((u.toNat : Int) - 48) % 256))
  have hb := setD (setD (setD (But.refl [D] w1) 9 (.int .i64 ST)) 10 (.string R2)) 13 (.int .i64 (((u.toNat : Int) - 48) % 256))
  rw [HSu.out]
  refine ⟨rfl, ⟨vl, vf, HI1.out.build (s' := { s with st := ST, rs := l.drop 13, minor := ((u - 48).toNat : Int) }) hT hb ?_ HI1.out.line rfl, rfl⟩, (Goes.below HB1.out).trans (goesH (ftHd hb _ _) (fun g h => .inl h) (fun g h => .inl h))⟩
  rw [HR2.out, HM.out] at hA ⊢
  exact hA
end Ms
end Go.Proofs.YtdcfhnbagldilaaGreatDoor
set_option linter.unusedVariables false
set_option linter.unusedSimpArgs false
namespace Go.Proofs.YtdcfhnbagldilaaGreatDoor
open Go.RowKit Go.Shelf
namespace Fd
open Oc Tg
theorem sz_le : ∀ (t : List Fl) (k : Nat), k < t.length → szF (nth t k) ≤ sumF t
  | [], k, h => by simp at h
  | p :: t, 0, _ => by
    simp only [sumF, List.map_cons, List.sum_cons]
    show szF p ≤ _
    omega
  | p :: t, k + 1, h => by
    have := sz_le t k (by simpa using h)
    simp only [sumF, List.map_cons, List.sum_cons]
    show szF (nth t k) ≤ _
    simp only [sumF] at this
    omega
theorem printG_next (t : List Fl) (k : Nat) (h : k < t.length) (acc : List UInt8) (hz : chkZ (nth t k) = 0) : printG (t.drop k) acc = printG (t.drop (k + 1)) (acc ++ lineP (nth t k) ++ [13, 10]) := by
  rw [drop_nth t k h]
  show (if _ then _ else _) = _
  rw [if_pos hz]
theorem printG_bad (t : List Fl) (k : Nat) (h : k < t.length) (acc : List UInt8) (hz : chkZ (nth t k) ≠ 0) : printG (t.drop k) acc = ([], chkZ (nth t k)) := by
  rw [drop_nth t k h]
  show (if _ then _ else _) = _
  rw [if_neg hz]
set_option maxRecDepth 100000 in
set_option maxHeartbeats 2000000 in
theorem Print_any (v : Value) (t : List Fl) (hs : sumF t ≤ 4000000) (w : World) (hr : RdF v t w) (tab : Tab w) :
    Calls Tryz.prog 49 #[v] w fun e w' => e = .returned (.tuple #[.string (str (printT t).1), .int .i64 (printT t).2]) ∧ Below w.heap.size w w' := by
  have hlen := len_sumF t
  have HR : Hid (RdF v t w) := hr
  have HT : Hid (Tab w) := tab
  obtain ⟨a, c, rfl, _⟩ := hr
  clear tab
  by_cases h100 : 100 < t.length
  · have HP : Hid (printT t = ([], 65)) := by show _ = _; unfold printT; rw [if_pos h100]
    go_enter Tryz.func49, Tryz.ntmps49
    go_wp2
    go_ret2
    exact ⟨by rw [HP.out]; rfl, Below.refl _ _⟩
  · have HP : Hid (printT t = printG t []) := by show _ = _; unfold printT; rw [if_neg h100]
    have HBD : Hid (Bd (w.heap.size + 1) w.heap.size (Lib.byteCells []) (w.alloc (.cells #[.pointer none, .slice none 0 0] 105))) := Bd.new w (w.heap.size + 1)
    go_enter Tryz.func49, Tryz.ntmps49
    go_wp2
    go_loopw [14] (fun i wr => ∃ (k : Nat) (acc : List UInt8), k ≤ t.length ∧ i = .int .i64 k ∧ Hid (printT t = printG (t.drop k) acc) ∧ Hid (acc.length ≤ k * 4000024) ∧ Hid (Bd (w.heap.size + 1) w.heap.size (Lib.byteCells acc) wr) ∧ Hid (Below w.heap.size w wr) ∧ Hid (w.heap.size + 1 ≤ wr.heap.size)) (fun i _ => t.length - (intOf i).toNat)
    case atStart => exact ⟨0, [], Nat.zero_le _, rfl, HP, (by simp : _ ≤ _), HBD, (Below.refl _ w).alloc (Nat.le_refl _) _, (by simp : _ ≤ _)⟩
    case round =>
      obtain ⟨k, acc, hk, rfl, hst, hal, hB, hW, hS⟩ := hrel
      by_cases hlt : k < t.length
      · obtain ⟨a', c', e', hcs⟩ := HR.out.below hW.out
        injection e' with e1 _ e2
        subst e1 e2
        rcases hcs with h | ⟨g, o, rfl, hlc, hcell⟩
        · rw [h] at hlt; simp at hlt
        obtain ⟨p0, p1⟩ := hcell k hlt
        have hz := sz_le t k hlt
        have hll := lineP_len (nth t k)
        have NX : chkZ (nth t k) = 0 → Hid (printT t = printG (t.drop (k + 1)) (acc ++ lineP (nth t k) ++ [13, 10])) := fun h => hst.out.trans (printG_next t k hlt acc h)
        have BD : chkZ (nth t k) ≠ 0 → Hid (printT t = ([], chkZ (nth t k))) := fun h => hst.out.trans (printG_bad t k hlt acc h)
        have hp1 : (nth t k).1.length ≤ 4000000 := by unfold szF at hz; omega
        have hp2 : (nth t k).2.length ≤ 4000000 := by unfold szF at hz; omega
        have HPL : Hid (∀ w, Tab w → Calls Tryz.prog 88 #[.agg #[.string (str (nth t k).1), .string (str (nth t k).2)]] w fun e w' => e = .returned (.tuple #[.string (str (printL (nth t k)).1), .int .i64 (printL (nth t k)).2]) ∧ Below w.heap.size w w') := fun w tb => PrintLine_any (nth t k) (by omega) (by omega) w tb
        clear hcell hst
        generalize nth t k = p at *
        have hx : (lineP p).length ≤ 4000000 := by omega
        have hxs : (str (lineP p)).size ≤ 4000000 := by rw [str_size]; exact hx
        generalize str p.1 = N at *
        generalize str p.2 = V at *
        have hb1 : Below wr.heap.size wr (wr.alloc (.cells #[.string N, .string V] 47)) := (Below.refl _ wr).alloc (Nat.le_refl _) _
        have HBW : Hid (Below w.heap.size w (wr.alloc (.cells #[.string N, .string V] 47))) := bel_trans hW.out hb1
        have HB1 : Hid (Bd (w.heap.size + 1) w.heap.size (Lib.byteCells acc) (wr.alloc (.cells #[.string N, .string V] 47))) := hB.out.below hb1
        have HS1 : Hid (w.heap.size + 1 ≤ (wr.alloc (.cells #[.string N, .string V] 47)).heap.size) := Nat.le_trans hS.out hb1.size
        clear hb1 hz hll hp1 hp2
        by_cases hz0 : chkZ p = 0
        · have nx := NX hz0
          rw [show printL p = (lineP p, 0) by unfold printL; rw [if_pos hz0]] at HPL
          dsimp only at HPL
          clear NX BD hz0
          generalize hLP : lineP p = LP at *
          clear hLP
          go_wp2_with fail
          refine (HPL.out _ (HT.out.below HBW.out (Nat.le_refl _))).mono ?_
          rintro e w2 ⟨rfl, hb2⟩
          have HB2 : Hid (Bd (w.heap.size + 1) w.heap.size (Lib.byteCells acc) w2) := HB1.out.below hb2
          have HW2 : Hid (Below w.heap.size w w2) := bel_trans HBW.out hb2
          have HS2 : Hid (w.heap.size + 1 ≤ w2.heap.size) := Nat.le_trans HS1.out hb2.size
          clear hb2
          go_wp2_with fail
          refine (WriteString_bd _ _ _ _ _ HB2.out (by rw [cells_len]; have := hal.out; omega) HS2.out).mono ?_
          rintro e w3 ⟨rfl, hB3, hF3⟩
          have HB3 : Hid (Bd (w.heap.size + 1) w.heap.size (Lib.byteCells (acc ++ LP)) w3) := by
            show Bd _ _ _ _
            rw [cells_app, ← cells_str LP]
            exact hB3
          have HF3 : Hid (_) := hF3
          have HS3 : Hid (w.heap.size + 1 ≤ w3.heap.size) := Nat.le_trans HS2.out hF3.size
          clear hB3 hF3
          go_wp2_with fail
          refine (WriteString_bd _ _ _ _ _ HB3.out (by rw [cells_len, List.length_append]; have := hal.out; show _ + 2 ≤ _; omega) HS3.out).mono ?_
          rintro e w4 ⟨rfl, hB4, hF4⟩
          have HB4 : Hid (Bd (w.heap.size + 1) w.heap.size (Lib.byteCells (acc ++ LP ++ [13, 10])) w4) := by
            show Bd _ _ _ _
            rw [cells_app (acc ++ LP), ← cells_str [13, 10]]
            exact hB4
          have hF := HF3.out.trans hF4
          have HW4 : Hid (Below w.heap.size w w4) := HW2.out.trans (hF.below (by omega) (Nat.le_refl _))
          have HS4 : Hid (w.heap.size + 1 ≤ w4.heap.size) := Nat.le_trans HS2.out hF.size
          have HA4 : Hid ((acc ++ LP ++ [13, 10]).length ≤ (k + 1) * 4000024) := by show _ ≤ _; rw [List.length_append, List.length_append]; have := hal.out; simp; omega
          clear hB4 hF4 hF
          go_wp2
          go_roundw
          case rel => exact ⟨k + 1, acc ++ LP ++ [13, 10], by omega, by go_num, nx, HA4, HB4, HW4, HS4⟩
          case measure => simp [intOf]; omega
        · have bd := BD hz0
          rw [show printL p = ([], chkZ p) by unfold printL; rw [if_neg hz0]] at HPL
          dsimp only at HPL
          have hzq : (chkZ p != 0) = true := by simp [hz0]
          clear NX BD hz0
          generalize chkZ p = z at *
          go_wp2_with fail
          refine (HPL.out _ (HT.out.below HBW.out (Nat.le_refl _))).mono ?_
          rintro e w2 ⟨rfl, hb2⟩
          have HW2 : Hid (Below w.heap.size w w2) := bel_trans HBW.out hb2
          clear hb2
          go_wp2
          go_ret2
          exact ⟨by rw [bd.out]; rfl, HW2.out⟩
      · have HE : Hid (printT t = (acc, 0)) := by
          show _ = _
          rw [hst.out, List.drop_eq_nil_of_le (by omega)]
          rfl
        go_wp2_with fail
        refine (String_bd _ _ _ _ hB.out hS.out).mono ?_
        rintro e w2 ⟨rfl, hb2, _⟩
        have HW2 : Hid (Below w.heap.size w w2) := hW.out.trans (hb2.mono (by omega))
        clear hb2
        go_wp2
        go_ret2
        exact ⟨by rw [HE.out]; rfl, HW2.out⟩
end Fd
end Go.Proofs.YtdcfhnbagldilaaGreatDoor
