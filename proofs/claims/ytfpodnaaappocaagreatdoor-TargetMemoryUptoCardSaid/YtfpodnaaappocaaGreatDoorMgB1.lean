/- Several texts as one. -/
import Derived.Test.YtfpodnaaappocaaGreatDoorMgX
import Derived.Test.YtfpodnaaappocaaGreatDoorMgY
import Derived.Test.YtfpodnaaappocaaGreatDoorMgU
import Derived.Test.YtfpodnaaappocaaGreatDoorMgB
import Derived.Test.YtfpodnaaappocaaGreatDoorMgA1
/-
  The document's spaced, Pairs, Query.
-/
set_option linter.unusedVariables false
set_option linter.unusedSimpArgs false
namespace Go.Proofs.YtfpodnaaappocaaGreatDoor
open Go.RowKit Go.Shelf
namespace Tg
open Oc

def spI (x : Int) : Int := if x = 43 then 32 else x
theorem sp_getD (l : List UInt8) (j : Nat) (hj : j < l.length) : (((l.map sp).getD j 0).toNat : Int) = spI ((l.getD j 0).toNat : Int) := by
  rw [List.getD_eq_getElem?_getD, List.getElem?_map, List.getElem?_eq_getElem hj, List.getD_eq_getElem?_getD, List.getElem?_eq_getElem hj]
  show ((sp l[j]).toNat : Int) = spI (l[j].toNat : Int)
  unfold sp spI
  by_cases h : l[j] = 43
  · rw [if_pos h, if_pos (by rw [h]; rfl)]; rfl
  · rw [if_neg h, if_neg (fun e => h (UInt8.toNat_inj.1 (by show _ = 43; omega)))]

set_option maxRecDepth 100000 in
set_option maxHeartbeats 1000000 in
theorem rspaced_any (s : ByteArray) (hs : s.size ≤ 4000000000) (w : World) :
    Calls Tryz.prog 31 #[.string s] w fun e w' => e = .returned (.string (str (spd s.data.toList))) ∧ Below w.heap.size w w' := by
  have hcv := fun w => Lib.run_convert_string_bytes (P := Tryz.prog) w 9 61 5 s Tryz.underlying9 Tryz.underlying61 Tryz.underlying5
  have hb := below_bytes w 5 s
  have hr := bytes_row w 5 s
  have HD : Hid (∀ w, _) := fun w => rDecode_any (str (s.data.toList.map sp)) (by rw [str_size, List.length_map, size_list]; omega) w
  rw [str_list] at HD
  unfold spd
  generalize decR (s.data.toList.map sp) = D at *
  obtain ⟨D1, D2, D3⟩ := D
  dsimp only at HD ⊢
  go_enter Tryz.func31, Tryz.ntmps31
  go_wp2
  go_loopw [4] (fun i wr => ∃ k : Nat, k ≤ s.size ∧ i = .int .i64 k ∧ Hid (Row wr w.heap.size s.size (fun j => if j < k then spI (byt s j) else byt s j)) ∧ Hid (Below w.heap.size w wr)) (fun i _ => s.size - (intOf i).toNat)
  case atStart => exact ⟨0, Nat.zero_le _, rfl, (by simpa using hr : Row _ _ _ _), hb⟩
  case round =>
    obtain ⟨k, hk, rfl, hrow, hbel⟩ := hrel
    clear hr hb hcv
    by_cases hlt : k < s.size
    · have hck : wr.cell? ⟨w.heap.size, k, none⟩ = some (.int .u8 (byt s k)) := by
        have := hrow.out.cell k hlt
        rwa [if_neg (by omega)] at this
      have hfk := hrow.out.free k hlt
      obtain ⟨b0, b1⟩ := byt_bd s k
      have HN : Hid (∀ j, j < s.size → (if j < k + 1 then spI (byt s j) else byt s j) = if j = k then spI (byt s k) else if j < k then spI (byt s j) else byt s j) := by
        intro j hj
        by_cases hjk : j = k
        · subst hjk; rw [if_pos (by omega), if_pos rfl]
        · rw [if_neg hjk]
          by_cases h2 : j < k
          · rw [if_pos (by omega), if_pos h2]
          · rw [if_neg (by omega), if_neg h2]
      by_cases hup : byt s k = 43
      · have E1 : Hid (spI (byt s k) = 32) := (by unfold spI; rw [if_pos hup] : spI (byt s k) = 32)
        have hq : (byt s k == 43) = true := by simp [hup]
        clear hup
        go_wp2
        go_roundw
        case rel => exact ⟨k + 1, by omega, by go_num, hrow.out.set k hlt _ _ (by rw [← E1.out]; exact HN.out), hbel.out.setCell (Nat.le_refl _) _⟩
        case measure => simp [intOf]; omega
      · have E1 : Hid (spI (byt s k) = byt s k) := (by unfold spI; rw [if_neg hup] : spI (byt s k) = byt s k)
        have hq : (byt s k == 43) = false := by simp [hup]
        have hsame : Hid (Row wr w.heap.size s.size (fun j => if j < k + 1 then spI (byt s j) else byt s j)) := by
          refine ⟨fun j hj => ?_, hrow.out.free⟩
          rw [hrow.out.cell j hj, HN.out j hj]
          by_cases hjk : j = k
          · subst hjk; rw [if_neg (by omega), if_pos rfl, E1.out]
          · rw [if_neg hjk]
        clear hup
        go_wp2
        go_roundw
        case rel => exact ⟨k + 1, by omega, by go_num, hsame.out, hbel.out⟩
        case measure => simp [intOf]; omega
    · have hbk := back wr w.heap.size s.size (grownCap w s.size 0 5) _ (s.data.toList.map sp) hrow.out (by simp) (fun j hj => by rw [if_pos (by omega), sp_getD _ _ (by rw [size_list]; exact hj)]; rfl)
      generalize str (s.data.toList.map sp) = R at *
      go_wp2_with fail
      refine (HD.out _).mono ?_
      rintro e w2 ⟨rfl, hb2⟩
      go_wp2
      go_ret
      exact ⟨rfl, hbel.out.trans (hb2.mono hbel.out.size)⟩

end Tg
end Go.Proofs.YtfpodnaaappocaaGreatDoor

/-
  The document's Pairs, Query.
-/
set_option linter.unusedVariables false
set_option linter.unusedSimpArgs false
namespace Go.Proofs.YtfpodnaaappocaaGreatDoor
open Go.RowKit Go.Shelf
namespace Tg
open Oc

theorem split_mem_len (b : UInt8) : ∀ (n : Nat) (l : List UInt8), l.length ≤ n → ∀ z ∈ splitB b l, z.length ≤ l.length := by
  intro n
  induction n with
  | zero =>
    intro l hl z hz
    obtain rfl : l = [] := List.length_eq_zero_iff.1 (by omega)
    have : z = [] := by simpa [splitB] using hz
    rw [this]
    exact Nat.le_refl _
  | succ n ih =>
    intro l hl z hz
    rw [split_cut] at hz
    rcases List.mem_cons.1 hz with rfl | hz
    · exact cutA_len b l
    · cases h : has b l with
      | false => rw [h] at hz; simp at hz
      | true =>
        rw [h, if_pos rfl] at hz
        have e := congrArg List.length (cut_app b l h)
        rw [List.length_append, List.length_cons] at e
        have := ih (cutB b l) (by omega) z hz
        omega
theorem qs_take (t : List (List UInt8)) (k : Nat) (hk : k < t.length) : qs (t.take (k + 1)) = if t.getD k [] = [] then qs (t.take k) else qs (t.take k) ++ [pairR (t.getD k [])] := by
  have e : t.take (k + 1) = t.take k ++ [t.getD k []] := by
    rw [List.take_add_one, List.getElem?_eq_getElem hk, List.getD_eq_getElem?_getD, List.getElem?_eq_getElem hk]
    rfl
  rw [e]
  split
  · next h => rw [qs_none _ _ h]
  · next h => rw [qs_one _ _ h]

/-- A parameter appended to a slice of the call's own. -/
theorem wp_appQ2 {ops : Array Oper} {rest : List Oper} {o : Oper} {a : Act} {Q : Exit → Act → World → Prop} (T S : Nat) (hT : T ≠ 9) (hinfo : (Tryz.prog.info? T).map (fun i => (i.zero, i.size, i.bytes)) = some (some (.agg #[.string ⟨#[]⟩, .string ⟨#[]⟩, .bool false]), 3, 40))
    (hund : Tryz.prog.underlying S = some (.slice T)) (hgd : o.guard = none) (s x : Operand)
    (ho : o.op = .call { callee := .builtin .append, args := #[s, x], argTypes := #[S, S] }) (B : Nat) (v : Value) (t : List Prm) (W : World) (p : Prm) (n1 n2 : ByteArray) (h1 : n1 = str p.1) (h2 : n2 = str p.2.1) (b : Bool) (h3 : b = p.2.2)
    (hs : a.eval s = v) (hown : OwnQ T B v t W) (g : Nat) (hx : a.eval x = .slice (some ⟨g, 0, none⟩) 1 1) (hg : g = W.heap.size) (hlen : t.length + 1 ≤ 2147483648) (hB : B ≤ W.heap.size)
    (h : ∀ v' w', OwnQ T B v' (t ++ [p]) w' → Below B W w' → (∀ B2 lv t2, OwnS B2 lv t2 W → OwnS B2 lv t2 w') → wpList Tryz.prog ops Q rest (a.put o.dst v') w') : wpList Tryz.prog ops Q (o :: rest) a (W.alloc (.cells #[.string n1, .string n2, .bool b] T)) := by
  subst h1 h2 h3 hg
  obtain ⟨i0, hi, hz0, hz1, hz2⟩ := info_parts hinfo
  refine wpList_append_own _ hgd s x S ho B T i0 (.agg #[.string ⟨#[]⟩, .string ⟨#[]⟩, .bool false]) 3 40 hund hi hz0 hz1 hz2 rfl (by decide) v t.length _ hs (World.ownsRow.alloc hown _) ⟨W.heap.size, 0, none⟩ 1 1 (encQ1 p) hx rfl ?_ ?_ ?_ ?_ ?_ ?_
  · intro j u hj
    unfold encQ1 at hj
    match j, hj with
    | 0, hj => simp at hj; subst hj; simp [Addr.add]
    | 1, hj => simp at hj; subst hj; simp [Addr.add]
    | 2, hj => simp at hj; subst hj; simp [Addr.add]
  · intro u hu
    unfold encQ1 at hu
    simp at hu
    rcases hu with rfl | rfl | rfl <;> rfl
  · unfold maxLen; omega
  · omega
  · simp; omega
  · intro v' w' h1 h2 _
    refine h v' w' ?_ (((Below.refl B W).alloc hB _).grown h2 (by simp; omega) (fun k hk => (World.ownsRow.lt hown k hk).1)) ?_
    · unfold OwnQ
      rw [encQ_snoc, List.length_append]
      exact h1
    · intro B2 lv t2 hu
      have h0 : lv.ownBlock = none ∨ lv.ownBlock ≠ v.ownBlock := by
        rcases hu.2 with ⟨rfl, _⟩ | ⟨g, cap, cur, rfl, _, hg, _⟩
        · exact .inl rfl
        · refine .inr fun e' => ?_
          rcases hown.2 with ⟨rfl, _⟩ | ⟨g', cap', cur', rfl, _, hg', _⟩
          · cases e'
          · obtain rfl : g = g' := by simpa [Value.ownBlock] using e'
            rw [hg] at hg'
            simp at hg'
            exact hT hg'.2.symm
      exact World.ownsRow.kept (World.ownsRow.alloc hu _) h2 h0

set_option maxRecDepth 100000 in
set_option maxHeartbeats 400000 in
theorem rPairs_any (s : ByteArray) (hs : s.size ≤ 4194304) (w : World) :
    Calls Tryz.prog 16 #[.string s] w fun e w' => ∃ v, e = .returned v ∧ OwnQ 60 w.heap.size v (qs (splitB 38 s.data.toList)) w' ∧ Below w.heap.size w w' := by
  have HSp : Hid (∀ w, _) := fun w => rsplit_any s hs 38 w
  have HE : Hid (_) := ownQ_empty (B := w.heap.size) 60 w (Nat.le_refl _)
  have hle : Below w.heap.size w (w.alloc (.cells #[] 60)) := (Below.refl _ w).alloc (Nat.le_refl _) _
  have HL := split_len 38 s.data.toList
  have HM : Hid (∀ z ∈ splitB 38 s.data.toList, z.length ≤ s.size) := by
    intro z hz
    have := split_mem_len 38 _ s.data.toList (Nat.le_refl _) z hz
    rw [size_list] at this
    exact this
  rw [size_list] at HL
  generalize splitB 38 s.data.toList = t at *
  go_enter Tryz.func16, Tryz.ntmps16
  go_wp2_with fail
  refine (HSp.out _).mono ?_
  rintro e w1 ⟨lv, rfl, hl1, hb1⟩
  have HO1 : Hid (OwnQ 60 w.heap.size _ [] w1) := OwnQ.below HE.out hb1
  have HB1 : Hid (Below w.heap.size w w1) := hle.trans (hb1.mono (by simp))
  have hR1 : Hid (OwnS w.heap.size lv t w1) := hl1.lower (by simp)
  obtain ⟨la, lc, rfl⟩ := hl1.form
  have hsz1 : w.heap.size < w1.heap.size := by have := hb1.size; simp at this; omega
  clear hl1 hb1 HE hle
  go_wp2
  go_loopw [3, 5] (fun ov i wr => ∃ k : Nat, k ≤ t.length ∧ i = .int .i64 k ∧ Hid (OwnQ 60 w.heap.size ov (qs (t.take k)) wr) ∧ Hid (OwnS w.heap.size (.slice la t.length lc) t wr) ∧ Hid (Below w.heap.size w wr)) (fun _ i _ => t.length - (intOf i).toNat)
  case atStart => exact ⟨0, Nat.zero_le _, rfl, HO1.out, hR1.out, HB1.out⟩
  case round =>
    obtain ⟨k, hk, rfl, hown, hrd, hbl⟩ := hrel
    have hsz := hbl.out.size
    by_cases hlt : k < t.length
    · obtain ⟨a0, c0, e0, hcs⟩ := OwnS.rd hrd.out
      injection e0 with e1 _ e2
      subst e1 e2
      rcases hcs with h | ⟨g, o, rfl, hlc, hcell⟩
      · rw [h] at hlt; simp at hlt
      have hk0 := hcell k hlt
      clear hcell
      have hzl : (t.getD k []).length ≤ s.size := HM.out _ (by rw [List.getD_eq_getElem?_getD, List.getElem?_eq_getElem hlt]; exact List.getElem_mem hlt)
      have hqt := qs_take t k hlt
      have hql := qs_len (t.take k)
      rw [List.length_take] at hql
      generalize t.getD k [] = z at *
      by_cases hz : z = []
      · subst hz
        rw [if_pos rfl] at hqt
        have HQ : Hid (_) := hqt
        have hk1 : wr.cell? ⟨g, o + k, none⟩ = some (.string ⟨#[]⟩) := hk0
        clear hk0 hqt
        go_wp2
        go_roundw
        case rel => exact ⟨k + 1, by omega, by go_num, (by rw [HQ.out]; exact hown.out : OwnQ _ _ _ _ _), hrd.out, hbl.out⟩
        case measure => simp [intOf]; omega
      · rw [if_neg hz] at hqt
        have hXn : (str z).toList.isEmpty = false := by
          rw [ByteArray.toList_eq, str_list]
          cases h : z with
          | nil => exact absurd h hz
          | cons => rfl
        have hla := cutA_len 61 z
        have hlb := cutB_len 61 z
        have HC : Hid (∀ w, _) := fun w => rcut_any (str z) (by rw [str_size]; omega) 61 w
        have HA : Hid (∀ w, _) := fun w => rspaced_any (str (cutA 61 z)) (by rw [str_size]; omega) w
        have HB : Hid (∀ w, _) := fun w => rspaced_any (str (cutB 61 z)) (by rw [str_size]; omega) w
        rw [str_list] at HC HA HB
        have HQ : Hid (qs (t.take (k + 1)) = qs (t.take k) ++ [(spd (cutA 61 z), spd (cutB 61 z), has 61 z)]) := hqt
        generalize str z = X at *
        generalize str (cutA 61 z) = a at *
        generalize str (cutB 61 z) = b at *
        generalize has 61 z = h at *
        generalize spd (cutA 61 z) = y1 at *
        generalize spd (cutB 61 z) = y2 at *
        clear hqt hz hla hlb
        go_wp2_with fail
        refine (HC.out _).mono ?_
        rintro e w2 ⟨rfl, k2⟩
        have hs2 := k2.size
        go_wp2_with fail
        refine (HA.out _).mono ?_
        rintro e w3 ⟨rfl, k3⟩
        have hs3 := k3.size
        go_wp2_with fail
        refine (HB.out _).mono ?_
        rintro e w4 ⟨rfl, k4⟩
        have hs4 := k4.size
        have k24 := k2.trans ((k3.mono hs2).trans (k4.mono (Nat.le_trans hs2 hs3)))
        have ho4 : OwnQ 60 w.heap.size _ (qs (t.take k)) w4 := OwnQ.below hown.out k24
        have hl4 : OwnS w.heap.size (.slice (some ⟨g, o, none⟩) t.length lc) t w4 := OwnS.below hrd.out k24
        have K24 : Hid (Below w.heap.size wr w4) := k24.mono hsz
        have HO4 : Hid (_) := ho4
        have HL4 : Hid (_) := hl4
        have hs5 : w.heap.size ≤ w4.heap.size := by omega
        clear ho4 hl4 k24 k2 k3 k4
        go_wp2_with (at_builtin; go_must (refine wp_appQ2 60 25 (by decide) infoQ2 Tryz.underlying25 rfl (.tmp 32) (.tmp 39) rfl w.heap.size _ (qs (t.take k)) _ (y1, y2, h) _ _ rfl rfl _ rfl rfl HO4.out _ rfl rfl (by omega) hs5 ?_); intro v5 w5 o5 b5 l5)
        have O5 : Hid (OwnQ 60 w.heap.size v5 (qs (t.take (k + 1))) w5) := (by rw [HQ.out]; exact o5 : OwnQ _ _ _ _ _)
        have L5 : Hid (OwnS w.heap.size (.slice (some ⟨g, o, none⟩) t.length lc) t w5) := l5 _ _ _ HL4.out
        have B5 : Hid (Below w.heap.size w w5) := hbl.out.trans (K24.out.trans b5)
        clear o5 l5 b5
        go_roundw
        case rel => exact ⟨k + 1, by omega, by go_num, O5, L5, B5⟩
        case measure => simp [intOf]; omega
    · obtain rfl : k = t.length := by omega
      have ho := hown.out
      rw [List.take_length] at ho
      have HO : Hid (_) := ho
      clear ho
      go_wp2
      go_ret
      exact ⟨_, rfl, HO.out, hbl.out⟩

set_option maxRecDepth 100000 in
set_option maxHeartbeats 1000000 in
theorem rQuery_any (s : ByteArray) (hs : s.size ≤ 4194304) (w : World) :
    Calls Tryz.prog 5 #[.string s] w fun e w' => ∃ v, e = .returned (.tuple #[v, .int .i64 ((queryR s.data.toList).2.1 : Int), .int .i64 (queryR s.data.toList).2.2]) ∧ OwnQ 60 w.heap.size v (queryR s.data.toList).1 w' ∧ Below w.heap.size w w' := by
  have HI : Hid (∀ w, _) := fun w => scan_any s (by omega) ⟨#[47, 63]⟩ (by decide) 54 queryOk query_more query37 w
  have HP : Hid (∀ w, _) := fun w => rPairs_any s hs w
  by_cases hp : (chk queryOk 54 s.data.toList).2 = 0
  · have hR : queryR s.data.toList = (qs (splitB 38 s.data.toList), 0, 0) := by unfold queryR; rw [if_pos hp]
    rw [hR]
    have hp1 := chk_zero queryOk 54 _ (by decide) hp
    rw [hp, hp1] at HI
    clear hR hp hp1
    dsimp only
    generalize qs (splitB 38 s.data.toList) = q at *
    go_enter Tryz.func5, Tryz.ntmps5
    go_wp2_with fail
    refine (HI.out _).mono ?_
    rintro e w1 ⟨rfl, rfl⟩
    go_wp2_with fail
    refine (HP.out _).mono ?_
    rintro e w2 ⟨v, rfl, h1, h2⟩
    go_wp2
    exact bodyPost_ret (v := .tuple #[v, .int .i64 0, .int .i64 0]) (by simp [results, Tryz.results5, go_sem]) rfl ⟨_, rfl, h1, h2⟩
  · have hR : queryR s.data.toList = ([], (chk queryOk 54 s.data.toList).1, (chk queryOk 54 s.data.toList).2) := by unfold queryR; rw [if_neg hp]
    rw [hR]
    dsimp only
    generalize chk queryOk 54 s.data.toList = c at *
    obtain ⟨c1, c2⟩ := c
    dsimp only at *
    have hne : (c2 != 0) = true := by simpa using hp
    clear hR
    have HE : Hid (_) := ownQ_empty (B := w.heap.size) 60 w (Nat.le_refl _)
    have HB : Hid (Below w.heap.size w (w.alloc (.cells #[] 60))) := (Below.refl _ w).alloc (Nat.le_refl _) _
    go_enter Tryz.func5, Tryz.ntmps5
    go_wp2_with fail
    refine (HI.out _).mono ?_
    rintro e w1 ⟨rfl, rfl⟩
    go_wp2
    exact bodyPost_ret (v := .tuple #[.slice (some ⟨w1.heap.size, 0, none⟩) 0 0, .int .i64 (c1 : Int), .int .i64 c2]) (by simp [results, Tryz.results5, go_sem]) rfl ⟨_, rfl, HE.out, HB.out⟩

end Tg
end Go.Proofs.YtfpodnaaappocaaGreatDoor
