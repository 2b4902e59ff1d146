/- The walk of the law HeaderOld. -/
import Derived.Test.YtlloaalaldomkaaDoorHdO
namespace Go.Proofs.YtlloaalaldomkaaDoor.headerOld
open Go.ChangeShapes Go.WideShapes Go.ChangeAt Go.RowKit

theorem string_take (l : List UInt8) (n : Int) (m : Nat) (hn : n = m) (h : m ≤ l.length) (W : World) : (Instr.slice 9 (.string ⟨l.toArray⟩) none (some (.int .i64 n)) none).run Tryd.prog W = .ok (.string ⟨(l.take m).toArray⟩) W := by
  subst hn
  exact slice_to l m h W

set_option maxRecDepth 100000 in
set_option maxHeartbeats 2000000 in
theorem walk (h : Hd) (junk : List UInt8) (w : World) (hk : 0 ≤ h.kind ∧ h.kind < 256) (hok : h.okN) (hl : h.name.length ≤ 9223372036854775807 ∧ h.link.length ≤ 9223372036854775807 ∧ h.uname.length ≤ 9223372036854775807 ∧ h.gname.length ≤ 9223372036854775807) (hjl : junk.length ≤ 9223372036854775807) (hm : MaxSet w) :
    Calls Tryd.prog 5 #[h.val, .string ⟨junk.toArray⟩] w fun e w' => Below w.heap.size w w' ∧ e = .returned (.bool true) := by
  have Ho := Lib.hid (Holds.new w 23 h.cells)
  have c0 : (w.alloc (.cells h.cells.toArray 23)).cell? ⟨w.heap.size, 0, none⟩ = some (.string ⟨h.name.toArray⟩) := Ho.out.at rfl
  have f0 : (w.alloc (.cells h.cells.toArray 23)).frozen? ⟨w.heap.size, 0, none⟩ = false := Ho.out.frozen 0
  have hsl := string_take h.name (min (h.name.length : Int) 100) (min h.name.length 100) (by omega) (Nat.min_le_left _ _)
  have hset : h.cells.set 0 (.string ⟨(h.name.take (min h.name.length 100)).toArray⟩) = (h.named (h.name.take (min h.name.length 100))).cells := rfl
  have hn100 : (h.named (h.name.take (min h.name.length 100))).name.length ≤ 100 := by
    show (h.name.take (min h.name.length 100)).length ≤ 100
    rw [List.length_take]; omega
  have hk1 : 0 ≤ (h.named (h.name.take (min h.name.length 100))).kind ∧ (h.named (h.name.take (min h.name.length 100))).kind < 256 := hk
  have hok1 : (h.named (h.name.take (min h.name.length 100))).okN := fun k hk7 => by
    have := hok k hk7
    rcases lt7 hk7 with rfl | rfl | rfl | rfl | rfl | rfl | rfl <;> exact this
  have hl1 : (h.named (h.name.take (min h.name.length 100))).name.length ≤ 9223372036854775807 ∧ (h.named (h.name.take (min h.name.length 100))).link.length ≤ 9223372036854775807 ∧ (h.named (h.name.take (min h.name.length 100))).uname.length ≤ 9223372036854775807 ∧ (h.named (h.name.take (min h.name.length 100))).gname.length ≤ 9223372036854775807 := ⟨by omega, hl.2⟩
  generalize h.name.take (min h.name.length 100) = nm at *
  generalize h.named nm = g at *
  generalize h.name = y0 at *
  clear hk hok hl
  have Hs := Lib.hid (head_size g)
  have HG := Lib.hid (fun w => refFits_any g w hok1 hl1)
  have Hp0 := Lib.hid (Holds.new w 23 g.cells)
  have Hb0 := Lib.hid ((Below.refl w.heap.size w).alloc (Nat.le_refl _) (.cells g.cells.toArray 23))
  have HM := Lib.hid hm
  clear hm Ho
  by_cases hf : hdFits g = 0
  · by_cases hj : junk.length ≤ 155
    · have ej : (junk.length : Int) ≤ 155 := by omega
      have HR := Lib.hid (fun w => refBuild_any g w hk1 hl1.1 hf)
      have hB := (hdBuild_facts g hk1 hf).1
      have HPx : ∀ w, MaxSet w → Calls Tryd.prog 7 #[.string ⟨(hdBuild g).toArray⟩] w fun e w' => Below w.heap.size w w' ∧ e = .returned (.tuple #[g.posix.val, .int .i64 0]) := fun w hm => by
        have := parse_any (hdBuild g) w hm
        rw [(hdBuild_facts g hk1 hf).2] at this
        exact this
      have hpo := parse_old g hk1 hf hn100 junk hj
      have HPo : ∀ w, MaxSet w → Calls Tryd.prog 7 #[.string ⟨(sealOf (oldBlock (hdBuild g) junk)).toArray⟩] w fun e w' => Below w.heap.size w w' ∧ e = .returned (.tuple #[g.old.val, .int .i64 0]) := fun w hm => by
        have := parse_any (sealOf (oldBlock (hdBuild g) junk)) w hm
        rw [hpo.2] at this
        exact this
      have HSe := Lib.hid (fun w => refSeal_any (oldBlock (hdBuild g) junk) w hpo.1)
      have HPx := Lib.hid HPx
      have HPo := Lib.hid HPo
      have hq : ((((g.posix.cells.set 12 (.int .i64 1)).set 8 (.string ⟨([] : List UInt8).toArray⟩)).set 9 (.string ⟨([] : List UInt8).toArray⟩)).set 10 (.int .i64 0)).set 11 (.int .i64 0) = g.old.cells := rfl
      have Hso := Lib.hid (head_size g.old)
      have Hsx := Lib.hid (head_size g.posix)
      have Hoo := Lib.hid g.old.cells_one
      have Hox := Lib.hid g.posix.cells_one
      have heq := head_eql g.old
      have hz := (zero_of_info info_head).1
      have Hzo := Lib.hid (show Hd.zero.cells.toArray.size = g.old.cells.toArray.size from rfl)
      have Hzx := Lib.hid (show Hd.zero.cells.toArray.size = g.posix.cells.toArray.size from rfl)
      have Hq := Lib.hid hq
      have Hx12 := Lib.hid (show g.posix.cells.length = 13 from rfl)
      have Hob := Lib.hid (show oldBlock (hdBuild g) junk = over (over (over (hdBuild g) 257 nul8) 345 junk) 329 (junk.take 8) from rfl)
      rw [hf] at HG
      clear hf hpo hq hk1 hok1 hl1 hn100
      unfold Hd.val at *
      generalize sealOf (oldBlock (hdBuild g) junk) = SB at *
      generalize oldBlock (hdBuild g) junk = OB at *
      generalize hdBuild g = B at *
      generalize g.posix.cells = X at *
      generalize g.old.cells = O at *
      generalize g.cells = G at *
      generalize h.cells = C at *
      generalize Hd.zero.cells = Z at *
      go_enter Tryd.func5, Tryd.ntmps5
      go_wp2_with (first
        | (refine wpList_load_row (by rfl) 23 _ (by rfl) w.heap.size (by rfl) _ _ _ _ Hp0.out Tryd.underlying23 rfl Hs.out ?_)
        | fail)
      refine (HG.out _).mono ?_
      rintro e w1 ⟨hb1, rfl⟩
      have Hp1 := Lib.hid (Hp0.out.under hb1 Hp0.out.lt)
      have Hb1 := Lib.hid (Hb0.out.trans (hb1.mono Hb0.out.size))
      clear hb1 Hp0 Hb0 c0 f0 hsl hset
      go_wp2_with (first
        | (refine wpList_load_row (by rfl) 23 _ (by rfl) w.heap.size (by rfl) _ _ _ _ Hp1.out Tryd.underlying23 rfl Hs.out ?_)
        | fail)
      refine (HR.out _).mono ?_
      rintro e w2 ⟨hb2, rfl⟩
      have Hp2 := Lib.hid (Hp1.out.under hb2 Hp1.out.lt)
      have Hb2 := Lib.hid (Hb1.out.trans (hb2.mono Hb1.out.size))
      clear hb2 Hp1 Hb1
      obtain ⟨cap, w3, hcv, hcap, hat, hb3⟩ := bytes_at B w2
      rw [hB] at hcv hcap
      have hz2 : w.heap.size < w2.heap.size := Hp2.out.lt
      have Hp3 := Lib.hid (Hp2.out.under hb3 Hp2.out.lt)
      have Hb3 := Lib.hid (Hb2.out.trans (hb3.mono Hb2.out.size))
      clear hb3 Hp2 Hb2
      have hl1 : (over B 257 nul8).length = 512 := by rw [over_length _ _ _ (by have : nul8.length = 8 := rfl; omega), hB]
      have hl2 : (over (over B 257 nul8) 345 junk).length = 512 := by rw [over_length _ _ _ (by omega), hl1]
      have ht : (junk.take 8).length ≤ 8 := by rw [List.length_take]; exact Nat.min_le_left _ _
      have hl3 : (over (over (over B 257 nul8) 345 junk) 329 (junk.take 8)).length = 512 := by rw [over_length _ _ _ (by omega), hl2]
      have k1 : (Builtin.copy_ #[39, 9] 3 #[.slice (some ⟨w2.heap.size, 257, none⟩) 8 (cap - 257), .string ⟨#[0, 0, 0, 0, 0, 0, 0, 0]⟩]).run Tryd.prog w3 = .ok (goInt ((min nul8.length 8 : Nat) : Int)) (w3.setCells w2.heap.size 257 (byteCells nul8)) := run_copy_at hat 257 8 (cap - 257) nul8 (by omega)
      have a1 := hat.copied (o := 257) nul8 (by have : nul8.length = 8 := rfl; omega)
      have k2 := run_copy_at a1 345 155 (cap - 345) junk (by omega)
      rw [List.take_of_length_le (show junk.length ≤ 155 by omega)] at k2
      have a2 := a1.copied (o := 345) junk (by omega)
      have k3 := run_copy_at a2 329 8 (cap - 329) junk (by omega)
      have a3 := a2.copied (o := 329) (junk.take 8) (by omega)
      have b1 := below_setCells w2.heap.size (Nat.le_of_lt hz2) (byteCells nul8) 257 w3 Hb3.out
      have b2 := below_setCells w2.heap.size (Nat.le_of_lt hz2) (byteCells junk) 345 _ b1
      have b3 := below_setCells w2.heap.size (Nat.le_of_lt hz2) (byteCells (junk.take 8)) 329 _ b2
      have A3 := Lib.hid a3
      have B3 := Lib.hid b3
      have zsz := setCells_size w2.heap.size (byteCells (junk.take 8)) 329 ((w3.setCells w2.heap.size 257 (byteCells nul8)).setCells w2.heap.size 345 (byteCells junk))
      have Hp4 := Lib.hid (show Holds (((w3.setCells w2.heap.size 257 (byteCells nul8)).setCells w2.heap.size 345 (byteCells junk)).setCells w2.heap.size 329 (byteCells (junk.take 8))) w.heap.size 23 G by
        have q1 := Hp3.out.under (below_setCells w2.heap.size (Nat.le_refl _) (byteCells nul8) 257 w3 (Below.refl w2.heap.size w3)) hz2
        have q2 := q1.under (below_setCells w2.heap.size (Nat.le_refl _) (byteCells junk) 345 _ (Below.refl w2.heap.size _)) hz2
        exact q2.under (below_setCells w2.heap.size (Nat.le_refl _) (byteCells (junk.take 8)) 329 _ (Below.refl w2.heap.size _)) hz2)
      have hcv2 := a3.conv (cap := cap) hl3
      rw [← Hob.out] at hcv2
      clear a1 a2 a3 b1 b2 b3 hat hl1 hl2 hl3 ht zsz Hp3 Hb3 hB
      go_wp2_with fail
      clear k1 k2 k3 hcv hcv2 hcap
      generalize ((w3.setCells w2.heap.size 257 (byteCells nul8)).setCells w2.heap.size 345 (byteCells junk)).setCells w2.heap.size 329 (byteCells (junk.take 8)) = w4 at *
      refine (HSe.out _).mono ?_
      rintro e w5 ⟨hb5, rfl⟩
      have Hp5 := Lib.hid (Hp4.out.under hb5 Hp4.out.lt)
      have Hb5 := Lib.hid (B3.out.trans (hb5.mono B3.out.size))
      clear hb5 Hp4 B3 A3
      go_wp2_with fail
      refine (HPo.out _ (HM.out.below Hb5.out)).mono ?_
      rintro e w6 ⟨hb6, rfl⟩
      have Hp6 := Lib.hid (Hp5.out.under hb6 Hp5.out.lt)
      have Hb6 := Lib.hid (Hb5.out.trans (hb6.mono Hb5.out.size))
      have hz6 : w.heap.size < w6.heap.size := Hp6.out.lt
      clear hb6 Hp5 Hb5
      have Hnew := Lib.hid (Holds.new w6 23 Z)
      have Hp7 := Lib.hid (Hp6.out.behind (.cells O.toArray 23))
      have Ho7 := Lib.hid (Holds.new w6 23 O)
      have Hb7 := Lib.hid (Hb6.out.alloc Hb6.out.size (.cells O.toArray 23))
      go_wp2_with (first
        | (refine wpList_store_row (by rfl) 23 _ _ (by rfl) w6.heap.size O.toArray (by rfl) (by rfl) _ _ Hnew.out Hso.out Hzo.out Hoo.out ?_; rw [World.setRow_alloc_new])
        | (refine wpList_load_row (by rfl) 23 _ (by rfl) w.heap.size (by rfl) _ _ _ _ Hp7.out Tryd.underlying23 rfl Hs.out ?_)
        | fail)
      refine (HR.out _).mono ?_
      rintro e w8 ⟨hb8, rfl⟩
      have Ho8 := Lib.hid (Ho7.out.under hb8 Ho7.out.lt)
      have Hb8 := Lib.hid (Hb7.out.trans (hb8.mono Hb7.out.size))
      clear hb8 Ho7 Hb7 Hp7 Hnew Hp6 Hb6
      go_wp2_with fail
      refine (HPx.out _ (HM.out.below Hb8.out)).mono ?_
      rintro e w9 ⟨hb9, rfl⟩
      have Ho9 := Lib.hid (Ho8.out.under hb9 Ho8.out.lt)
      have Hb9 := Lib.hid (Hb8.out.trans (hb9.mono Hb8.out.size))
      have hz9 : w6.heap.size < w9.heap.size := Ho9.out.lt
      clear hb9 Ho8 Hb8
      have Hnew := Lib.hid (Holds.new w9 23 Z)
      have Hx10 := Lib.hid (Holds.new w9 23 O)
      have Ho10 := Lib.hid (Ho9.out.behind (.cells O.toArray 23))
      have Hb10 := Lib.hid (Hb9.out.alloc Hb9.out.size (.cells O.toArray 23))
      have hx := Hx12.out
      have hq := Hq.out
      go_wp2_with (first
        | (refine wpList_store_row (by rfl) 23 _ _ (by rfl) w9.heap.size X.toArray (by rfl) (by rfl) _ _ Hnew.out Hsx.out Hzx.out Hox.out ?_; rw [World.setRow_alloc_new])
        | (refine BigFrame.wpList_want rfl (fun K hK => wp_load_row 23 _ rfl w6.heap.size rfl _ _ _ _ Ho10.out Tryd.underlying23 rfl Hso.out (hK _ _ ?_)))
        | (refine BigFrame.wpList_want rfl (fun K hK => wp_load_row 23 _ rfl w9.heap.size rfl _ _ _ _ Hx10.out Tryd.underlying23 rfl Hso.out (hK _ _ ?_)))
        | fail)
      refine (awake5_any _).mono ?_
      rintro e w11 ⟨hb11, rfl⟩
      have Hb11 := Lib.hid (Hb10.out.trans (hb11.mono Hb10.out.size))
      clear hb11
      go_wp2
      go_ret
      exact ⟨Hb11.out, rfl⟩
    · have ej : (155 : Int) < (junk.length : Int) := by omega
      rw [hf] at HG
      clear hf hj
      unfold Hd.val at *
      generalize g.cells = G at *
      generalize h.cells = C at *
      go_enter Tryd.func5, Tryd.ntmps5
      go_wp2_with (first
        | (refine wpList_load_row (by rfl) 23 _ (by rfl) w.heap.size (by rfl) _ _ _ _ Hp0.out Tryd.underlying23 rfl Hs.out ?_)
        | fail)
      refine (HG.out _).mono ?_
      rintro e w1 ⟨hb1, rfl⟩
      have Hb1 := Lib.hid (Hb0.out.trans (hb1.mono Hb0.out.size))
      clear hb1 Hp0 Hb0 c0 f0 hsl hset
      go_wp2_with fail
      refine (awake5_any _).mono ?_
      rintro e w2 ⟨hb2, rfl⟩
      have Hb2 := Lib.hid (Hb1.out.trans (hb2.mono Hb1.out.size))
      clear hb2
      go_wp2
      go_ret
      exact ⟨Hb2.out, rfl⟩
  · have e1 : (hdFits g == 0) = false := by simpa using hf
    unfold Hd.val at *
    generalize hdFits g = R at *
    generalize g.cells = G at *
    generalize h.cells = C at *
    go_enter Tryd.func5, Tryd.ntmps5
    go_wp2_with (first
      | (refine wpList_load_row (by rfl) 23 _ (by rfl) w.heap.size (by rfl) _ _ _ _ Hp0.out Tryd.underlying23 rfl Hs.out ?_)
      | fail)
    refine (HG.out _).mono ?_
    rintro e w1 ⟨hb1, rfl⟩
    have Hb1 := Lib.hid (Hb0.out.trans (hb1.mono Hb0.out.size))
    clear hb1 Hp0 Hb0 c0 f0 hsl hset
    go_wp2_with fail
    refine (awake5_any _).mono ?_
    rintro e w2 ⟨hb2, rfl⟩
    have Hb2 := Lib.hid (Hb1.out.trans (hb2.mono Hb1.out.size))
    clear hb2
    go_wp2
    go_ret
    exact ⟨Hb2.out, rfl⟩
end Go.Proofs.YtlloaalaldomkaaDoor.headerOld
