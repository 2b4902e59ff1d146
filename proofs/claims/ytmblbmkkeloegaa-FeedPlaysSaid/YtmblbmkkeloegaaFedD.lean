/-
  Contract of the document's Drop for layer 8.
-/
import Derived.Test.YtmblbmkkeloegaaFedR
namespace Go.Proofs.Ytmblbmkkeloegaa
open Go.ChangeShapes Go.WideShapes Go.ChangeAt Go.RowKit Go.Conc

theorem results_c1 {P : Program} {fn : Func} {p : Tmp} {ty : TypeId} (h : fn.results = #[.cell p ty]) (tmps : Array Value) (w : World) (g : Nat) (t : TypeId) (cs : Array Value) (fr : Nat × Nat) (d : TypeDesc)
    (hp : tmps.getD p undef = .pointer (some ⟨g, 0, none⟩)) (hg : w.heap[g]? = some (.cells cs t fr))
    (hu : P.underlying ty = some d) (hd : (match d with | .struct _ | .array _ _ => true | _ => false) = true) (hi : (P.info? ty).map (·.size) = some cs.size) :
    (results fn tmps).run P w = .ok (.agg cs) w := by
  have hp' : tmps[p]?.getD undef = .pointer (some ⟨g, 0, none⟩) := by simpa using hp
  simp [results, h, hp', asAddr, run_loadVar_row w g t ty cs fr d hg hu hd hi]

theorem one_new (w : World) (x : Value) (t : TypeId) : ∀ j u, [x][j]? = some u → (w.alloc (.cells #[x] t)).cell? ((⟨w.heap.size, 0, none⟩ : Addr).add j) = some u := by
  intro j u hj
  have hh := Holds.new w t [x]
  have add_at : (⟨w.heap.size, 0, none⟩ : Addr).add j = ⟨w.heap.size, j, none⟩ := by unfold Addr.add; split <;> simp_all
  rw [add_at]
  have hj1 : j < 1 := by
    rcases Nat.lt_or_ge j 1 with hl | hl
    · exact hl
    · rw [List.getElem?_eq_none (by simpa using hl)] at hj; cases hj
  have := hh.cell (i := j) (by simpa using hj1)
  rw [List.getElem?_eq_getElem (by simpa using hj1)] at hj
  injection hj with hj
  rw [← hj]
  exact this

theorem dropL_cons (c : List UInt8) (L : List (List UInt8)) (n : Nat) : dropL (c :: L) n = if n < c.length then c.drop n :: dropL L 0 else dropL L (n - c.length) := rfl

section
variable {w : World} {B : Nat} {v : Value} {L : List (List UInt8)} {cl : Bool}

set_option maxHeartbeats 2000000 in
set_option maxRecDepth 100000 in
theorem refDrop_any (h : OwnS w B v L) (hB : B ≤ w.heap.size) (n : Nat) (hn : n ≤ 4294967296) (hl : L.length ≤ 64) (he : ∀ x ∈ L, x.length ≤ 65536) :
    Calls Try.prog 17 #[.agg #[v, .bool cl], .int .i64 n] w fun e w' => Below w.heap.size w w' ∧ ∃ v', OwnS w' B v' (dropL L n) ∧ e = .returned (.agg #[v', .bool cl]) := by
  obtain ⟨i0, hi, hz0, hz1, hz2⟩ := info_parts zero_str
  have hni : (n : Int) ≤ 4294967296 := by omega
  obtain ⟨ad, cap, rfl⟩ := h.form
  have Hcell := Lib.hid (fun (wr : World) (hb : Below w.heap.size w wr) i (hi : i < L.length) => (h.step hb).cell hi)
  have h1 := Holds.new w 27 [.slice ad L.length cap, .bool cl]
  have h2 := Holds.new (w.alloc (.cells #[.slice ad L.length cap, .bool cl] 27)) 27 [.slice none 0 0, .bool false]
  rw [World.size_alloc] at h2
  have Hx := Lib.hid ((h1.behind (.cells #[.slice none 0 0, .bool false] 27)).behind (.cells #[] 9))
  have Hy := Lib.hid (h2.behind (.cells #[] 9))
  have hlit := World.ownsRow_lit (base := w.heap.size + 2) (e := 9) (size := 1) ((w.alloc (.cells #[.slice ad L.length cap, .bool cl] 27)).alloc (.cells #[.slice none 0 0, .bool false] 27)) #[] 0 (by simp) (by decide) rfl
  simp only [World.size_alloc] at hlit
  have Hlit := Lib.hid hlit
  have Hb := Lib.hid ((((Below.refl w.heap.size w).alloc (Nat.le_refl _) (.cells #[.slice ad L.length cap, .bool cl] 27)).alloc (by simp) (.cells #[.slice none 0 0, .bool false] 27)).alloc (by simp; omega) (.cells #[] 9))
  clear h h1 h2 hlit
  go_enter Try.func17, Try.ntmps17
  go_wp2
  go_loopw [1, 5, 6] (fun m a i wr => ∃ (k r : Nat) (acc : List (List UInt8)), m = .int .i64 r ∧ i = .int .i64 k ∧ k ≤ L.length ∧ r ≤ n ∧ acc.length ≤ k ∧ wr.ownsRow (w.heap.size + 2) 9 1 a acc.length (acc.map strV) ∧ acc ++ dropL (L.drop k) r = dropL L n ∧
      Holds wr w.heap.size 27 [.slice ad L.length cap, .bool cl] ∧ Holds wr (w.heap.size + 1) 27 [.slice none 0 0, .bool false] ∧ Below w.heap.size w wr) (fun _ _ i _ => L.length - (intOf i).toNat)
  case atStart => exact ⟨0, n, [], rfl, rfl, Nat.zero_le _, Nat.le_refl _, Nat.zero_le _, Hlit.out, rfl, Hx.out, Hy.out, Hb.out⟩
  case round =>
    obtain ⟨k, r, acc, rfl, rfl, hk, hr, hak, hown, hdr, hx, hy, hb⟩ := hrel
    have HO := Lib.hid hown
    have HD := Lib.hid hdr
    have HX := Lib.hid hx
    have HY := Lib.hid hy
    have HB := Lib.hid hb
    have c0 := hx.cell (i := 0) (by simp)
    have c1 := hx.cell (i := 1) (by simp)
    clear hown hdr hx hy hb Hx Hy Hlit Hb
    by_cases hlt : k < L.length
    · have hlt2 : (k : Int) < L.length := by omega
      obtain ⟨g, cap2, hv, hc⟩ := Hcell.out wr HB.out k hlt
      obtain rfl : ad = some ⟨g, 0, none⟩ := by injection hv
      have hxl := he L[k] (List.getElem_mem _)
      have Hdk := Lib.hid (show dropL (L.drop k) r = if r < L[k].length then L[k].drop r :: dropL (L.drop (k + 1)) 0 else dropL (L.drop (k + 1)) (r - L[k].length) by rw [List.drop_eq_getElem_cons hlt, dropL_cons])
      generalize L[k] = x at *
      clear hv
      by_cases hrx : r < x.length
      · have hmin : min (r : Int) (x.length : Int) = r := by omega
        have hrx2 : (r : Int) < x.length := by omega
        go_wp2_with (at_builtin; refine wpList_append_own _ rfl _ _ 25 rfl (w.heap.size + 2) 9 i0 (.string ⟨#[]⟩) 1 16 Try.underlying25 hi hz0 hz1 hz2 rfl (by decide) _ _ _ rfl (World.ownsRow.alloc HO.out _) ⟨wr.heap.size, 0, none⟩ 1 1 [strV (x.drop r)] rfl rfl ?c1 ?c2 ?c3 ?c4 ?c5 ?_)
        case c1 => exact one_new wr _ _
        case c2 => exact fun u hu => by rw [List.mem_singleton.1 hu]; rfl
        case c3 => unfold maxLen; omega
        case c4 => omega
        case c5 => have := HY.out.lt; rw [World.size_alloc]; omega
        intro v2 w5 hown2 hgr2 _
        have hlt5 : w.heap.size + 1 < wr.heap.size := HY.out.lt
        have hnb : ∀ j, j < w.heap.size + 2 → some j ≠ v2.ownBlock := fun j hj e => by have := (hown2.lt _ e.symm).1; omega
        have hnb5 : ∀ j, j < w.heap.size + 2 → some j ≠ Value.ownBlock u5 := fun j hj e => by have := (HO.out.lt _ e.symm).1; omega
        have Hfin := Lib.hid (show Holds w5 w.heap.size 27 [.slice (some ⟨g, 0, none⟩) L.length cap, .bool cl] ∧ Holds w5 (w.heap.size + 1) 27 [.slice none 0 0, .bool false] ∧ Below w.heap.size w w5 from
          ⟨(HX.out.behind _).grown hgr2 (hnb5 _ (by omega)), (HY.out.behind _).grown hgr2 (hnb5 _ (by omega)), (HB.out.alloc (by omega) _).grown hgr2 (by rw [World.size_alloc]; omega) (fun j hj => by have := (HO.out.lt j hj).1; omega)⟩)
        obtain ⟨ad2, n2, cap3, hv2⟩ : ∃ ad2 n2 cap2, v2 = .slice ad2 n2 cap2 := by
          rcases hown2.2 with ⟨hv, _⟩ | ⟨g2, c2, cu, hv, _⟩
          · exact ⟨_, _, _, hv⟩
          · exact ⟨_, _, _, hv⟩
        subst hv2
        have Hown := Lib.hid (show w5.ownsRow (w.heap.size + 2) 9 1 (.slice ad2 n2 cap3) (acc ++ [x.drop r]).length ((acc ++ [x.drop r]).map strV) by simpa using hown2)
        have Hacc := Lib.hid (show (acc ++ [x.drop r]) ++ dropL (L.drop (k + 1)) 0 = dropL L n by
          rw [List.append_assoc, ← HD.out, Hdk.out, if_pos hrx]; rfl)
        clear hown2 hgr2
        go_wp2
        go_round
        case rel => exact ⟨k + 1, 0, acc ++ [x.drop r], by go_num, by go_num, by omega, by omega, by simp; omega, Hown.out, Hacc.out, Hfin.out.1, Hfin.out.2.1, Hfin.out.2.2⟩
        case measure => simp [intOf]; omega
      · have hmin : min (r : Int) (x.length : Int) = x.length := by omega
        have Hacc := Lib.hid (show acc ++ dropL (L.drop (k + 1)) (r - x.length) = dropL L n by rw [← HD.out, Hdk.out, if_neg hrx])
        go_wp2
        go_round
        case rel => exact ⟨k + 1, r - x.length, acc, by go_num, by go_num, by omega, by omega, by omega, HO.out, Hacc.out, HX.out, HY.out, HB.out⟩
        case measure => simp [intOf]; omega
    · have hlt2 : (L.length : Int) ≤ k := by omega
      obtain rfl : k = L.length := by omega
      have Hacc := Lib.hid (show acc = dropL L n by rw [← HD.out, List.drop_length]; simp [dropL])
      have y0 := HY.out.cell (i := 0) (by simp)
      have y1 := HY.out.cell (i := 1) (by simp)
      have z0 := HY.out.frozen 0
      have z1 := HY.out.frozen 1
      obtain ⟨ad2, n2, cap3, hv2⟩ : ∃ ad2 n2 cap2, u5 = .slice ad2 n2 cap2 := by
        rcases HO.out.2 with ⟨hv, _⟩ | ⟨g2, c2, cu, hv, _⟩
        · exact ⟨_, _, _, hv⟩
        · exact ⟨_, _, _, hv⟩
      subst hv2
      have hne2 : some (w.heap.size + 1) ≠ (Value.slice ad2 n2 cap3).ownBlock := fun e => by have := (HO.out.lt _ e.symm).1; omega
      have Hp := Lib.hid (show Holds ((wr.setCell ⟨w.heap.size + 1, 0, none⟩ (.slice ad2 n2 cap3)).setCell ⟨w.heap.size + 1, 1, none⟩ (.bool cl)) (w.heap.size + 1) 27 [.slice ad2 n2 cap3, .bool cl] by
        have := (HY.out.put 0 (.slice ad2 n2 cap3)).put 1 (.bool cl)
        simpa using this)
      have Hfin := Lib.hid (show Below w.heap.size w ((wr.setCell ⟨w.heap.size + 1, 0, none⟩ (.slice ad2 n2 cap3)).setCell ⟨w.heap.size + 1, 1, none⟩ (.bool cl)) ∧ OwnS ((wr.setCell ⟨w.heap.size + 1, 0, none⟩ (.slice ad2 n2 cap3)).setCell ⟨w.heap.size + 1, 1, none⟩ (.bool cl)) B (.slice ad2 n2 cap3) (dropL L n) by
        refine ⟨(HB.out.setCell (p := ⟨w.heap.size + 1, 0, none⟩) (by simp) _).setCell (p := ⟨w.heap.size + 1, 1, none⟩) (by simp) _, ?_⟩
        rw [← Hacc.out]
        refine World.ownsRow.kept (row := some (w.heap.size + 1)) (OwnS.le HO.out (by omega)) ⟨rfl, rfl, rfl, by simp [World.setCell], fun j _ hk => ?_⟩ (.inr (fun e => hne2 e.symm))
        rw [Below.heap_setCell _ _ _ _ (fun e => hk (by simp [e])), Below.heap_setCell _ _ _ _ (fun e => hk (by simp [e]))])
      go_wp2
      exact bodyPost_ret (results_c1 Try.results17 _ _ (w.heap.size + 1) _ #[.slice ad2 n2 cap3, .bool cl] _ _ (by rfl) Hp.out Try.underlying27 rfl state_size) rfl ⟨Hfin.out.1, _, Hfin.out.2, rfl⟩
end
end Go.Proofs.Ytmblbmkkeloegaa
