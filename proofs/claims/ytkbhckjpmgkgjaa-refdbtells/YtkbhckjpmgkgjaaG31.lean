/- My own work: the document's sorted, by contract. -/
import Derived.Test.YtkbhckjpmgkgjaaG30
import Derived.BigQuiet
namespace Go.Proofs.Ytkbhckjpmgkgjaa
open Go.RowKit
open Classical

theorem cell_drewN {w : World} {p : Addr} {v : Value} (h : w.cell? p = some v) (q : Nat) : (w.drewN q).cell? p = some v := h
def SortPost (X : List ByteArray) (w : World) (e : Ending) (w' : World) : Prop := ∃ v Y, e = .returned v ∧ SortedOf Y X ∧ Told w w' v Y
theorem told_start (w : World) : Told w w (.slice none 0 0) [] := ⟨World.ownsRow_nil _ _ _ _, Below.refl _ _⟩
theorem Told.next {w wr w' : World} {v : Value} {X : List ByteArray} (h : Told w wr v X) (hb : Below wr.heap.size wr w') : Told w w' v X := ⟨ownsRow_keep' h.own fun g _ hl => hb.block g hl, h.old.trans (hb.mono h.old.size)⟩
theorem Told.more {w wr w' : World} {v v' : Value} {X : List ByteArray} {x : ByteArray} (h : Told w wr v X) (hown : w'.ownsRow w.heap.size 9 1 v' (X.length + 1) (X.map Value.string ++ [.string x])) (hg : (wr.alloc (.cells #[.string x] 9)).grownBy w' v.ownBlock) : Told w w' v' (X ++ [x]) := by
  refine ⟨by rw [List.length_append, List.map_append]; exact hown, h.old.trans ⟨hg.os, hg.tape, hg.output, by have := hg.size; have := h.old.size; simp at *; omega, fun k hk => ?_⟩⟩
  have h1 := h.old.size
  exact (hg.block k (by simp; omega) (fun e => by have := (ownsRow_lt' h.own k e.symm).2; omega)).trans (((Below.refl wr.heap.size wr).alloc (Nat.le_refl _) _).block k (by omega))
theorem Told.slice {w wr : World} {v : Value} {X : List ByteArray} (h : Told w wr v X) : ∃ a c, v = .slice a X.length c := own_slice h.own
theorem run_gtr (x z : ByteArray) (w : World) : Sem.run Try.prog (binOp BinOp.gtr 9 (.string x) (.string z)) w = .ok (.bool (!(Op.bytesLess x.toList z.toList || x.toList == z.toList))) w := by rfl
theorem run_geq (x z : ByteArray) (w : World) : Sem.run Try.prog (binOp BinOp.geq 9 (.string x) (.string z)) w = .ok (.bool (!(Op.bytesLess x.toList z.toList))) w := by rfl
theorem less_iff (a b : ByteArray) : Op.bytesLess a.toList b.toList = true ↔ gb a < gb b := by rw [less_lt, decide_eq_true_iff]
set_option maxRecDepth 20000 in
set_option maxHeartbeats 8000000 in
theorem refSorted_ok (X : List ByteArray) (a : Option Addr) (c : Nat) (w : World) (h : StrsAt w a X c) (hl : X.length ≤ 4096) : Calls Try.prog 37 #[.slice a X.length c] w (SortPost X w) := by
  obtain ⟨b, off, ha, hc⟩ := h.ex
  have hle := h.le
  have HEa : Hid (∀ x ∈ X, x.size ≤ big) := h.each
  have HA : Hid _ := ha
  have HC : Hid (∀ wx, Below w.heap.size w wx → ∀ i (h : i < X.length), wx.cell? ⟨b, off + i, none⟩ = some (.string X[i])) := fun wx hx i hi => (hx.cell (p := ⟨b, off + i, none⟩) (World.block_lt_of_cell? _ _ (hc i hi))).trans (hc i hi)
  obtain ⟨n, hN⟩ : ∃ n, n = X.length := ⟨_, rfl⟩
  have HN : Hid _ := hN
  rw [← hN] at hl hle ⊢
  obtain ⟨RP, hRP⟩ : ∃ RP, RP = SortPost X w := ⟨_, rfl⟩
  have HRP : Hid (∀ v Y w', SortedOf Y X → Told w w' v Y → RP (.returned v) w') := fun v Y w' h1 h2 => by rw [hRP]; exact ⟨v, Y, rfl, h1, h2⟩
  rw [← hRP]
  have HT0 : Hid (Told w w (.slice none 0 0) []) := told_start w
  clear h ha hc hN hRP
  go_enter Try.func37, Try.ntmps37
  go_wp2
  go_loopw [3] (fun ov wr => ∃ Y, SoSt X Y ∧ Told w wr ov Y) (fun ov _ => n - lenV ov)
  case atStart => exact ⟨[], SoSt.start X, HT0.out⟩
  case round =>
    obtain ⟨Y, hS, hT⟩ := hrel
    obtain ⟨ya, yc, rfl⟩ := hT.slice
    have HS : Hid (SoSt X Y) := hS
    have hYl := hS.len
    obtain ⟨ny, hny⟩ : ∃ ny, ny = Y.length := ⟨_, rfl⟩
    rw [← hny] at hYl hT ⊢
    rw [← HN.out] at hYl
    have HNy : Hid _ := hny
    have HT : Hid (Told w wr (.slice ya ny yc) Y) := hT
    clear hS hny hT HT0
    obtain ⟨wE, rfl⟩ : ∃ x, x = wr := ⟨wr, rfl⟩
    by_cases hful : ny < n
    · have hful' : (ny : Int) < (n : Int) := by omega
      have HYs : Hid (∃ a' c', (Value.slice ya ny yc) = .slice a' Y.length c' ∧ StrsAt wE a' Y c') := HT.out.strs (by have := HNy.out; omega) (fun x hx => HEa.out x (HS.out.sub x hx))
      go_wp2
      go_loopw [4, 5, 6] (fun bv sv iv wi => ∃ (i : Nat) (is : Bool) (best : ByteArray), iv = .int .i64 i ∧ sv = .bool is ∧ bv = .string best ∧ i ≤ n ∧ Below wE.heap.size wE wi ∧ BeSt X Y i is best) (fun _ _ iv _ => n - (intOf iv).toNat)
      case atStart => exact ⟨0, false, _, rfl, rfl, rfl, Nat.zero_le _, Below.refl _ _, BeSt.start X Y _⟩
      case round =>
        obtain ⟨i, is, best, rfl, rfl, rfl, hi, hB, hBe⟩ := hrel
        have HB : Hid (Below wE.heap.size wE wr) := hB
        have HBe : Hid (BeSt X Y i is best) := hBe
        clear hB hBe
        by_cases hlt : i < n
        · have hlt' : (i : Int) < (n : Int) := by omega
          have hiX : i < X.length := by have := HN.out; omega
          obtain rfl := HA.out (by omega)
          have hX0 := HC.out wr (HT.out.old.trans (HB.out.mono HT.out.old.size)) i hiX
          obtain ⟨x, hx⟩ : ∃ x, x = X[i] := ⟨_, rfl⟩
          rw [← hx] at hX0
          have hcell : wr.cell? ⟨b, off + i, none⟩ = some (.string x) := hX0
          have HXx : Hid _ := hx
          clear hx
          by_cases hy0 : ny = 0
          · have hk0 : ((ny : Int) == 0) = true := by simp [hy0]
            have HA0 : Hid (Abv Y x) := by
              have : Y = [] := List.length_eq_zero_iff.1 (by have := HNy.out; omega)
              rw [this]
              exact abv_nil x
            have hYc := hful
            clear hy0
            cases is with
            | false =>
              have HNx : Hid (BeSt X Y (i + 1) true x) := by show BeSt _ _ _ _ _; rw [HXx.out]; exact HBe.out.take hiX (by rw [← HXx.out]; exact HA0.out) (.inl rfl)
              clear hX0 hYc
              go_wp2_with fail
              go_quiet (fail)
              obtain ⟨w4, hw4⟩ : ∃ u, u = wr.drewN nq := ⟨_, rfl⟩
              rw [← hw4]
              have HB4 : Hid (Below wE.heap.size wE w4) := by
                rw [hw4]
                exact below_drewN HB.out nq
              have hx4 : w4.cell? ⟨b, off + i, none⟩ = some (.string x) := by rw [hw4]; exact hcell
              clear hw4 hcell
              go_wp2
              go_roundw
              case rel => exact ⟨i + 1, true, x, by go_num, rfl, rfl, by omega, HB4.out, HNx.out⟩
              case measure => simp [intOf]; omega
            | true =>
              obtain ⟨lb, hlb⟩ : ∃ lb, lb = Op.bytesLess x.toList best.toList := ⟨_, rfl⟩
              have HLb : Hid (lb = true ↔ gb x < gb best) := by show _ ↔ _; rw [hlb]; exact less_iff x best
              have hlb' := hlb.symm
              clear hlb
              cases lb with
              | true =>
                have HNx : Hid (BeSt X Y (i + 1) true x) := by show BeSt _ _ _ _ _; rw [HXx.out]; exact HBe.out.take hiX (by rw [← HXx.out]; exact HA0.out) (.inr (by rw [← HXx.out]; exact HLb.out.1 rfl))
                clear hX0 hYc
                go_wp2_with fail
                go_quiet (fail)
                obtain ⟨w4, hw4⟩ : ∃ u, u = wr.drewN nq := ⟨_, rfl⟩
                rw [← hw4]
                have HB4 : Hid (Below wE.heap.size wE w4) := by
                  rw [hw4]
                  exact below_drewN HB.out nq
                have hx4 : w4.cell? ⟨b, off + i, none⟩ = some (.string x) := by rw [hw4]; exact hcell
                clear hw4 hcell
                go_wp2
                go_roundw
                case rel => exact ⟨i + 1, true, x, by go_num, rfl, rfl, by omega, HB4.out, HNx.out⟩
                case measure => simp [intOf]; omega
              | false =>
                have HNx : Hid (BeSt X Y (i + 1) true best) := HBe.out.skip hiX (.inr ⟨rfl, by rw [← HXx.out]; exact fun h => absurd (HLb.out.2 h) (by decide)⟩)
                clear hX0 hYc
                go_wp2_with fail
                go_quiet (fail)
                obtain ⟨w4, hw4⟩ : ∃ u, u = wr.drewN nq := ⟨_, rfl⟩
                rw [← hw4]
                have HB4 : Hid (Below wE.heap.size wE w4) := by
                  rw [hw4]
                  exact below_drewN HB.out nq
                clear hw4
                go_wp2
                go_roundw
                case rel => exact ⟨i + 1, true, best, by go_num, rfl, rfl, by omega, HB4.out, HNx.out⟩
                case measure => simp [intOf]; omega
          · obtain ⟨Z, z, hZ⟩ : ∃ Z z, Y = Z ++ [z] := by
              have h0 : Y ≠ [] := fun e => hy0 (by rw [HNy.out, e]; rfl)
              exact ⟨Y.dropLast, Y.getLast h0, (List.dropLast_concat_getLast h0).symm⟩
            obtain ⟨k, hk⟩ : ∃ k, ny = k + 1 := ⟨ny - 1, by omega⟩
            have hZl : Z.length = k := by
              have := HNy.out
              rw [hZ, List.length_append] at this
              simp at this
              omega
            obtain ⟨a', c', ha', hS'⟩ := HYs.out
            simp only [Value.slice.injEq] at ha'
            obtain ⟨rfl, -, rfl⟩ := ha'
            obtain ⟨yb, yo, hya, hyc⟩ := hS'.ex
            obtain rfl := hya (by have := HNy.out; omega)
            have hYc : wr.cell? ⟨yb, yo + k, none⟩ = some (.string z) := by
              have h1 := hyc k (by have := HNy.out; omega)
              have h2 : Y[k]'(by have := HNy.out; omega) = z := by simp [hZ, hZl]
              rw [h2] at h1
              exact (HB.out.cell (p := ⟨yb, yo + k, none⟩) (World.block_lt_of_cell? _ _ h1)).trans h1
            have hzcell := hYc
            have hwk : IntKind.i64.wrap ((ny : Int) - 1) = (k : Int) := by rw [IntKind.wrap_i64]; omega
            have hk0 : ((ny : Int) == 0) = false := int_beq (by omega)
            have hkk : (k : Int) < (ny : Int) := by omega
            have hk0d : decide ((ny : Int) = 0) = false := decide_eq_false (by omega)
            have hk0n : (ny == 0) = false := by simpa using hy0
            have hk0m : decide (ny = 0) = false := decide_eq_false hy0
            have hAz : Abv Y x ↔ gb z < gb x := by rw [hZ]; exact abv_last (by rw [← hZ]; exact HS.out.up)
            have HAz : Hid _ := hAz
            clear hAz hZ hZl hya hyc hS' hy0 hk
            by_cases hzx : gb z < gb x
            case neg =>
              have HNa : Hid (¬ Abv Y x) := fun h => hzx (HAz.out.1 h)
              by_cases hxz : x = z
              · have hgt : ∀ wx, Sem.run Try.prog (binOp BinOp.gtr 9 (.string x) (.string z)) wx = .ok (.bool false) wx := fun wx => by rw [run_gtr, hxz]; simp
                clear hxz hzx
                have HNx : Hid (BeSt X Y (i + 1) is best) := HBe.out.skip hiX (.inl (by rw [← HXx.out]; exact HNa.out))
                clear hX0 hYc
                go_wp2_with fail
                go_quiet (fail)
                obtain ⟨w4, hw4⟩ : ∃ u, u = wr.drewN nq := ⟨_, rfl⟩
                rw [← hw4]
                have HB4 : Hid (Below wE.heap.size wE w4) := by
                  rw [hw4]
                  exact below_drewN HB.out nq
                clear hw4
                go_wp2
                go_roundw
                case rel => exact ⟨i + 1, is, best, by go_num, rfl, rfl, by omega, HB4.out, HNx.out⟩
                case measure => simp [intOf]; omega
              · have hq1 : Op.bytesLess x.toList z.toList = true := (less_iff x z).2 (gb_lt_of hzx (fun e => hxz e.symm))
                have hq2 : (x.toList == z.toList) = false := by
                  rw [beq_eq_false_iff_ne]
                  intro e
                  rw [ByteArray.toList_eq, ByteArray.toList_eq] at e
                  exact hxz (gb_inj e)
                have hgt : ∀ wx, Sem.run Try.prog (binOp BinOp.gtr 9 (.string x) (.string z)) wx = .ok (.bool false) wx := fun wx => by rw [run_gtr, hq1]; rfl
                clear hxz hzx hq1 hq2
                have HNx : Hid (BeSt X Y (i + 1) is best) := HBe.out.skip hiX (.inl (by rw [← HXx.out]; exact HNa.out))
                clear hX0 hYc
                go_wp2_with fail
                go_quiet (fail)
                obtain ⟨w4, hw4⟩ : ∃ u, u = wr.drewN nq := ⟨_, rfl⟩
                rw [← hw4]
                have HB4 : Hid (Below wE.heap.size wE w4) := by
                  rw [hw4]
                  exact below_drewN HB.out nq
                clear hw4
                go_wp2
                go_roundw
                case rel => exact ⟨i + 1, is, best, by go_num, rfl, rfl, by omega, HB4.out, HNx.out⟩
                case measure => simp [intOf]; omega
            case pos =>
              have HPa : Hid (Abv Y x) := HAz.out.2 hzx
              have hq1 : Op.bytesLess x.toList z.toList = false := by rw [less_lt]; exact decide_eq_false fun h => lt_irr _ (lt_tr h hzx)
              have hq2 : (x.toList == z.toList) = false := by
                rw [beq_eq_false_iff_ne]
                intro e
                rw [ByteArray.toList_eq, ByteArray.toList_eq] at e
                rw [gb_inj e] at hzx
                exact lt_irr _ hzx
              have hgt : ∀ wx, Sem.run Try.prog (binOp BinOp.gtr 9 (.string x) (.string z)) wx = .ok (.bool true) wx := fun wx => by rw [run_gtr, hq1, hq2]; rfl
              clear hzx hq1 hq2
              cases is with
              | false =>
                have HNx : Hid (BeSt X Y (i + 1) true x) := by show BeSt _ _ _ _ _; rw [HXx.out]; exact HBe.out.take hiX (by rw [← HXx.out]; exact HPa.out) (.inl rfl)
                clear hX0 hYc
                go_wp2_with fail
                go_quiet (fail)
                obtain ⟨w4, hw4⟩ : ∃ u, u = wr.drewN nq := ⟨_, rfl⟩
                rw [← hw4]
                have HB4 : Hid (Below wE.heap.size wE w4) := by
                  rw [hw4]
                  exact below_drewN HB.out nq
                have hx4 : w4.cell? ⟨b, off + i, none⟩ = some (.string x) := by rw [hw4]; exact hcell
                clear hw4 hcell
                go_wp2
                go_roundw
                case rel => exact ⟨i + 1, true, x, by go_num, rfl, rfl, by omega, HB4.out, HNx.out⟩
                case measure => simp [intOf]; omega
              | true =>
                obtain ⟨lb, hlb⟩ : ∃ lb, lb = Op.bytesLess x.toList best.toList := ⟨_, rfl⟩
                have HLb : Hid (lb = true ↔ gb x < gb best) := by show _ ↔ _; rw [hlb]; exact less_iff x best
                have hlb' := hlb.symm
                clear hlb
                cases lb with
                | true =>
                  have HNx : Hid (BeSt X Y (i + 1) true x) := by show BeSt _ _ _ _ _; rw [HXx.out]; exact HBe.out.take hiX (by rw [← HXx.out]; exact HPa.out) (.inr (by rw [← HXx.out]; exact HLb.out.1 rfl))
                  clear hX0 hYc
                  go_wp2_with fail
                  go_quiet (fail)
                  obtain ⟨w4, hw4⟩ : ∃ u, u = wr.drewN nq := ⟨_, rfl⟩
                  rw [← hw4]
                  have HB4 : Hid (Below wE.heap.size wE w4) := by
                    rw [hw4]
                    exact below_drewN HB.out nq
                  have hx4 : w4.cell? ⟨b, off + i, none⟩ = some (.string x) := by rw [hw4]; exact hcell
                  clear hw4 hcell
                  go_wp2
                  go_roundw
                  case rel => exact ⟨i + 1, true, x, by go_num, rfl, rfl, by omega, HB4.out, HNx.out⟩
                  case measure => simp [intOf]; omega
                | false =>
                  have HNx : Hid (BeSt X Y (i + 1) true best) := HBe.out.skip hiX (.inr ⟨rfl, by rw [← HXx.out]; exact fun h => absurd (HLb.out.2 h) (by decide)⟩)
                  clear hX0 hYc
                  go_wp2_with fail
                  go_quiet (fail)
                  obtain ⟨w4, hw4⟩ : ∃ u, u = wr.drewN nq := ⟨_, rfl⟩
                  rw [← hw4]
                  have HB4 : Hid (Below wE.heap.size wE w4) := by
                    rw [hw4]
                    exact below_drewN HB.out nq
                  clear hw4
                  go_wp2
                  go_roundw
                  case rel => exact ⟨i + 1, true, best, by go_num, rfl, rfl, by omega, HB4.out, HNx.out⟩
                  case measure => simp [intOf]; omega
        · have hlt' : ¬ (i : Int) < (n : Int) := by omega
          have hin : X.take i = X := List.take_of_length_le (by have := HN.out; omega)
          have hT2 : Told w wr (.slice ya ny yc) Y := HT.out.next HB.out
          cases is with
          | false =>
            have HD := HRP.out _ Y wr (HS.out.done fun x hx => (HBe.out).no rfl x (by rw [hin]; exact hx)) hT2
            have HDD : Hid (RP (.returned (.slice ya ny yc)) wr) := HD
            clear HD hT2
            go_wp2
            exact HDD.out
          | true =>
            obtain ⟨hb1, hb2, hb3⟩ := HBe.out.yes rfl
            have HS2 : Hid (SoSt X (Y ++ [best])) := HS.out.more hb1 hb2 fun x hx => hb3 x (by rw [hin]; exact hx)
            have HT2 : Hid (Told w wr (.slice ya ny yc) Y) := hT2
            have hoa : (wr.alloc (.cells #[.string best] 9)).ownsRow w.heap.size 9 1 (.slice ya ny yc) ny (Y.map Value.string) := by
              have := (HT2.out.next ((Below.refl _ _).alloc (Nat.le_refl _) (.cells #[.string best] 9))).own
              rw [← HNy.out] at this
              exact this
            have hBs := hT2.old.size
            have HOa : Hid _ := hoa
            clear hb1 hb2 hb3 hin hT2 hoa
            go_wp2_with (at_builtin; refine wpList_plain rfl fun K' hK' => ?_; refine ap_one (some 56) rfl (.tmp 53) (.tmp 55) rfl w.heap.size _ ny _ rfl best HOa.out rfl hBs (by omega) ?_; intro v6 w6 hown6 hg6; refine hK' _ _ ?_; have HT6 : Hid (Told w w6 v6 (Y ++ [best])) := HT2.out.more (by rw [← HNy.out]; exact hown6) hg6; clear hown6 hg6)
            go_roundw
            case rel => exact ⟨_, HS2.out, HT6.out⟩
            case measure =>
              obtain ⟨a9, c9, h9⟩ := HT6.out.slice
              rw [h9]
              have := HNy.out
              simp [lenV]
              omega
    · have hful' : ¬ (ny : Int) < (n : Int) := by omega
      have HD := HRP.out _ Y wE (HS.out.full (by have := HN.out; have := HNy.out; omega)) HT.out
      have HDD : Hid (RP (.returned (.slice ya ny yc)) wE) := HD
      clear HD
      go_wp2
      exact HDD.out
end Go.Proofs.Ytkbhckjpmgkgjaa
