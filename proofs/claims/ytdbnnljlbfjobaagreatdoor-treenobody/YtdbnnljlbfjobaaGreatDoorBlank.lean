/- My own work: a disk that has no tree. -/
import Derived.Test.YtdbnnljlbfjobaaGreatDoorEqual
import Derived.Test.YtdbnnljlbfjobaaGreatDoorAs
import Derived.Test.YtdbnnljlbfjobaaGreatDoorNoT
import Derived.Test.YtdbnnljlbfjobaaGreatDoorLook
import Derived.Test.YtdbnnljlbfjobaaGreatDoorNoJ
namespace Go.Proofs.YtdbnnljlbfjobaaGreatDoor
open Go.RowKit Go.Lib

theorem node0_one : node0.all (·.oneCell') = true := by kernel_rfl
/-- What errors.As reads of errors.errorType. -/
def GH (w : World) : Prop := w.cell? ⟨0, 0, none⟩ = some (.iface 214 (.agg #[.pointer (some ⟨4, 116, none⟩)]))
theorem GH.below {w w' : World} (h : GH w) (hb : Below w.heap.size w w') : GH w' := (hb.cell (World.block_lt_of_cell? _ _ h)).trans h

set_option maxRecDepth 20000 in
theorem errnoOf_fault (e : Addr) (w : World) (h : GH w) : Calls Tryz.prog 74 #[.iface 155 (.pointer (some e))] w fun ev w' => ev = .returned (.int .i64 10) ∧ Below w.heap.size w w' := by
  have hb : Below w.heap.size w (w.alloc (.cells #[.pointer none] 155)) := (Below.refl _ _).alloc (Nat.le_refl _) _
  have HA := AsK.as_hit e ⟨w.heap.size, 0, none⟩ (.pointer none) (w.alloc (.cells #[.pointer none] 155)) (h.below hb) (by simp) (by simp)
  have HA' : Calls Tryz.prog 115 #[.iface 155 (.pointer (some e)), .iface 162 (.pointer (some ⟨w.heap.size, 0, none⟩))] (w.alloc (.cells #[.pointer none] 155)) fun ev w' => ev = .returned (.bool true) ∧ Below w.heap.size w w' := HA.mono fun ev w' ⟨he, hw⟩ => ⟨he, by
    subst hw
    exact ((((hb.alloc hb.size _).alloc (by simp; omega) _).alloc (by simp; omega) _).alloc (by simp; omega) _).setCell (Nat.le_refl _) _⟩
  have HH : Hid _ := HA'
  clear HA HA' hb h
  go_enter Tryz.func74, Tryz.ntmps74
  go_wp2_with fail
  refine Calls.mono HH.out ?_
  rintro ev w1 ⟨rfl, hb1⟩
  clear HH
  go_wp2
  go_ret
  exact ⟨rfl, hb1⟩

set_option maxRecDepth 20000 in
set_option maxHeartbeats 2000000 in
theorem lastTree_none {w : World} {base g1 c1 g2 c2 gd : Nat} {ev : Value} {D : Dk} (hD : DiskAt w base gd g1 c1 g2 c2 ev D) (h4 : 4 < D.s)
    (hne : ∀ v : Nat, (v : Int) = num (fun j => secF D.B 4 (9 + j)) 2 → eqB (secF D.B 4) (placeF v) 256 = false) :
    Calls Tryz.prog 73 #[.pointer (some ⟨gd, 0, none⟩)] w fun e w' => ∃ g, e = .returned (.tuple #[.agg node0, .pointer none, .iface 155 (.pointer (some ⟨g, 0, none⟩))]) ∧ Below w.heap.size w w' := by
  have hb0 : Below w.heap.size w (w.alloc (.cells node0 35)) := (Below.refl _ _).alloc (Nat.le_refl _) _
  have hD0 := hD.below hb0 (Nat.le_refl _)
  have HR := read_ok hD0 4 h4
  have hf : ∀ j, 0 ≤ secF D.B 4 j ∧ secF D.B 4 j < 256 := fun j => hD.ok.B _
  have hbd := num_bd (fun j => secF D.B 4 (9 + j)) (fun j => hf _) 2
  obtain ⟨v, hv⟩ : ∃ v : Nat, (v : Int) = num (fun j => secF D.B 4 (9 + j)) 2 := ⟨(num (fun j => secF D.B 4 (9 + j)) 2).toNat, by omega⟩
  have hv6 : v < 65536 := by omega
  have hq := hne v hv
  generalize hw0 : w.alloc (.cells node0 35) = w0 at *
  have hr0 : Row w0 w.heap.size node0 35 := by rw [← hw0]; exact Row.new w node0 35
  generalize hF : secF D.B 4 = F at *
  have hC : (byts (fun i => D.B (4 * 256 + i)) 256).toArray = (byts F 256).toArray := by rw [← hF]; rfl
  rw [hC] at HR
  have hR1 : Row (w0.alloc (.cells (byts F 256).toArray 5)) w0.heap.size (byts F 256).toArray 5 := Row.new w0 _ 5
  have hb1 : Below w.heap.size w (w0.alloc (.cells (byts F 256).toArray 5)) := hb0.alloc hb0.size _
  have hz1 : Row (w0.alloc (.cells (byts F 256).toArray 5)) w.heap.size node0 35 := hr0.alloc _
  generalize hw1 : w0.alloc (.cells (byts F 256).toArray 5) = w1 at *
  have hcell : ∀ wx, Row wx w0.heap.size (byts F 256).toArray 5 → ∀ i, i < 256 → wx.cell? ⟨w0.heap.size, i, none⟩ = some (.int .u8 (F i)) := fun wx hx i hi => by
    rw [hx.cell i]
    simpa using byts_at F 256 i hi
  have HN := numberAt_any w0.heap.size 256 9 F w1 (by omega) (by omega) (by decide) (hcell w1 hR1) hf
  rw [← hv] at HN
  have HP := placeRow_ok v w1 (by omega)
  have HE : ∀ wx, Row wx w0.heap.size (byts F 256).toArray 5 → Row wx w1.heap.size (byts (placeF v) 256).toArray 5 → Calls Tryz.prog 113 #[.slice (some ⟨w0.heap.size, 0, none⟩) 256 256, .slice (some ⟨w1.heap.size, 0, none⟩) 256 256] wx fun e w' => e = .returned (.bool false) ∧ Below wx.heap.size wx w' := fun wx h1 h2 => by
    have h := equal_bytes w0.heap.size 0 256 w1.heap.size 0 256 256 F (placeF v) wx (by omega) (fun i hi => by rw [Nat.zero_add]; exact hcell wx h1 i hi) (fun i hi => by
      rw [Nat.zero_add, h2.cell i]
      simpa using byts_at (placeF v) 256 i hi)
    rw [hq] at h
    exact h
  have HHR : Hid _ := HR
  have HHN : Hid _ := HN
  have HHP : Hid _ := HP
  have HHE : Hid _ := HE
  have HR1 : Hid _ := hR1
  have HB1 : Hid _ := hb1
  have HZ1 : Hid _ := hz1
  clear HR HN HP HE hR1 hb1 hz1 hcell hC hF hq hv hbd hf hD0 hb0 hne hD hr0
  go_enter Tryz.func73, Tryz.ntmps73
  go_wp2_with fail
  refine Calls.mono HHR.out ?_
  rintro e wx ⟨rfl, rfl⟩
  go_wp2_with fail
  refine Calls.mono HHN.out ?_
  rintro e wx ⟨rfl, hwx⟩
  subst hwx
  go_wp2_with fail
  refine Calls.mono HHP.out ?_
  rintro e w2 ⟨rfl, hR2, hb2⟩
  have HQ : Hid _ := HHE.out w2 (Row.below HR1.out hb2 (Row.lt HR1.out)) hR2
  have HB2 : Hid (Below w.heap.size w w2) := HB1.out.trans (hb2.mono HB1.out.size)
  have HZ2 : Hid (Row w2 w.heap.size node0 35) := Row.below HZ1.out hb2 (Row.lt HZ1.out)
  clear HHE HHP HHN HHR hR2 hb2 HB1 HZ1 HR1
  go_wp2_with fail
  refine Calls.mono HQ.out ?_
  rintro e w3 ⟨rfl, hb3⟩
  have HB3 : Hid (Below w.heap.size w w3) := HB2.out.trans (hb3.mono HB2.out.size)
  have HZ3 : Hid (Row w3 w.heap.size node0 35) := Row.below HZ2.out hb3 (Row.lt HZ2.out)
  clear HQ hb3 HB2 HZ2
  have HZ4 : Hid (∀ c, Row (w3.alloc c) w.heap.size node0 35) := fun c => Row.alloc HZ3.out c
  clear HZ3
  go_wp2_with (refine wpList_store_row rfl 35 _ _ rfl w.heap.size node0 rfl rfl 35 node0 (HZ4.out _) infoN rfl node0_one ?_)
  have HB4 : Hid (Below w.heap.size w ((w3.alloc (.cells #[.int .i64 4, .string ⟨#[105, 116, 32, 116, 101, 108, 108, 115, 32, 110, 111, 32, 116, 114, 101, 101]⟩] 157)).setRow w.heap.size node0)) := below_setRow (HB3.out.alloc HB3.out.size _) (Nat.le_refl _) _
  refine bodyPost_ret (results_cell_row3 rfl _ _ w.heap.size 35 node0 (0, 0) _ rfl (Row.setRow (HZ4.out _)) Tryz.underlying35 rfl infoN) rfl ⟨_, rfl, HB4.out⟩

set_option maxRecDepth 20000 in
set_option maxHeartbeats 2000000 in
theorem load_none {w : World} {base g1 c1 g2 c2 gd gt : Nat} {ev j : Value} {D : Dk} (hG : GH w) (hD : DiskAt w base gd g1 c1 g2 c2 ev D) (h4 : 4 < D.s) (hT : Row w gt #[.pointer (some ⟨gd, 0, none⟩), j, .pointer none] 50)
    (hne : ∀ v : Nat, (v : Int) = num (fun j => secF D.B 4 (9 + j)) 2 → eqB (secF D.B 4) (placeF v) 256 = false) :
    Calls Tryz.prog 41 #[.pointer (some ⟨gt, 0, none⟩)] w fun e w' => e = .returned (.int .i64 10) ∧ Below w.heap.size w w' := by
  have HL : Hid _ := lastTree_none hD h4 hne
  have c0 : w.cell? ⟨gt, 0, none⟩ = some (.pointer (some ⟨gd, 0, none⟩)) := (hT.cell 0).trans rfl
  have HG : Hid _ := hG
  clear hD hne hT hG
  go_enter Tryz.func41, Tryz.ntmps41
  go_wp2_with fail
  refine Calls.mono HL.out ?_
  rintro e w1 ⟨g, rfl, hb1⟩
  have HB : Hid (Below w.heap.size w (w1.alloc (.cells node0 35))) := hb1.alloc hb1.size _
  have HE : Hid _ := errnoOf_fault ⟨g, 0, none⟩ (w1.alloc (.cells node0 35)) (GH.below HG.out (hb1.alloc hb1.size _))
  clear HL hb1 c0
  go_wp2_with (refine wpList_store_new rfl 35 _ _ rfl w1 node0 node0 35 rfl w1.heap.size rfl rfl rfl infoN rfl node0_one ?_)
  refine Calls.mono HE.out ?_
  rintro e w2 ⟨rfl, hb2⟩
  have HB2 : Hid (Below w.heap.size w w2) := HB.out.trans (hb2.mono HB.out.size)
  clear HE HB hb2
  go_wp2
  go_ret
  exact ⟨rfl, HB2.out⟩

set_option maxRecDepth 20000 in
theorem topen_new {w : World} {base g1 c1 g2 c2 gd : Nat} {ev : Value} {D : Dk} (hD : DiskAt w base gd g1 c1 g2 c2 ev D) (h8 : 8 ≤ D.s) (hne : unmarked (secF D.B 0)) :
    Calls Tryz.prog 27 #[.pointer (some ⟨gd, 0, none⟩)] w fun e w' => ∃ gt gj gm, e = .returned (.tuple #[.pointer (some ⟨gt, 0, none⟩), .int .i64 0]) ∧ Row w' gt #[.pointer (some ⟨gd, 0, none⟩), .pointer (some ⟨gj, 0, none⟩), .pointer none] 50 ∧ JAt w' w.heap.size gj gm gd ⟨0, 4, []⟩ ∧ Below w.heap.size w w' := by
  have H1 := sectors_yes gd g2 D.s c2 w hD.cell1 hD.ok.lo hD.ok.hi
  have HO : Hid _ := open_new hD 0 4 (by omega) (by omega) (by omega) hne
  have n1 : ¬ (D.s : Int) = 0 := by omega
  have n2 : ¬ (D.s : Int) < 8 := by omega
  clear hD hne
  go_enter Tryz.func27, Tryz.ntmps27
  go_wp2_with fail
  refine H1.mono ?_
  rintro e w' ⟨rfl, hw'⟩
  subst w'
  go_wp2_with fail
  refine Calls.mono HO.out ?_
  rintro e w1 ⟨gj, gm, rfl, hJ, hb1⟩
  have HR : Hid _ := Row.new w1 #[.pointer (some ⟨gd, 0, none⟩), .pointer (some ⟨gj, 0, none⟩), .pointer none] 50
  have HJ : Hid _ := hJ.below ((Below.refl w1.heap.size w1).alloc (Nat.le_refl _) (.cells #[.pointer (some ⟨gd, 0, none⟩), .pointer (some ⟨gj, 0, none⟩), .pointer none] 50))
  have HB : Hid _ := hb1.alloc hb1.size (.cells #[.pointer (some ⟨gd, 0, none⟩), .pointer (some ⟨gj, 0, none⟩), .pointer none] 50)
  clear HO H1 hJ hb1
  go_wp2
  go_ret2
  exact ⟨_, gj, gm, rfl, HR.out, HJ.out, HB.out⟩

theorem topen_no (d : Value) (w : World) (h : NoDisk w d) : Calls Tryz.prog 27 #[d] w fun e w' => e = .returned (.tuple #[.pointer none, .int .i64 1]) ∧ w' = w := by
  have H := sectors_no d w h
  clear h
  go_enter Tryz.func27, Tryz.ntmps27
  go_wp2_with fail
  refine H.mono ?_
  rintro e w' ⟨rfl, rfl⟩
  go_wp2
  go_ret2
  exact ⟨rfl, rfl⟩
theorem mount_no (d : Value) (w : World) (h : NoDisk w d) : Calls Tryz.prog 15 #[d] w fun e w' => e = .returned (.tuple #[.pointer none, .int .i64 1]) ∧ w' = w := by
  have H := topen_no d w h
  clear h
  go_enter Tryz.func15, Tryz.ntmps15
  go_wp2_with fail
  refine H.mono ?_
  rintro e w' ⟨rfl, rfl⟩
  go_wp2
  go_ret2
  exact ⟨rfl, rfl⟩
theorem format_no (d : Value) (w : World) (h : NoDisk w d) : Calls Tryz.prog 9 #[d] w fun e w' => e = .returned (.tuple #[.pointer none, .int .i64 1]) ∧ w' = w := by
  have H := topen_no d w h
  clear h
  go_enter Tryz.func9, Tryz.ntmps9
  go_wp2_with fail
  refine H.mono ?_
  rintro e w' ⟨rfl, rfl⟩
  go_wp2
  go_ret2
  exact ⟨rfl, rfl⟩

set_option maxRecDepth 20000 in
theorem mount_none {w : World} {base g1 c1 g2 c2 gd : Nat} {ev : Value} {D : Dk} (hG : GH w) (hD : DiskAt w base gd g1 c1 g2 c2 ev D) (h8 : 8 ≤ D.s) (hun : unmarked (secF D.B 0))
    (hne : ∀ v : Nat, (v : Int) = num (fun j => secF D.B 4 (9 + j)) 2 → eqB (secF D.B 4) (placeF v) 256 = false) :
    Calls Tryz.prog 15 #[.pointer (some ⟨gd, 0, none⟩)] w fun e w' => e = .returned (.tuple #[.pointer none, .int .i64 10]) ∧ Below w.heap.size w w' := by
  have HO : Hid _ := topen_new hD h8 hun
  have HL : Hid (∀ w1 gt gj, Below w.heap.size w w1 → Row w1 gt #[.pointer (some ⟨gd, 0, none⟩), .pointer (some ⟨gj, 0, none⟩), .pointer none] 50 → Calls Tryz.prog 41 #[.pointer (some ⟨gt, 0, none⟩)] w1 fun e w' => e = .returned (.int .i64 10) ∧ Below w1.heap.size w1 w') :=
    fun w1 gt gj hb hT => load_none (hG.below hb) (hD.below hb (Nat.le_refl _)) (by omega) hT hne
  clear hD hne hun hG
  go_enter Tryz.func15, Tryz.ntmps15
  go_wp2_with fail
  refine Calls.mono HO.out ?_
  rintro e w1 ⟨gt, gj, gm, rfl, hT, _, hb1⟩
  have HL1 : Hid _ := HL.out w1 gt gj hb1 hT
  clear HL HO hT
  go_wp2_with fail
  refine Calls.mono HL1.out ?_
  rintro e w2 ⟨rfl, hb2⟩
  have HB : Hid (Below w.heap.size w w2) := hb1.trans (hb2.mono hb1.size)
  clear HL1 hb1 hb2
  go_wp2
  go_ret2
  exact ⟨rfl, HB.out⟩
end Go.Proofs.YtdbnnljlbfjobaaGreatDoor
