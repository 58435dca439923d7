/- My own work: the walks of scan.Bytes and of the document's own Node. -/
import Derived.Test.YtpkbfljoakodoaaDoorRFind
import Derived.Test.YtpkbfljoakodoaaDoorRefRight
namespace Go.Proofs.YtpkbfljoakodoaaDoor
open Go.RowKit Go.Sort
open S2 (bl bl_len bl_inj splitB Tab NTab)

/-- What scan tells: a row of its own with the paths, rising, each once. -/
def FoundPost (w : World) (ts ps : List ByteArray) (e : Ending) (w' : World) : Prop :=
  ∃ v, e = .returned v ∧ w'.ownsRow w.heap.size 9 1 v (uniq ((foundP ts ps).map bl)).length ((uniq ((foundP ts ps).map bl)).map encStr) ∧ Below w.heap.size w w'
set_option maxRecDepth 20000 in
set_option maxHeartbeats 2000000 in
/-- scan.Bytes: the paths whose signs occur in bytes. -/
theorem sbytes_ok (da : Option Addr) (d : ByteArray) (dc : Nat) (a : Option Addr) (ps : List ByteArray) (c : Nat) (w : World) (hD : BytesAt w da d dc) (hP : StrsAt w a ps c) (hT : Tab w) (hNT : NTab w) :
    Calls Tryd.prog 11 #[.slice da d.size dc, .slice a ps.length c] w (FoundPost w [d] ps) := by
  have hsg := signsOf_ok a ps c w hP hT hNT
  have HD : Hid (BytesAt w da d dc) := hD
  have HP : Hid (StrsAt w a ps c) := hP
  have HT : Hid (Tab w) := hT
  have HNT : Hid (NTab w) := hNT
  have HBG : Hid (d.size ≤ big) := hD.len
  clear hD hP hT hNT
  go_enter Tryd.func11, Tryd.ntmps11
  go_wp2_with (first
    | (go_at_call 22; refine hsg.mono ?_; rintro e w1 ⟨rfl, ⟨D1, hS1⟩, hb1⟩
       have HB1 : Hid (Below w.heap.size w w1) := hb1
       have hcv := conv_bytesS w1 da d dc (HD.out.keep hb1)
       have hst := strike_ok w.heap.size ps.length _ D1 d w1 hS1 HBG.out
       clear hsg hS1 hb1)
    | (go_at_call 23; refine hst.mono ?_; rintro e w2 ⟨⟨r, rfl⟩, ⟨D2, hS2⟩, ht2⟩
       have hb2 := below_map HB1.out ht2.grown (Nat.le_refl _)
       have HB2 : Hid (Below w.heap.size w w2) := hb2
       have hS3 : SetAt w2 w.heap.size ps.length (left ps [d]) D2 := hS2.cong (fun k => by unfold left; simp)
       have hfo := found_ok a ps c w.heap.size ps.length _ D2 w2 (HP.out.keep hb2) hS3 (HT.out.below hb2 HT.out.pos) (S2.NTab.keep HNT.out hb2)
       rw [hits_left] at hfo
       clear hst hS2 hS3 ht2 hb2 hcv)
    | (go_at_call 24; refine hfo.mono ?_; rintro e w3 ⟨v3, rfl, hO3, hb3⟩
       have HO3 : Hid (FoundPost w [d] ps (.returned v3) w3) := ⟨v3, rfl, own_base hO3 HB2.out.size, HB2.out.trans (hb3.mono HB2.out.size)⟩
       clear hfo hO3 hb3))
  go_ret
  exact HO3.out
theorem found_of_st {w w' : World} {ts ps : List ByteArray} {v : Value} (h : FSt w ts ps ps.length v w') : FoundPost w ts ps (.returned v) w' := by
  obtain ⟨O, h1, h2, h3, h4, h5⟩ := h
  rw [List.take_length] at h3
  have e := riseB_uniq h2 h3
  refine ⟨v, rfl, ?_, h5⟩
  rw [← e, enc_bl, List.length_map]
  exact h1
set_option maxRecDepth 20000 in
set_option maxHeartbeats 2000000 in
/-- The document's own Node. -/
theorem rnode10_ok (n : Nd) (a : Option Addr) (ps : List ByteArray) (c : Nat) (w : World) (C : Array Value) (h : NodeAt w n C) (h6 : n.count ≤ 16000) (hP : StrsAt w a ps c) :
    Calls Tryd.prog 10 #[.agg C, .slice a ps.length c] w (FoundPost w (textsOf n) ps) := by
  have hb0 : Below w.heap.size w (w.alloc (.cells C 26)) := (Below.refl _ _).alloc (Nat.le_refl _) _
  have HR : Hid (Row (w.alloc (.cells C 26)) w.heap.size C 26) := Row.new w _ _
  have hri := rright_ok n _ C (h.keep hb0) h6
  have HN : Hid (NodeAt w n C) := h
  have HB : Hid _ := hb0
  have HP : Hid (StrsAt w a ps c) := hP
  have hsi : (Tryd.prog.info? 26).map (·.size) = some C.size := by rw [infoN, h.size]
  clear h hb0 hP
  go_enter Tryd.func10, Tryd.ntmps10
  generalize hwB : w.alloc (.cells C 26) = wB at *
  by_cases hr : rightE n = 0
  · obtain ⟨hE, hct⟩ := right_each hr
    have hT : textsOf n = n.texts := by unfold textsOf; rw [if_pos hr]
    have hbg := texts_big HN.out
    have hln := texts_len n
    rw [hr] at hri
    have HX : Hid (∀ t ∈ n.texts, t.size ≤ big) := hbg
    have HE : Hid (eachE n = 0) := hE
    have HC2 : Hid (n.texts.length * 16 ≤ 140737488355328) := by show _ ≤ _; omega
    rw [hT]
    clear hr hE hct hT hbg hln
    go_wp2_with (first
      | (refine wpList_load_row rfl 26 _ rfl w.heap.size rfl 26 C (0, 0) _ HR.out Tryd.underlying26 rfl hsi ?_)
      | (go_at_call 13; refine hri.mono ?_; rintro e w1 ⟨rfl, hb1⟩
         have hB1 : Below w.heap.size w w1 := HB.out.trans (hb1.mono HB.out.size)
         have HB1 : Hid (Below w.heap.size w w1) := hB1
         have HR1 : Hid (Row w1 w.heap.size C 26) := Row.below HR.out hb1 (Row.lt HR.out)
         have hrt := rtexts_ok n HE.out HC2.out C w1 (HN.out.keep hB1)
         clear hri hb1 hB1)
      | (refine wpList_load_row rfl 26 _ rfl w.heap.size rfl 26 C (0, 0) _ HR1.out Tryd.underlying26 rfl hsi ?_)
      | (go_at_call 14; refine hrt.mono ?_; rintro e w2 ⟨v2, rfl, hO2, hb2⟩
         have hB2 : Below w.heap.size w w2 := HB1.out.trans (hb2.mono HB1.out.size)
         have HB2 : Hid (Below w.heap.size w w2) := hB2
         have hfi := rfind_ok v2 n.texts a ps c w2 (TsAt.of_own hO2) HX.out (HP.out.keep hB2)
         clear hrt hO2 hb2 hB2)
      | (go_at_call 12; refine hfi.mono ?_; rintro e w3 ⟨v3, rfl, hF3⟩
         have HF3 : Hid (FoundPost w n.texts ps (.returned v3) w3) := (by
           obtain ⟨v, e, h1, h2⟩ := found_of_st hF3
           cases e
           exact ⟨_, rfl, own_base h1 HB2.out.size, HB2.out.trans (h2.mono HB2.out.size)⟩)
         clear hfi hF3))
    go_ret
    exact HF3.out
  · obtain ⟨r, hrr⟩ : ∃ r, r = rightE n := ⟨_, rfl⟩
    have hT : textsOf n = [] := by unfold textsOf; rw [if_neg hr]
    rw [← hrr] at hri hr
    rw [hT]
    have hr0 : decide (r = 0) = false := decide_eq_false hr
    have hr1 : (r == 0) = false := by simpa using hr
    clear hT hrr
    go_wp2_with (first
      | (refine wpList_load_row rfl 26 _ rfl w.heap.size rfl 26 C (0, 0) _ HR.out Tryd.underlying26 rfl hsi ?_)
      | (go_at_call 13; refine hri.mono ?_; rintro e w1 ⟨rfl, hb1⟩
         have HB1 : Hid (Below w.heap.size w w1) := HB.out.trans (hb1.mono HB.out.size)
         clear hri hb1))
    go_ret
    refine ⟨_, rfl, ?_, HB1.out⟩
    have e0 : uniq ((foundP [] ps).map bl) = [] := by
      cases hu : uniq ((foundP [] ps).map bl) with
      | nil => rfl
      | cons x l =>
        have hm : x ∈ uniq ((foundP [] ps).map bl) := by rw [hu]; exact List.mem_cons_self
        rw [mem_uniq] at hm
        obtain ⟨y, hy, _⟩ := List.mem_map.1 hm
        have h2 := (List.mem_filter.1 hy).2
        simp at h2
    rw [e0]
    exact World.ownsRow_nil ..
end Go.Proofs.YtpkbfljoakodoaaDoor
