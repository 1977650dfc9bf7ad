package host

import (
	"math"

	"winnower/api"
	"winnower/cells"
)

// mostWhole is how great, on both sides, the numbers of fields may be that are
// looked at.
const mostWhole = 1 << 31

// Field tells the field of a number; that of 0 is the record.
func (h *Host) Field(n api.Cell) (api.Cell, api.Errno) {
	if !h.made() {
		return api.Cell{}, api.ErrNil
	}
	i, ok := whole(n)
	switch {
	case !ok:
		return api.Cell{}, api.ErrField
	case i != 0:
		return h.record.Field(i, h.fs)
	}
	text, err := h.recordText()
	if err != api.OK {
		return api.Cell{}, err
	}
	return cells.Look(text), api.OK
}

// SetField makes c the field of a number; that of 0 is the record.
func (h *Host) SetField(n, c api.Cell) api.Errno {
	if !h.made() {
		return api.ErrNil
	}
	i, ok := whole(n)
	switch {
	case !ok:
		return api.ErrField
	case i != 0:
		return h.record.SetField(i, c, h.fs)
	}
	text, err := h.Text(c)
	if err != api.OK {
		return err
	}
	return h.setRecord(text)
}

// recordText tells the record's text.
func (h *Host) recordText() (string, api.Errno) {
	ofs, err := h.special("OFS")
	if err != api.OK {
		return "", err
	}
	return h.record.Text(ofs, h.convfmt())
}

// setRecord sets the record to a text. FS and RS count as they are by now,
// whatever they become ahead of the record's being split.
func (h *Host) setRecord(text string) api.Errno {
	rs, err := h.special("RS")
	if err != api.OK {
		return err
	}
	fs, err := h.special("FS")
	if err != api.OK {
		return err
	}
	h.fs = fs
	return h.record.Set(text, rs == "")
}

// whole tells a cell's whole number, and whether there is one.
func whole(c api.Cell) (int, bool) {
	f := math.Trunc(cells.Num(c))
	if math.IsNaN(f) || math.Abs(f) > mostWhole {
		return 0, false
	}
	return int(f), true
}
