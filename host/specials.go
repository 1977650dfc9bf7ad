package host

import (
	"strings"

	"winnower/api"
	"winnower/cells"
	"winnower/resolve"
)

// What some specials are at first.
const (
	blank    = " "
	lineEnd  = "\n"
	keysPart = "\x1c"
	usual    = "%.6g"
)

// specialsAtFirst tells the specials' cells, but for NF, as a host begins.
func specialsAtFirst() map[string]*api.Cell {
	all := map[string]*api.Cell{"FILENAME": {}}
	put := func(c api.Cell, names ...string) {
		for _, name := range names {
			at := c
			all[name] = &at
		}
	}
	put(cells.Number(0), "NR", "FNR", "RSTART")
	put(cells.Number(-1), "RLENGTH")
	put(cells.Text(blank), "FS", "OFS")
	put(cells.Text(lineEnd), "ORS", "RS")
	put(cells.Text(keysPart), "SUBSEP")
	put(cells.Text(usual), "CONVFMT", "OFMT")
	return all
}

// Get tells a special's cell.
func (h *Host) Get(name string) (api.Cell, api.Errno) {
	switch {
	case !h.made():
		return api.Cell{}, api.ErrNil
	case !resolve.Special(name):
		return api.Cell{}, api.ErrArg
	case name == "NF":
		n, err := h.record.NF(h.fs)
		if err != api.OK {
			return api.Cell{}, err
		}
		return cells.Number(float64(n)), api.OK
	}
	return own(*h.specials[name]), api.OK
}

// Set makes c a special's cell, as it is; of NF its number counts.
func (h *Host) Set(name string, c api.Cell) api.Errno {
	switch {
	case !h.made():
		return api.ErrNil
	case !resolve.Special(name):
		return api.ErrArg
	case name == "NF":
		n, ok := whole(c)
		if !ok {
			return api.ErrField
		}
		return h.record.SetNF(n, h.fs)
	}
	*h.specials[name] = own(c)
	return api.OK
}

// Text tells a cell's text.
func (h *Host) Text(c api.Cell) (string, api.Errno) {
	if !h.made() {
		return "", api.ErrNil
	}
	return cells.String(c, h.convfmt())
}

// Key tells the key of some cells: their texts, with SUBSEP's between each two.
func (h *Host) Key(l []api.Cell) (string, api.Errno) {
	if !h.made() {
		return "", api.ErrNil
	}
	texts, err := h.texts(l)
	if err != api.OK {
		return "", err
	}
	return h.joined(texts, "SUBSEP")
}

// convfmt tells CONVFMT's text. It has one always: of a number it is told by the
// format that CONVFMT is at first.
func (h *Host) convfmt() string {
	text, _ := cells.String(*h.specials["CONVFMT"], usual)
	return text
}

// special tells the text of a special, but for CONVFMT and NF.
func (h *Host) special(name string) (string, api.Errno) {
	return cells.String(*h.specials[name], h.convfmt())
}

// texts tells the texts of some cells.
func (h *Host) texts(l []api.Cell) ([]string, api.Errno) {
	texts := make([]string, len(l))
	for i, c := range l {
		text, err := h.Text(c)
		if err != api.OK {
			return nil, err
		}
		texts[i] = text
	}
	return texts, api.OK
}

// joined tells some texts, with a special's text between each two. If there are
// no two, that is not asked for.
func (h *Host) joined(texts []string, special string) (string, api.Errno) {
	if len(texts) < 2 {
		return strings.Join(texts, ""), api.OK
	}
	between, err := h.special(special)
	if err != api.OK {
		return "", err
	}
	return strings.Join(texts, between), api.OK
}
