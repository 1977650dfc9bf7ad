package host

import (
	"math"

	"winnower/api"
	"winnower/cells"
	"winnower/fields"
	"winnower/octets"
)

// mostPlace is how great, on both sides, the places of substr are that count.
const mostPlace = 1e12

// lowBits are those of a number of chance that rand leaves out.
const lowBits = 1<<11 - 1

// failed is the status of what could not be closed or run.
const failed = -1

// Call tells what a builtin makes of its arguments.
func (h *Host) Call(name string, args []api.Cell) (api.Cell, api.Errno) {
	switch {
	case !h.made():
		return api.Cell{}, api.ErrNil
	case !mayCall(name, len(args)):
		return api.Cell{}, api.ErrArg
	}
	switch name {
	case "int", "srand", "rand":
		return cells.Number(h.number(name, args)), api.OK
	case "length":
		return h.length(args)
	case "sprintf":
		return textCell(h.formatted(args))
	}
	texts, err := h.texts(args[:textsOf(name)])
	if err != api.OK {
		return api.Cell{}, err
	}
	switch name {
	case "index":
		return intCell(octets.Index(texts[0], texts[1])), api.OK
	case "match":
		return h.find(texts[0], texts[1])
	case "substr":
		return cells.Text(part(texts[0], args[1:])), api.OK
	case "tolower":
		return cells.Text(octets.Lower(texts[0])), api.OK
	case "toupper":
		return cells.Text(octets.Upper(texts[0])), api.OK
	case "close":
		return intCell(h.close(texts[0])), api.OK
	}
	return intCell(h.system(texts[0])), api.OK
}

// mayCall says whether a name is that of a builtin that Call does, and may have
// so many arguments.
func mayCall(name string, n int) bool {
	switch name {
	case "rand":
		return n == 0
	case "length", "srand":
		return n <= 1
	case "int", "tolower", "toupper", "close", "system":
		return n == 1
	case "index", "match":
		return n == 2
	case "substr":
		return n == 2 || n == 3
	case "sprintf":
		return n >= 1
	}
	return false
}

// textsOf tells how many of a builtin's arguments count by their texts.
func textsOf(name string) int {
	if name == "index" || name == "match" {
		return 2
	}
	return 1
}

// Split tells the parts of a cell's text, by fs, or by FS, if there is none.
func (h *Host) Split(s api.Cell, fs []api.Cell) ([]string, api.Errno) {
	if !h.made() {
		return nil, api.ErrNil
	}
	text, err := h.Text(s)
	if err != api.OK {
		return nil, err
	}
	by, err := h.parting(fs)
	if err != api.OK {
		return nil, err
	}
	return fields.Split(text, by, false)
}

// parting tells the text by which Split parts.
func (h *Host) parting(fs []api.Cell) (string, api.Errno) {
	if len(fs) == 0 {
		return h.special("FS")
	}
	return h.Text(fs[0])
}

// number tells what the builtins answer that ask for no text.
func (h *Host) number(name string, args []api.Cell) float64 {
	switch name {
	case "int":
		// A nought without its sign.
		return math.Trunc(cells.Num(args[0])) + 0
	case "srand":
		ahead := h.seed
		h.seed = float64(h.world.Clock())
		if len(args) > 0 {
			h.seed = cells.Num(args[0])
		}
		return ahead
	}
	return float64(h.world.Chance()&^lowBits) / (1 << 64)
}

// length tells how many bytes an argument has, or the record, if there is none.
func (h *Host) length(args []api.Cell) (api.Cell, api.Errno) {
	tell := h.recordText
	if len(args) > 0 {
		tell = func() (string, api.Errno) { return h.Text(args[0]) }
	}
	text, err := tell()
	if err != api.OK {
		return api.Cell{}, err
	}
	return intCell(len(text)), api.OK
}

// find tells where a pattern stands in a text, and notes that and how long it is
// there.
func (h *Host) find(text, pattern string) (api.Cell, api.Errno) {
	m, err := h.matcher(pattern)
	if err != api.OK {
		return api.Cell{}, err
	}
	at, n, found := m.Find(text, 0)
	if !found {
		at, n = -1, -1
	}
	*h.specials["RSTART"], *h.specials["RLENGTH"] = intCell(at+1), intCell(n)
	return intCell(at + 1), api.OK
}

// part tells the bytes of a text from a place on, and as many as they are told to
// be, or all.
func part(text string, places []api.Cell) string {
	for _, c := range places {
		if math.IsNaN(cells.Num(c)) {
			return ""
		}
	}
	from, to := place(places[0]), int64(mostPlace)
	if len(places) > 1 {
		to = from + place(places[1])
	}
	// A place beyond the text may be none of an int; one right at its end does as
	// well.
	bound := func(at int64) int { return int(max(1, min(at, int64(len(text))+1))) }
	return octets.Cut(text, bound(from), bound(to)-bound(from))
}

// place tells the whole number that lies nearest to a cell's number, of two the
// greater one.
func place(c api.Cell) int64 {
	f := max(-mostPlace, min(cells.Num(c), mostPlace))
	below := math.Floor(f)
	// A half that is put to f may be rounded up to a whole number.
	if f-below >= 0.5 {
		below++
	}
	return int64(below)
}

// close closes all streams of a name, and tells the status of the last one.
func (h *Host) close(name string) int {
	status, closed := h.world.Close(name)
	h.leave(name)
	if !closed {
		return failed
	}
	return status
}

// system tells the status of a command.
func (h *Host) system(command string) int {
	status, err := h.world.System(command)
	if err != api.OK {
		return failed
	}
	return status
}

func intCell(n int) api.Cell {
	return cells.Number(float64(n))
}

// textCell makes a cell of a text, unless there is an error in its place.
func textCell(text string, err api.Errno) (api.Cell, api.Errno) {
	if err != api.OK {
		return api.Cell{}, err
	}
	return cells.Text(text), api.OK
}
