package host

import (
	"slices"
	"strings"

	"winnower/api"
	"winnower/cells"
	"winnower/reader"
)

// What getline may read: its kinds.
const (
	ofMain = iota + 1
	ofFile
	ofCommand
)

// noRecord is what getline answers where nothing can be opened or read.
const noRecord = -1

// stream is the kind and the name of one.
type stream struct {
	kind api.StreamKind
	name string
}

// input tells the records of a stream.
type input struct {
	reader *reader.Reader
	again  *string // a record that was read and could not be told, or none
}

// mainInput is the files that were handed in, as far as they are still to be
// read.
type mainInput struct {
	open *input // none, if no file is open
	name string // that of the file that is open
	rest []string
}

// inputOf tells the main input of some files.
func inputOf(files []string) mainInput {
	if len(files) == 0 {
		files = []string{"-"}
	}
	in := mainInput{rest: slices.Clone(files)}
	for i, name := range in.rest {
		in.rest[i] = strings.Clone(name)
	}
	return in
}

// Next sets the record to the next one of the main input, and says whether there
// is one.
func (h *Host) Next() (bool, api.Errno) {
	if !h.made() {
		return false, api.ErrNil
	}
	_, found, err := h.take(ofMain, api.Cell{}, false)
	return found, err
}

// Getline reads the next record of the main input, of a file or of a command. It
// tells 1 and the record, 0 if there is none, or -1 if it cannot be read.
func (h *Host) Getline(kind int, source api.Cell, into bool) (int, api.Cell, api.Errno) {
	switch {
	case !h.made():
		return 0, api.Cell{}, api.ErrNil
	case kind < ofMain || kind > ofCommand:
		return 0, api.Cell{}, api.ErrArg
	}
	record, found, err := h.take(kind, source, into)
	switch {
	case err == api.ErrOpen || err == api.ErrRead:
		return noRecord, api.Cell{}, api.OK
	case !found:
		return 0, api.Cell{}, err
	}
	return 1, cells.Look(record), api.OK
}

// take reads the next record by a kind of getline, counts it and, unless it goes
// into something else, sets the record to it.
func (h *Host) take(kind int, name api.Cell, into bool) (string, bool, api.Errno) {
	from, record, err := h.read(kind, name)
	if from == nil {
		return "", false, err
	}
	if !into {
		if err := h.setRecord(record); err != api.OK {
			from.giveBack(record)
			return "", false, err
		}
	}
	switch kind {
	case ofMain:
		h.count("FNR")
		fallthrough
	case ofCommand:
		h.count("NR")
	}
	return record, true, api.OK
}

// read tells the next record by a kind of getline, and where it is from: from
// nothing, if there is none.
func (h *Host) read(kind int, name api.Cell) (*input, string, api.Errno) {
	if kind == ofMain {
		return h.readMain()
	}
	text, err := h.Text(name)
	if err != api.OK {
		return nil, "", err
	}
	of := stream{api.InFile, text}
	if kind == ofCommand {
		of.kind = api.InPipe
	}
	from, err := h.reader(of)
	if err != api.OK {
		return nil, "", err
	}
	return h.readFrom(from)
}

// readMain tells the next record of the main input: of the file that is open, or
// of the first one of the rest that has any.
func (h *Host) readMain() (*input, string, api.Errno) {
	for {
		if h.main.open == nil {
			if len(h.main.rest) == 0 {
				return nil, "", api.OK
			}
			if err := h.openNext(); err != api.OK {
				return nil, "", err
			}
		}
		from, record, err := h.readFrom(h.main.open)
		if from != nil || err != api.OK {
			return from, record, err
		}
		h.main.open = nil
	}
}

// openNext opens the next file of the main input. One that cannot be opened is
// left behind, too.
func (h *Host) openNext() api.Errno {
	name := h.main.rest[0]
	h.main.name, h.main.rest = name, h.main.rest[1:]
	*h.specials["FNR"], *h.specials["FILENAME"] = cells.Number(0), cells.Text(name)
	open, err := h.open(stream{api.InFile, name})
	h.main.open = open
	return err
}

// reader tells getline's own input of a stream, which is opened, if there is
// none.
func (h *Host) reader(of stream) (*input, api.Errno) {
	if from := h.readers[of]; from != nil {
		return from, api.OK
	}
	from, err := h.open(of)
	if err == api.OK {
		h.readers[of] = from
	}
	return from, err
}

func (h *Host) open(of stream) (*input, api.Errno) {
	r, err := reader.New(h.world, of.kind, of.name)
	if err != api.OK {
		return nil, err
	}
	return &input{reader: r}, api.OK
}

// readFrom tells the next record of an input, and the input itself, if there is
// one.
func (h *Host) readFrom(from *input) (*input, string, api.Errno) {
	rs, err := h.special("RS")
	if err != api.OK {
		return nil, "", err
	}
	record, found, err := from.next(rs)
	if !found {
		return nil, "", err
	}
	return from, record, api.OK
}

func (in *input) next(rs string) (string, bool, api.Errno) {
	if in.again == nil {
		return in.reader.Next(rs)
	}
	record := *in.again
	in.again = nil
	return record, true, api.OK
}

// giveBack makes a record that could not be told the next one again: behind an
// error nothing is gone.
func (in *input) giveBack(record string) {
	in.again = &record
}

// count makes the number of a special one more.
func (h *Host) count(special string) {
	c := h.specials[special]
	*c = cells.Number(cells.Num(*c) + 1)
}

// leave lets go all readers of a name.
func (h *Host) leave(name string) {
	delete(h.readers, stream{api.InFile, name})
	delete(h.readers, stream{api.InPipe, name})
	if h.main.name == name {
		h.main.open = nil
	}
}
