package host

import (
	"winnower/api"
	"winnower/cells"
	"winnower/printf"
)

// toCommand is the last one of the kinds of print: what is ahead of it goes to
// Stdout (0), a file (1), a file's end (2).
const toCommand = 3

// Print writes some cells, or the record, as a line, or as a format has it.
func (h *Host) Print(kind int, dest api.Cell, args []api.Cell, format bool) api.Errno {
	switch {
	case !h.made():
		return api.ErrNil
	case kind < 0 || kind > toCommand || format && len(args) == 0:
		return api.ErrArg
	}
	to, err := h.target(kind, dest)
	if err != api.OK {
		return err
	}
	tell := h.line
	if format {
		tell = h.formatted
	}
	data, err := tell(args)
	if err != api.OK {
		return err
	}
	if to.kind != api.Stdout {
		if err := h.world.Open(to.kind, to.name); err != api.OK {
			return err
		}
	}
	return h.world.Write(to.kind, to.name, data)
}

// target tells the stream that a kind of print writes to.
func (h *Host) target(kind int, dest api.Cell) (stream, api.Errno) {
	if kind == 0 {
		return stream{kind: api.Stdout}, api.OK
	}
	name, err := h.Text(dest)
	kinds := [...]api.StreamKind{api.OutFile, api.OutAppend, api.OutPipe}
	return stream{kinds[kind-1], name}, err
}

// line tells what is written of some cells, or of the record, without a format.
func (h *Host) line(args []api.Cell) (string, api.Errno) {
	var texts []string
	gather := func(text string, err api.Errno) api.Errno {
		texts = append(texts, text)
		return err
	}
	if len(args) == 0 {
		if err := gather(h.recordText()); err != api.OK {
			return "", err
		}
	}
	for _, c := range args {
		if err := gather(h.printed(c)); err != api.OK {
			return "", err
		}
	}
	text, err := h.joined(texts, "OFS")
	if err != api.OK {
		return "", err
	}
	end, err := h.special("ORS")
	if err != api.OK {
		return "", err
	}
	return text + end, api.OK
}

// printed tells a cell's text as print has it.
func (h *Host) printed(c api.Cell) (string, api.Errno) {
	if c.Kind != api.Num {
		return h.Text(c)
	}
	ofmt, err := h.special("OFMT")
	if err != api.OK {
		return "", err
	}
	return cells.String(c, ofmt)
}

// formatted tells what the first one of some cells, a format, makes of the others.
func (h *Host) formatted(args []api.Cell) (string, api.Errno) {
	format, err := h.Text(args[0])
	if err != api.OK {
		return "", err
	}
	return printf.Format(format, args[1:], h.convfmt())
}
