package host

import (
	"testing"

	"winnower/api"
	"winnower/world"
)

// P17.1: of what is no world there is no host.
func TestNewOfNoWorld(t *testing.T) {
	made := worldOf(t, api.Script{Streams: 1})
	copied := *made
	for name, w := range map[string]*world.World{"nil": nil, "zero": {}, "copied": &copied} {
		for _, files := range [][]string{nil, {}, {"f"}, {"-", "f"}} {
			if h, err := New(w, files); h != nil || err != api.ErrNil {
				t.Errorf("New of the world %s, %q = %v, %d", name, files, h, err)
			}
		}
	}
	traced(t, made)
}

// P17.1: of a world there is one, whatever the files are, and nothing is done.
func TestNew(t *testing.T) {
	for _, files := range [][]string{nil, {}, {"f"}, {"-"}, {""}, {"f", "f"}, {"missing", "-", "f"}} {
		for streams := range 3 {
			h, w := hostOf(t, api.Script{Files: []api.Content{{Name: "f", Data: "x"}}, Stdin: "y", Fails: []api.Fail{{Op: 1, Name: "f"}}, Streams: streams}, files...)
			traced(t, w)
			wasSplit(t, h, 0)
			recordIs(t, h, "")
			fieldsAre(t, h)
		}
	}
}

// P17.1: a host shares the world that it was handed, with other hosts, too.
func TestSharedWorld(t *testing.T) {
	h, w := hostOf(t, api.Script{Stdin: "x\ny\n", Streams: 2})
	other, err := New(w, nil)
	if err != api.OK {
		t.Fatal(err)
	}
	goesOn(t, h, "x")
	isOver(t, other)
	are(t, other, "NR", 0)
	prints(t, other, 1, str("f"), false, str("z"))
	if s, ok := w.File("f"); s != "z\n" || !ok {
		t.Error(s, ok)
	}
	sets(t, other, "FS", str(":"))
	is(t, h, "FS", str(" "))
	traced(t, w, opened(api.InFile, "-"), opened(api.OutFile, "f"), wrote(api.OutFile, "f", "z\n"))
}

// P17.1: how often the record was split, whoever asked for it.
func TestSplits(t *testing.T) {
	h := handed(t, "a b\nc d\ne f\ng h\ni j\nk l\nm n\n")
	next := func(want int) {
		t.Helper()
		wasSplit(t, h, want)
		if ok, err := h.Next(); !ok || err != api.OK {
			t.Error(err)
		}
		wasSplit(t, h, want)
	}
	next(0)
	h.Field(num(0))
	h.Call("length", nil)
	prints(t, h, 0, none(), false)
	wasSplit(t, h, 0)
	isField(t, h, num(1), str("a"))
	isField(t, h, num(2), str("b"))
	are(t, h, "NF", 2)
	next(1)
	are(t, h, "NF", 2)
	next(2)
	sets(t, h, "NF", num(1))
	next(3)
	setsField(t, h, num(1), str("x"))
	next(4)
	setsNot(t, h, "NF", nan(), api.ErrField)
	setsNot(t, h, "NF", num(-1), api.ErrField)
	isNoField(t, h, nan(), api.ErrField)
	setsNoField(t, h, num(mostFields+1), str("x"), api.ErrField)
	next(4)
	setsField(t, h, num(0), str("p q"))
	wasSplit(t, h, 4)
	are(t, h, "NF", 2)
	wasSplit(t, h, 5)
	// Split is of no record.
	splits(t, h, str("a b"), nil, "a", "b")
	next(5)
	reads(t, h, 1, none(), true, 0, none())
	fieldsAre(t, h, "m", "n")
	wasSplit(t, h, 6)
}

// P17.1: a record whose fields by its FS are none is not split.
func TestNotSplit(t *testing.T) {
	h := recordOf(t, "a b", noPattern)
	isNot(t, h, "NF", api.ErrPattern)
	isNoField(t, h, num(1), api.ErrPattern)
	setsNot(t, h, "NF", num(1), api.ErrPattern)
	setsNoField(t, h, num(1), str("x"), api.ErrPattern)
	wasSplit(t, h, 0)
	recordIs(t, h, "a b")
}

// P17.1: End closes all that is open, and may be asked again.
func TestEnd(t *testing.T) {
	s := api.Script{Stdin: "x\n", Replies: []api.Reply{{Command: "c", Output: "y\n", Status: 3}}, Streams: 8}
	h, w := hostOf(t, s)
	h.End()
	traced(t, w)
	goesOn(t, h, "x")
	prints(t, h, 3, str("c"), false, str("z"))
	reads(t, h, 3, str("c"), true, 1, str("y"))
	prints(t, h, 1, str("f"), false, str("z"))
	if n := w.Streams(); n != 4 {
		t.Error(n)
	}
	h.End()
	if n := w.Streams(); n != 0 {
		t.Error(n)
	}
	h.End()
	traced(t, w, opened(api.InFile, "-"), opened(api.OutPipe, "c"), wrote(api.OutPipe, "c", "z\n"), opened(api.InPipe, "c"), opened(api.OutFile, "f"), wrote(api.OutFile, "f", "z\n"), closed(api.InFile, "-", 0), closed(api.InPipe, "c", 3), closed(api.OutPipe, "c", 3), closed(api.OutFile, "f", 0))
	// What is written behind it opens its stream anew.
	prints(t, h, 2, str("f"), false, str("w"))
	if s, _ := w.File("f"); s != "z\nw\n" {
		t.Errorf("%q", s)
	}
}
