package host

import (
	"slices"
	"strings"
	"testing"

	"winnower/api"
	"winnower/fields"
)

// P17.8: Split by no, one and more fs.
func TestSplit(t *testing.T) {
	h := handed(t, "")
	splits(t, h, str(" a  b\nc "), nil, "a", "b", "c")
	splits(t, h, str("a b"), nothing, "a", "b")
	splits(t, h, str("a b"), []api.Cell{}, "a", "b")
	splits(t, h, str("a:b::c"), list(str(":")), "a", "b", "", "c")
	splits(t, h, str("a:b c"), list(str(":"), str(" "), half()), "a", "b c")
	splits(t, h, str("a b"), list(str(" ")), "a", "b")
	splits(t, h, str("abc"), list(str("")), "a", "b", "c")
	splits(t, h, str("abc"), list(none()), "a", "b", "c")
	splits(t, h, str("a1b22c"), list(str("[0-9]+")), "a", "b", "c")
	splits(t, h, str("a12b"), list(num(12)), "a", "b")
	splits(t, h, str("0x5"), list(half()), "", "")
	splits(t, h, str("x"), list(strNum("12", 12)), "x")
	splits(t, h, num(12.5), list(str(".")), "12", "5")
	splits(t, h, none(), list(str(":")))
	splits(t, h, str(""), list(str("x+")))
	splits(t, h, str(" \n\t"), nil)
	// Patterns of no bytes part nothing.
	splits(t, h, str("abc"), list(str("x*")), "abc")
	splits(t, h, str("axxbxc"), list(str("x*")), "a", "b", "c")
	splits(t, h, str("abc"), list(str("()")), "abc")
	wasSplit(t, h, 0)
	are(t, h, "NF", 0, "RSTART", 0)
}

// P17.8: without fs by FS as it is, not as it was when the record was set.
func TestSplitByFS(t *testing.T) {
	h := recordOf(t, "x y", ":")
	splits(t, h, str("a b:c"), nil, "a b", "c")
	sets(t, h, "FS", str(" "))
	splits(t, h, str("a b:c"), nil, "a", "b:c")
	are(t, h, "NF", 1)
	sets(t, h, "FS", none())
	splits(t, h, str("ab"), nil, "a", "b")
	sets(t, h, "FS", num(7))
	splits(t, h, str("a7b"), nil, "a", "b")
	sets(t, h, "FS", half())
	splits(t, h, str("a0.5b"), nil, "a", "b")
	sets(t, h, "CONVFMT", str(wrong))
	splitsNot(t, h, str("a"), nil, api.ErrFormat)
	splits(t, h, str("a:b"), list(str(":")), "a", "b")
	sets(t, h, "FS", str(noPattern))
	splitsNot(t, h, str("a"), nil, api.ErrPattern)
	splits(t, h, str("a:b"), list(str(":")), "a", "b")
}

// P17.8: without lines, whatever RS is.
func TestSplitWithoutLines(t *testing.T) {
	h := handed(t, "")
	sets(t, h, "RS", str(""))
	sets(t, h, "FS", str(":"))
	splits(t, h, str("a:b\nc"), nil, "a", "b\nc")
	splits(t, h, str("a:b\nc"), list(str("::*")), "a", "b\nc")
	splits(t, h, str("a:b\nc"), list(str(" ")), "a:b", "c")
}

// P17.8: what has no text, what is no pattern, what is too much.
func TestSplitFails(t *testing.T) {
	h := handed(t, "")
	splitsNot(t, h, str("x"), list(str(noPattern)), api.ErrPattern)
	splitsNot(t, h, none(), list(str("**")), api.ErrPattern)
	splitsNot(t, h, str("x"), list(str("((a{255}){255})")), api.ErrLong)
	splitsNot(t, h, str(strings.Repeat(":", mostFields)), list(str(":")), api.ErrFull)
	if l, err := h.Split(str(strings.Repeat(":", mostFields-1)), list(str(":"))); len(l) != mostFields || err != api.OK {
		t.Error(len(l), err)
	}
	sets(t, h, "CONVFMT", str(wrong))
	splitsNot(t, h, half(), nil, api.ErrFormat)
	splitsNot(t, h, half(), list(str(noPattern)), api.ErrFormat)
	splitsNot(t, h, str("x"), list(half()), api.ErrFormat)
	splitsNot(t, h, str("x"), list(half(), str(":")), api.ErrFormat)
	splits(t, h, str("x:y"), list(str(":"), half()), "x", "y")
	sets(t, h, "CONVFMT", str("%*d"+strings.Repeat("%4096d", 256)))
	splitsNot(t, h, num(5000.5), list(half()), api.ErrFormat)
	splitsNot(t, h, half(), list(num(5000.5)), api.ErrLong)
}

// P17.8: as fields has it, by each FS.
func TestSplitAsFields(t *testing.T) {
	h := handed(t, "")
	for _, s := range []string{"", "a", "a b:c\nd", " : ", "::", "aXXbXc", "12 13", "\n\n", "a\x00b\xffc"} {
		for _, fs := range []string{"", " ", ":", "\n", "X", "X+", "X*", "[ :]", "^a", "c$", "\x00", "\xff|\x00"} {
			want, err := fields.Split(s, fs, false)
			if err != api.OK {
				t.Fatal(err)
			}
			splits(t, h, str(s), list(str(fs)), want...)
			sets(t, h, "FS", str(fs))
			splits(t, h, str(s), nil, want...)
			l, _ := h.Split(str(s), nil)
			again, _ := h.Split(str(s), nil)
			for i := range l {
				l[i] = "turned"
			}
			if !slices.Equal(again, want) {
				t.Error("lists of answers share memory")
			}
		}
	}
}
