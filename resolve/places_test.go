package resolve

import (
	"strings"
	"testing"

	"winnower/api"
)

// place is a source with an @ where something may stand, and in which line that
// would be at fault.
type place struct {
	line int
	text string
}

func (p place) with(s string) string {
	return strings.ReplaceAll(p.text, "@", s)
}

// exprPlaces are all places at which an expression in parentheses may stand and is
// a value. Of all other names there is nothing that could be at fault.
func exprPlaces() []place {
	places := []place{
		{1, "@"}, {1, "@ { }"}, {1, "@, v_"}, {1, "v_, @"}, {1, "v_, @ { v_ }"}, {1, "v_,\n@ {\nv_ }"}, {2, "v_\n@"},
		{1, "{ @ }"}, {2, "{\n@ }"}, {2, "BEGIN {\n@ }"}, {2, "END {\n@ }"},
		{2, "function f_() {\n@ }"}, {2, "function f_(p_) {\nreturn @ }"},
		{2, "{\nprint @ }"}, {2, "{\nprint v_,\n@ }"}, {2, "{\nprint v_ > @ }"}, {2, "{\nprint > @ }"}, {2, "{\nprint v_ >> @ }"}, {2, "{\nprint v_ | @ }"},
		{2, "{\nprintf @ }"}, {2, "{\nprintf v_, @ }"}, {2, "{\nprintf v_ | @ }"},
		{2, "{\nif @\nv_ }"}, {3, "{\nif (v_)\n@ }"}, {3, "{\nif (v_) {\n@ } }"}, {4, "{\nif (v_) v_\nelse\n@ }"},
		{2, "{\nwhile @\nv_ }"}, {3, "{\nwhile (v_)\n@ }"},
		{2, "{\ndo\nv_\nwhile @ }"}, {3, "{\ndo\n@\nwhile (v_) }"},
		{2, "{\nfor (@; ;)\nv_ }"}, {2, "{\nfor (; @;)\nv_ }"}, {2, "{\nfor (; ; @)\nv_ }"}, {2, "{\nfor (;\n@;\n)\nv_ }"}, {3, "{\nfor (; ;)\n@ }"},
		{4, "{\nfor (;\n;\n@)\nv_ }"},
		{3, "{\nfor (v_ in t_)\n@ }"},
		{2, "{\nexit @ }"}, {2, "{\ndelete t_[@] }"}, {2, "{\ndelete t_[v_,\n@] }"}, {4, "{\n{\n\n@ } }"},
	}
	for _, kid := range []string{
		"t_[@]", "t_[v_, @]", "$@", "v_ = @", "v_ += @", "t_[@] = v_", "$@ = v_", "@ ? v_ : v_", "v_ ? @ : v_", "v_ ? v_ : @",
		"@ || v_", "v_ || @", "@ && v_", "v_ && @", "! @", "- @", "+ @", "@ in t_", "(@, v_) in t_", "(v_, @) in t_", "@ ~ v_", "v_ !~ @", "(@ < v_)", "v_ >= @",
		"@ v_", "v_ @", "@ + v_", "v_ ^ @", "++t_[@]", "--$@", "t_[@]++", "$@--", "getline t_[@]", "getline $@", "getline < @", "getline v_ < @", "getline $v_ < @", "@ | getline", "@ | getline v_", "v_ | getline $@",
		"g_(@ 1)", "g_(v_, @ 1)", "length(@ 1)", "substr(@, 1)", "substr(1, @)", "substr(1, 2, @)", "index(1, @)", "split(@, t_)", "split(1, t_, @)", "sub(@, 1)", "sub(1, @)", "gsub(1, 2, $@)", "gsub(1, 2, t_[@])",
		"match(@, 1)", "sprintf(@)", "sprintf(1, 2, 3, @)", "tolower(@)", "int(@)", "srand(@)", "close(@)", "system(@)", "- ! v_ + 2 * t_[v_, $(v_ @)]",
	} {
		for _, around := range []place{{2, "{\n% }"}, {1, "% { }"}, {3, "{\nif (v_)\n% }"}, {2, "{\nprint v_, (%) }"}} {
			places = append(places, place{around.line, strings.ReplaceAll(around.text, "%", kid)})
		}
	}
	for i := range places {
		places[i].text += "\nfunction g_(p_, q_) { } function i_(p_, q_) { }"
	}
	return places
}

// stmtPlace is a place of a statement, and what may stand there.
type stmtPlace struct {
	place
	loop, rule, function bool
}

func stmtPlaces() []stmtPlace {
	items := []struct {
		text           string
		rule, function bool
	}{
		{"BEGIN {\n@ }", false, false}, {"END {\n@ }", false, false}, {"{\n@ }", true, false}, {"v_ {\n@ }", true, false}, {"v_, v_ {\n@ }", true, false},
		{"function f_() {\n@ }", false, true}, {"function f_(p_) {\n@ }\n{ f_(v_) }", false, true},
		{"{ while (v_) f_() } function f_() {\n@ }", false, true}, {"function f_() {\n@ } { do { f_() } while (f_()) }", false, true},
		{"{ while (v_) break }\nBEGIN {\n@ }", false, false}, {"{ next } function f_() { return }\nEND {\n@ }", false, false},
	}
	bodies := []struct {
		line int
		text string
		loop bool
	}{
		{1, "@", false}, {2, "v_\n@\nv_", false}, {3, "{\n\n@ }", false}, {2, "if (v_)\n@", false}, {3, "if (v_) {\n\n@ }", false}, {4, "if (v_)\nv_; else\n\n@", false}, {2, "if (v_) v_; else {\n@ }", false},
		{2, "while (v_)\n@", true}, {2, "while (v_) {\n@ }", true}, {2, "do\n@\nwhile (v_)", true}, {2, "for (v_; v_; v_)\n@", true}, {2, "for (; ;) {\n@ }", true}, {2, "for (v_ in t_)\n@", true},
		{3, "while (v_) {\n{\n@ } }", true}, {3, "do { if (v_)\n\n@\n} while (v_)", true}, {2, "for (; ;) if (v_) v_; else {\n@ }", true}, {3, "for (v_ in t_) {\nif (v_) { v_; {\n@ } } }", true},
		{2, "while (v_) if (v_) { do v_; while (v_)\n@ }", true}, {2, "for (; ;) { { while (v_) { } }\n@ }", true},
		{2, "while (v_) { }\n@", false}, {2, "do break; while (v_)\n@", false}, {2, "for (; ;) continue\n@", false}, {2, "for (v_ in t_) { }\n@", false}, {2, "if (v_) { while (v_) { break }\n@ }", false}, {4, "{ while (v_)\nif (v_)\nv_;\n@ }", false},
	}
	var places []stmtPlace
	for _, it := range items {
		ahead := strings.Count(it.text[:strings.Index(it.text, "@")], "\n")
		for _, body := range bodies {
			places = append(places, stmtPlace{place{ahead + body.line, strings.ReplaceAll(it.text, "@", body.text)}, body.loop, it.rule, it.function})
		}
	}
	return places
}

// faultyEverywhere says what is wrong with an expression, wherever it stands.
func faultyEverywhere(t *testing.T, err api.Errno, e string) {
	t.Helper()
	for _, p := range exprPlaces() {
		faulty(t, err, p.line, p.with("("+e+")"))
	}
}

// rightEverywhere says that an expression has no fault, wherever it stands.
func rightEverywhere(t *testing.T, e string) {
	t.Helper()
	for _, p := range exprPlaces() {
		isRight(t, p.with("("+e+")"))
	}
}

// The places themselves have no fault.
func TestPlaces(t *testing.T) {
	for _, e := range []string{"v_", "1", "w_[1]", "g_(1)", "g_()", "w_[g_(v_)]", "length(w_)"} {
		rightEverywhere(t, e)
	}
	for _, p := range stmtPlaces() {
		isRight(t, p.with("v_"))
	}
}
