package match

import "winnower/api"

// thread is something that is being taken: the state that it has come to, and
// the place from which on it is taken.
type thread struct {
	state, start int
}

// search finds the pattern from a place on. What is taken from all places goes
// through the text side by side, byte by byte. Each state is on the list once,
// for the first start that comes to it: a later one could only find what that
// one finds.
func (m *Matcher) search(s string, from int) (at, n int, found bool) {
	here := from
	for !m.mayStart(s, here) {
		here++
	}
	var list, past []thread
	start := here
	w := newWalker(m.states, func(i int) {
		if m.states[i].act == take {
			list = append(list, thread{i, start})
			return
		}
		// The list is in the order of starts, and none behind the one that was
		// found goes on: this one stands farther ahead, or goes farther.
		at, n, found = start, here-start, true
	})
	for {
		if !found && m.mayStart(s, here) {
			start = here
			w.walk(m.first, here, len(s))
		}
		if here == len(s) || found && len(list) == 0 {
			return at, n, found
		}
		b := s[here]
		here++
		list, past = past[:0], list
		for _, t := range past {
			if found && t.start > at {
				break
			}
			if st := &m.states[t.state]; has(&st.set, b) {
				start = t.start
				w.walk(st.next, here, len(s))
			}
		}
	}
}

// mayStart says whether something may be taken from a place on. At the text's
// begin and end it hangs on more than the byte there.
func (m *Matcher) mayStart(s string, at int) bool {
	return at == 0 || at == len(s) || has(&m.starts, s[at])
}

// findStarts notes the bytes from which on something is taken inside of a text:
// all of them, if nothing may be taken.
func (m *Matcher) findStarts() {
	w := newWalker(m.states, func(i int) {
		for k, word := range m.states[i].set {
			m.starts[k] |= word
			if m.states[i].act == goal {
				m.starts[k] = ^uint64(0)
			}
		}
	})
	w.walk(m.first, 1, 2)
}

func has(s *api.Set, b byte) bool {
	return s[b/64]>>(b%64)&1 != 0
}

// walker goes from a state on to all that are reached without a byte, and puts
// those where that ends: the goal, and states that take a byte. At one place it
// comes to each state once.
type walker struct {
	states []state
	seen   []int // by states: the place where it came to one last, and 1
	open   []int // states that it has still to go to
	put    func(i int)
}

func newWalker(states []state, put func(i int)) *walker {
	return &walker{states: states, seen: make([]int, len(states)), put: put}
}

// walk goes from the state i at a place of a text that has so many bytes.
func (w *walker) walk(i, at, length int) {
	for {
		if w.seen[i] != at+1 {
			w.seen[i] = at + 1
			switch st := &w.states[i]; {
			case st.act == fork:
				w.open = append(w.open, st.other)
				i = st.next
				continue
			case st.act == begin && at == 0, st.act == end && at == length:
				i = st.next
				continue
			case st.act == take, st.act == goal:
				w.put(i)
			}
		}
		last := len(w.open) - 1
		if last < 0 {
			return
		}
		i, w.open = w.open[last], w.open[:last]
	}
}
