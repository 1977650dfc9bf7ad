package match

import "winnower/api"

// act is what a state does.
type act uint8

const (
	goal  act = iota // the tree has taken what it takes
	take             // goes on to next by a byte of set
	fork             // goes on to next and to other
	begin            // goes on to next at the text's begin
	end              // goes on to next at the text's end
)

// state is one of the steps in which a text is taken; next and other are states
// by their places in the list.
type state struct {
	act         act
	set         api.Set
	next, other int
}

// builder lays states, the last ones first, so that what a state goes on to is
// there ahead of it. A tree has fewer than twice as many states as its size.
type builder struct {
	states []state
}

func (b *builder) add(s state) int {
	b.states = append(b.states, s)
	return len(b.states) - 1
}

// tree lays a right tree's states ahead of the state next, and tells the one
// with which they begin.
func (b *builder) tree(r api.Re, next int) int {
	switch r.Kind {
	case api.ReSet:
		return b.add(state{act: take, set: r.Set, next: next})
	case api.ReBegin:
		return b.add(state{act: begin, next: next})
	case api.ReEnd:
		return b.add(state{act: end, next: next})
	case api.ReCat:
		for i := len(r.Kids) - 1; i >= 0; i-- {
			next = b.tree(r.Kids[i], next)
		}
	case api.ReAlt:
		return b.ways(r.Kids, next)
	case api.ReTimes:
		return b.times(r.Kids[0], r.Min, r.Max, next)
	}
	return next
}

func (b *builder) ways(kids []api.Re, next int) int {
	first := b.tree(kids[0], next)
	for _, kid := range kids[1:] {
		first = b.add(state{act: fork, next: first, other: b.tree(kid, next)})
	}
	return first
}

func (b *builder) times(kid api.Re, least, most, next int) int {
	if most < 0 {
		loop, body := b.loop(kid, next)
		if least == 0 {
			return loop
		}
		// The loop's kid is the last one of those that must be: with one more
		// of it each + within a + would double the states.
		return b.row(kid, least-1, body)
	}
	first := next
	for range most - least {
		first = b.add(state{act: fork, next: b.tree(kid, first), other: next})
	}
	return b.row(kid, least, first)
}

// loop lays a kid that is taken any number of times, and tells two states with
// which that may begin: of any number, and of one at least.
func (b *builder) loop(kid api.Re, next int) (loop, body int) {
	loop = b.add(state{act: fork, other: next})
	body = b.tree(kid, loop)
	b.states[loop].next = body
	return loop, body
}

// row lays a kid so many times, one behind the other.
func (b *builder) row(kid api.Re, times, next int) int {
	for range times {
		next = b.tree(kid, next)
	}
	return next
}
