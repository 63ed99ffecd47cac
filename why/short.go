package why

import "slices"

// needed keeps of a list of steps the last one and those that it hangs on: all that can be found may be more than a proof may have.
func needed(l []Step) []Step {
	isNeeded := make([]bool, len(l))
	isNeeded[len(l)-1] = true
	for n, s := range slices.Backward(l) {
		for _, ahead := range []int{s.From, s.By} {
			if isNeeded[n] && ahead != none {
				isNeeded[ahead] = true
			}
		}
	}
	var kept []Step
	number := map[int]int{none: none} // among those that are kept
	for n, s := range l {
		if isNeeded[n] {
			number[n] = len(kept)
			s.From, s.By = number[s.From], number[s.By]
			kept = append(kept, s)
		}
	}
	return kept
}

// shortened lets go, while a proof has more than so many steps, of those without which its last one can be proven too. What comes to a node first need not be what serves most often: so the proof that was found first can be twice as long as it must be.
func (b rulebook) shortened(l []Step, most int) []Step {
	want := tells(l[len(l)-1])
	for _, s := range slices.Backward(l) {
		if len(l) <= most {
			break
		}
		if less, ok := b.search(want, without(l, tells(s))); ok {
			l = needed(less)
		}
	}
	return l
}

// without makes the question whether a fact is told by steps, and is not this one.
func without(l []Step, f fact) func(g fact) bool {
	told := map[fact]struct{}{}
	for _, s := range l {
		told[tells(s)] = struct{}{}
	}
	return func(g fact) bool {
		_, is := told[g]
		return is && g != f
	}
}
