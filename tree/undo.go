package tree

// keep what undoes the change that was just made, or is made next.
func (t *Tree) keep(undo func()) {
	t.undos = append(t.undos, undo)
}

// forget: a function that unmakes the nodes that are made from now on. (When it is called, all that was done to them is undone.)
func (t *Tree) forget() func() {
	size := len(t.nodes)
	return func() {
		clear(t.nodes[size:])
		t.nodes = t.nodes[:size]
	}
}

// Undo the last change.
func (t *Tree) Undo() bool {
	last := len(t.undos) - 1
	if last < 0 {
		return false
	}
	undo := t.undos[last]
	t.undos[last] = nil
	// No room is left behind the cut: what comes next stands in a list of its own, and one that was long is let go.
	t.undos = t.undos[:last:last]
	undo()
	return true
}

// Settle: nothing so far can be undone any more.
func (t *Tree) Settle() {
	t.undos = nil
}
