package net

// Hasten brings a net to a tick: by its calls alone nobody comes near the last one.
func (n *Net) Hasten(now uint64) { n.now = now }
