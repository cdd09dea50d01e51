package circ

import "spoondrift/api"

// Layers returns the layer of each gate.
func Layers(c api.Circuit) ([]int, api.Errno) {
	w, e := workOf(c)
	return w.layers(), e
}

// layers puts one gate after the other behind those before it that it meets.
func (w work) layers() []int {
	w.near = gate.meets
	var layers []int
	put := func(number int) {
		layer := 0
		for i := range w.neighbours(number, 0, number) {
			layer = max(layer, layers[i]+1)
		}
		layers = append(layers, layer)
	}
	for number := range len(w.gates) {
		put(number)
	}
	return layers
}

// Depth returns how many layers there are.
func Depth(c api.Circuit) (int, api.Errno) {
	w, e := workOf(c)
	depth := 0
	for _, layer := range w.layers() {
		depth = max(depth, layer+1)
	}
	return depth, e
}

// Count returns how many gates there are of each kind, X first.
func Count(c api.Circuit) ([14]int, api.Errno) {
	w, e := workOf(c)
	var count [14]int
	for _, g := range w.gates {
		count[g.kind-1]++
	}
	return count, e
}

// Used returns the wires that a gate has, rising.
func Used(c api.Circuit) ([]int, api.Errno) {
	w, e := workOf(c)
	var used [api.MaxWires]bool
	for _, g := range w.gates {
		for _, wire := range g.wires[:Arity(g.kind)] {
			used[wire] = true
		}
	}
	var l []int
	for wire, is := range used {
		if is {
			l = append(l, wire)
		}
	}
	return l, e
}
