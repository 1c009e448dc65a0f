package angle

import (
	"slices"

	"arbor/api"
	"arbor/graph"
	"arbor/rotation"
)

// none stands in place of a great angle's half edge where there is none.
const none = -1

// Assign gives an outer face, and for each source and sink its great angle; false: there is none.
func Assign(g api.Graph, r rotation.Rotation) (outer int, great []int, ok bool) {
	if !canBeTold(g, r) {
		return 0, nil, false
	}
	angles := anglesOf(g, r)
	if !fewPlain(g.Vertices, angles) {
		return 0, nil, false
	}
	if len(angles) == 0 {
		return 0, []int{none}, true // a vertex alone, which has no angle that could be great
	}
	choices := choicesOf(g, angles)
	room := innerRoom(angles, len(rotation.Faces(g, r)))
	for outer := range room {
		if great, ok := fit(angles, choices, room, outer); ok {
			return outer, great, true
		}
	}
	return 0, nil, false
}

// choicesOf gives for each source and each sink its angles, and for other vertices none.
func choicesOf(g api.Graph, angles []Angle) [][]Angle {
	choices := make([][]Angle, g.Vertices)
	for _, a := range angles {
		choices[a.Vertex] = append(choices[a.Vertex], a)
	}
	v := graph.Of(g)
	ends := slices.Concat(v.Sources(), v.Sinks())
	for x := range choices {
		if !slices.Contains(ends, x) {
			choices[x] = nil
		}
	}
	return choices
}

// innerRoom gives for each face how many of its angles are great, if another one is the outer face.
func innerRoom(angles []Angle, faces int) []int {
	room := make([]int, faces)
	for f := range room {
		room[f] = -1
	}
	for _, a := range angles {
		if a.Kind == High {
			room[a.Face]++
		}
	}
	return room
}

// fit gives for each vertex the half edge of its great angle, so that they fit with that outer face.
func fit(angles []Angle, choices [][]Angle, room []int, outer int) ([]int, bool) {
	s := seating{angles: angles, choices: choices, room: slices.Clone(room)}
	s.room[outer] += 2
	s.great = make([]int, len(choices))
	for x := range s.great {
		s.great[x] = none
	}
	for x, mine := range choices {
		if len(mine) > 0 && !s.seat(x, make([]bool, len(room))) {
			return nil, false
		}
	}
	// Where no vertex has more than two plain angles, there is as much room in all as there are sources and sinks: so no face has any left.
	return s.great, true
}

// seating is sources and sinks, each of which takes a seat in a face at one of its angles.
type seating struct {
	angles  []Angle
	choices [][]Angle
	room    []int
	great   []int
}

// seat gives the vertex a seat; others may have to move, to faces that haven't been tried yet.
func (s *seating) seat(x int, tried []bool) bool {
	for _, a := range s.choices[x] {
		if tried[a.Face] {
			continue
		}
		tried[a.Face] = true
		if s.room[a.Face] > 0 || s.moveOne(a.Face, tried) {
			s.room[a.Face]--
			s.great[x] = a.Half
			return true
		}
	}
	return false
}

// moveOne moves one of those that have a seat in a face to another one, if it can be done.
func (s *seating) moveOne(face int, tried []bool) bool {
	for y, h := range s.great {
		if h != none && s.angles[h].Face == face && s.seat(y, tried) {
			s.room[face]++
			return true
		}
	}
	return false
}
