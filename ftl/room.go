package ftl

import (
	"tinderbox/api"
	"tinderbox/nand"
)

const (
	blocksPerSpare = 8

	// How many bytes records have at most: of a page that is put, of a space that is made and sealed, of a block that is bad and worn, of a place that is moved.
	putLen   = 9
	spaceLen = 9
	blockLen = 11
	moveLen  = 7

	// Each record is whole in one page: so many bytes may be left over behind the last one.
	leftOver = putLen - 1

	// The reserve has so many pages beside those that are reckoned.
	besides = 8
)

// RoomOf is what a chip has room for.
func RoomOf(g api.Geometry) api.Room {
	if !nand.Check(g) {
		return api.Room{}
	}
	spare := g.Blocks / blocksPerSpare
	most := (g.Blocks-spare)*g.Pages - g.Pages
	places := 0
	for takes(g, places+1) <= most {
		places++
	}
	return api.Room{Places: places, Keys: 2 * places, Reserve: reserve(g, places), Spare: spare}
}

// Check tells whether there is room on a chip.
func Check(g api.Geometry) bool { return RoomOf(g).Places >= api.LeastRoom }

// takes is how many pages a chip must have for so many places: twice as many, as blocks that are cleared are not full of what is needed, the reserve, and what one commit puts.
func takes(g api.Geometry, places int) int {
	return 2*places + reserve(g, places) + api.MostTx
}

// reserve is how many pages stay free for so many places: two blocks, two checkpoints, the records of two commits, and some.
func reserve(g api.Geometry, places int) int {
	checkpoint := pagesOf(checkpointLen(2*places, api.MostSpace, g.Blocks), g.Size)
	records := pagesOf(api.MostTx*putLen+g.Blocks*blockLen, g.Size)
	return 2*g.Pages + 2*checkpoint + 2*records + besides
}

// checkpointLen is how many bytes the records of a checkpoint have at most.
func checkpointLen(keys, spaces, blocks int) int {
	return keys*putLen + spaces*spaceLen + blocks*blockLen
}

// pagesOf is how many pages records take at most that have so many bytes.
func pagesOf(bytes, size int) int {
	packed := size - leftOver
	return (bytes + packed - 1) / packed
}
