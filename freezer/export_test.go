package freezer

// OpenWith opens a freezer whose tables' parts have so much room: little, so that a test has many of them.
var OpenWith = open

const PartBytes = partBytes
