"""Light made even: scanned pages turned into black and white, by whole numbers alone."""
